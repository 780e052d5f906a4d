/- The reader of drawn bytes: of. -/
import Derived.Test.YtjmgfpldjccilaaGreatDoorPick
namespace Go.Proofs.YtjmgfpldjccilaaGreatDoor
open Go Go.RowKit Go.PlainAid
set_option linter.unusedSimpArgs false
set_option linter.unusedVariables false

/-- a row of texts that is not the reader's own -/
def RowS (w : World) (p : Nat) (a : Option Addr) (l : List ByteArray) : Prop := ∃ b off, a = some ⟨b, off, none⟩ ∧ b ≠ p ∧ ∀ i, (h : i < l.length) → w.cell? ⟨b, off + i, none⟩ = some (.string l[i])

set_option maxHeartbeats 800000 in
set_option maxRecDepth 100000 in
theorem of_any (p : Nat) (a : Option Addr) (n cap : Nat) (bs : List Int) (k : Nat) (a' : Option Addr) (m cap' : Nat) (l : List ByteArray) (w : World) (hk : k ≤ 1000000) (hr : RdAt w p a n cap bs k) (hl : l.length = m) (h1 : 1 ≤ m) (hm : m ≤ 1000) (hrow : RowS w p a' l) :
    Calls Tryz.prog 47 #[.pointer (some ⟨p, 0, none⟩), .slice a' m cap'] w fun e w' => ∃ y, y ∈ l ∧ e = .returned (.string y) ∧ ∃ d, w' = (w.setCell ⟨p, 1, none⟩ (.int .i64 ((k + 1 : Nat) : Int))).drewN d := by
  obtain ⟨b, off, rfl, hbp, hc⟩ := hrow
  have HR : Hid (RdAt w p a n cap bs k) := hr
  have hpw : p < w.heap.size := World.block_lt_of_cell? w _ hr.cp
  obtain ⟨K, hK⟩ : ∃ K : Int, ((k + 1 : Nat) : Int) = K := ⟨_, rfl⟩
  have HK : Hid (((k + 1 : Nat) : Int) = K) := hK
  rw [hK]
  clear hK hr
  go_enter Tryz.func47, Tryz.ntmps47
  go_wp2_with fail
  refine (pick_any p a n cap bs k m _ hk (by omega) HR.out).mono ?_
  rw [HK.out]
  rintro e w1 ⟨v, rfl, v0, v1, d, rfl⟩
  have v2 := v1 (by omega)
  obtain ⟨j, rfl⟩ : ∃ j : Nat, v = j := ⟨v.toNat, by omega⟩
  have hj : j < l.length := by omega
  have hcj := hc j hj
  obtain ⟨y, hy⟩ : ∃ y, l[j] = y := ⟨_, rfl⟩
  have HY : Hid (y ∈ l) := by rw [← hy]; exact List.getElem_mem hj
  rw [hy] at hcj
  have hjm : j < m := by omega
  clear hc hy v1
  go_wp2_with fail
  go_ret
  exact ⟨y, HY.out, rfl, _, rfl⟩

end Go.Proofs.YtjmgfpldjccilaaGreatDoor
