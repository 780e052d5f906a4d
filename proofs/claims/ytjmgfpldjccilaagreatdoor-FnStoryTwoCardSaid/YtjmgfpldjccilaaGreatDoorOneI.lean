/- The reader of drawn bytes: one. -/
import Derived.Test.YtjmgfpldjccilaaGreatDoorRdMem
namespace Go.Proofs.YtjmgfpldjccilaaGreatDoor
open Go Go.RowKit Go.PlainAid
set_option linter.unusedSimpArgs false
set_option linter.unusedVariables false

def RowI (w : World) (p : Nat) (a : Option Addr) (l : List Int) : Prop := ∃ b off, a = some ⟨b, off, none⟩ ∧ b ≠ p ∧ ∀ i, (h : i < l.length) → w.cell? ⟨b, off + i, none⟩ = some (.int .i64 l[i])
set_option maxHeartbeats 800000 in
set_option maxRecDepth 100000 in
theorem one_any (p : Nat) (a : Option Addr) (n cap : Nat) (bs : List Int) (k : Nat) (a' : Option Addr) (m cap' : Nat) (l : List Int) (w : World) (hk : k ≤ 1000000) (hr : RdAt w p a n cap bs k) (hl : l.length = m) (h1 : 1 ≤ m) (hm : m ≤ 1000) (hrow : RowI w p a' l) :
    Calls Tryz.prog 45 #[.pointer (some ⟨p, 0, none⟩), .slice a' m cap'] w fun e w' => ∃ y, y ∈ l ∧ e = .returned (.int .i64 y) ∧ ∃ d, w' = (w.setCell ⟨p, 1, none⟩ (.int .i64 ((k + 1 : Nat) : Int))).drewN d := by
  obtain ⟨b, off, rfl, hbp, hc⟩ := hrow
  have HR : Hid (RdAt w p a n cap bs k) := hr
  have hpw : p < w.heap.size := World.block_lt_of_cell? w _ hr.cp
  obtain ⟨K, hK⟩ : ∃ K : Int, ((k + 1 : Nat) : Int) = K := ⟨_, rfl⟩
  have HK : Hid (((k + 1 : Nat) : Int) = K) := hK
  rw [hK]
  clear hK hr
  go_enter Tryz.func45, Tryz.ntmps45
  go_wp2_with fail
  refine (pick_any p a n cap bs k m _ hk (by omega) HR.out).mono ?_
  rw [HK.out]
  rintro e w1 ⟨v, rfl, v0, v1, d, rfl⟩
  have v2 := v1 (by omega)
  obtain ⟨j, rfl⟩ : ∃ j : Nat, v = j := ⟨v.toNat, by omega⟩
  have hj : j < l.length := by omega
  have hcj := hc j hj
  obtain ⟨y, hy⟩ : ∃ y, l[j] = y := ⟨_, rfl⟩
  have HY : Hid (y ∈ l) := by rw [← hy]; exact List.getElem_mem hj
  rw [hy] at hcj
  have hjm : j < m := by omega
  clear hc hy v1
  go_wp2_with fail
  go_ret
  exact ⟨y, HY.out, rfl, _, rfl⟩
theorem row_newI (w : World) (p : Nat) (hp : p < w.heap.size) (l : List Int) (t : TypeId) : RowI (w.alloc (.cells (l.map (Value.int .i64)).toArray t)) p (some ⟨w.heap.size, 0, none⟩) l := by
  refine ⟨w.heap.size, 0, rfl, by omega, fun i hi => ?_⟩
  simp [go_sem, hi]
theorem one_newI (w : World) (p : Nat) (a : Option Addr) (n cap : Nat) (bs : List Int) (k : Nat) (l : List Int) (t : TypeId) (m : Nat) (hk : k ≤ 1000000) (hr : RdAt w p a n cap bs k) (hm : l.length = m) (h1 : 1 ≤ m) (h2 : m ≤ 1000) :
    Calls Tryz.prog 45 #[.pointer (some ⟨p, 0, none⟩), .slice (some ⟨w.heap.size, 0, none⟩) m m] (w.alloc (.cells (l.map (Value.int .i64)).toArray t)) fun e w' => ∃ y, e = .returned (.int .i64 y) ∧ y ∈ l ∧ RdAt w' p a n cap bs (k + 1) ∧ Mv p w w' := by
  have hb : Below w.heap.size w (w.alloc (.cells (l.map (Value.int .i64)).toArray t)) := (Below.refl _ _).alloc (Nat.le_refl _) _
  refine (one_any p a n cap bs k _ m m l _ hk (hr.below hb) hm h1 h2 (row_newI w p hr.lt l t)).mono ?_
  rintro e w' ⟨y, hy, rfl, d, rfl⟩
  exact ⟨y, rfl, hy, (hr.below hb).step d, (Mv.of_below hb).trans (Mv.step _ _ _ _)⟩
end Go.Proofs.YtjmgfpldjccilaaGreatDoor
