/- Drawn values: l11Vals, where nothing of the sums is at hand. -/
import Derived.Test.YtjmgfpldjccilaaGreatDoorOneAt
import Derived.Test.YtjmgfpldjccilaaGreatDoorOwnJ
import Derived.Deep.AppendLies
namespace Go.Proofs.YtjmgfpldjccilaaGreatDoor
open Go Go.RowKit Go.PlainAid
set_option linter.unusedSimpArgs false
set_option linter.unusedVariables false

theorem OwnI.mv {B p : Nat} {w w' : World} {v : Value} {l : List Int} (h : OwnI B w v l) (hp : p < B) (hm : Mv p w w') : OwnI B w' v l :=
  own_of_block h (fun g hg => hm.block g (World.ownsRow.lt h g hg).2 (by have := (World.ownsRow.lt h g hg).1; omega))

theorem Mv.trans' {p : Nat} {w w1 w5 : World} {o : Obj} {g : Nat} (h : Mv p w w1) (hg : (w1.alloc o).grownBy w5 (some g)) (hgB : w.heap.size ≤ g) : Mv p w w5 := by
  have h1 := hg.size
  have h2 := h.size
  refine ⟨hg.os.trans h.os, hg.tape.trans h.tape, hg.output.trans h.output, by simp at h1; omega, fun b hb hne => ?_⟩
  exact ((hg.block b (by simp; omega) (fun e => by simp at e; omega)).trans (Below.heap_alloc _ _ _ (by omega))).trans (h.block b hb hne)

set_option maxHeartbeats 800000 in
set_option maxRecDepth 100000 in
theorem l11Vals_any (p : Nat) (a : Option Addr) (n cap : Nat) (bs : List Int) (k m : Nat) (w : World) (hk : k ≤ 100000) (hm : m ≤ 100) (hr : RdAt w p a n cap bs k) :
    Calls Tryz.prog 46 #[.pointer (some ⟨p, 0, none⟩), .int .i64 m] w fun e w' => ∃ v l, e = .returned v ∧ l.length = m ∧ OwnI w.heap.size w' v l ∧ RdAt w' p a n cap bs (k + m) ∧ Mv p w w' := by
  have HR : Hid (RdAt w p a n cap bs k) := hr
  have hp := hr.lt
  clear hr
  obtain ⟨i0, hi, hz0, hz1, hz2⟩ := info_parts infoInt
  go_enter Tryz.func46, Tryz.ntmps46
  go_wp2_with fail
  go_loopw [5] (fun u wr => ∃ (l : List Int) (g c : Nat), l.length ≤ m ∧ u = .slice (some ⟨g, 0, none⟩) l.length c ∧ Hid (OwnI w.heap.size wr u l) ∧ Hid (RdAt wr p a n cap bs (k + l.length)) ∧ Hid (Mv p w wr)) (fun u _ => m - (match u with | .slice _ n _ => n | _ => 0))
  case atStart =>
    refine ⟨[], w.heap.size, 0, Nat.zero_le _, rfl, ?_, ?_, ?_⟩
    · exact World.ownsRow_made w #[] 0 (Nat.le_refl _) (Nat.zero_le _) rfl
    · exact HR.out.below ((Below.refl _ _).alloc (Nat.le_refl _) _)
    · exact Mv.of_below ((Below.refl _ _).alloc (Nat.le_refl _) _)
  case round =>
    obtain ⟨l, g, c, hl, rfl, HO, HR1, HM⟩ := hrel
    have hmz := HM.out.size
    obtain ⟨L, hL⟩ : ∃ L, l.length = L := ⟨_, rfl⟩
    have HL : Hid (l.length = L) := hL
    rw [hL] at HO HR1 hl
    rw [hL]
    clear hL
    by_cases hlt : L < m
    · go_wp2_with fail
      refine (one_newI wr p a n cap bs (k + L) [0, 0, 1, 1, 2, 5, 10, -1, -7, 100, 2147483647, -2147483648] 3 12 (by omega) HR1.out rfl (by decide) (by decide)).mono ?_
      rintro e w1 ⟨y, rfl, hy, hr1, hm1⟩
      have HR2 : Hid (RdAt w1 p a n cap bs (k + L + 1)) := hr1
      have HM2 : Hid (Mv p w w1) := HM.out.trans hm1
      have HO2 : Hid (OwnI w.heap.size w1 (.slice (some ⟨g, 0, none⟩) L c) l) := HO.out.mv hp hm1
      have hmz2 := HM2.out.size
      clear hy hr1 hm1
      have hgB : w.heap.size ≤ g := (World.ownsRow.lt HO2.out g rfl).1
      have HN2 : Hid (w1.ownsRow w.heap.size 3 1 (.slice (some ⟨g, 0, none⟩) L c) L (l.map (Value.int .i64))) := by
        have := HO2.out
        unfold OwnI at this
        rw [HL.out] at this
        exact this
      go_wp2_with (at_builtin; refine wpList_append_lies _ rfl (.tmp 11) (.tmp 15) 24 rfl w.heap.size 3 i0 (.int .i64 0) 1 8 Tryz.underlying24 hi hz0 hz1 hz2 rfl (by decide) _ _ _ rfl (World.ownsRow.alloc HN2.out _) ⟨w1.heap.size, 0, none⟩ 1 1 [.int .i64 y] rfl rfl (by exact one_new _ _ _) (by intro u hu; simp at hu; subst hu; rfl) (by decide) (by unfold maxLen; omega) (by omega) (by simp; omega) _ rfl ?_)
      intro g1 c1 w5 ho1 hg1 hat1 hl1
      have hg1 : (w1.alloc (.cells #[.int .i64 y] 3)).grownBy w5 (some g) := hg1
      have hz5 : w1.heap.size + 1 ≤ w5.heap.size := by simpa using hg1.size
      have hblk : ∀ b, b < w1.heap.size → b ≠ g → w5.heap[b]? = w1.heap[b]? := fun b h1 h2 => (hg1.block b (by simp; omega) (fun e => h2 (by simp at e; omega))).trans (Below.heap_alloc _ _ _ h1)
      have HR5 : Hid (RdAt w5 p a n cap bs (k + (L + 1))) := HR2.out.old (fun b hb => hblk b (by omega) (by omega))
      have HM5 : Hid (Mv p w w5) := HM2.out.trans' hg1 hgB
      have HO5 : Hid (OwnI w.heap.size w5 (.slice (some ⟨g1, 0, none⟩) (L + 1) c1) (l ++ [y])) := by
        show OwnI _ _ _ _
        unfold OwnI
        rw [List.length_append, HL.out, List.map_append]
        exact ho1
      clear ho1 hg1 hat1 hl1 hblk hz5
      go_wp2_with fail
      go_roundw
      case rel => exact ⟨l ++ [y], g1, c1, by rw [List.length_append, HL.out]; simp; omega, by rw [List.length_append, HL.out]; rfl, HO5.out, by rw [List.length_append, HL.out]; exact HR5.out, HM5.out⟩
      case measure => simp; omega
    · go_wp2_with fail
      go_ret
      have hLm : L = m := by omega
      exact ⟨_, l, rfl, HL.out.trans hLm, HO.out, hLm ▸ HR1.out, HM.out⟩
end Go.Proofs.YtjmgfpldjccilaaGreatDoor
