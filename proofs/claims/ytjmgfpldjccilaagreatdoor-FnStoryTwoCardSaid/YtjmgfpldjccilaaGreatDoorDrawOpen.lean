/- What drawing leaves of memory; l11Open. -/
import Derived.Test.YtjmgfpldjccilaaGreatDoorDrawOf
import Derived.Test.YtjmgfpldjccilaaGreatDoorRdMem
namespace Go.Proofs.YtjmgfpldjccilaaGreatDoor
open Go Go.RowKit Go.PlainAid
set_option linter.unusedSimpArgs false
set_option linter.unusedVariables false

theorem row_new (w : World) (p : Nat) (hp : p < w.heap.size) (l : List ByteArray) (t : TypeId) : RowS (w.alloc (.cells (l.map Value.string).toArray t)) p (some ⟨w.heap.size, 0, none⟩) l := by
  refine ⟨w.heap.size, 0, rfl, by omega, fun i hi => ?_⟩
  simp [go_sem, hi]
theorem of_new (w : World) (p : Nat) (a : Option Addr) (n cap : Nat) (bs : List Int) (k : Nat) (l : List ByteArray) (t : TypeId) (m : Nat) (hk : k ≤ 1000000) (hr : RdAt w p a n cap bs k) (hm : l.length = m) (h1 : 1 ≤ m) (h2 : m ≤ 1000) :
    Calls Tryz.prog 47 #[.pointer (some ⟨p, 0, none⟩), .slice (some ⟨w.heap.size, 0, none⟩) m m] (w.alloc (.cells (l.map Value.string).toArray t)) fun e w' => ∃ y, e = .returned (.string y) ∧ y ∈ l ∧ RdAt w' p a n cap bs (k + 1) ∧ Mv p w w' := by
  have hb : Below w.heap.size w (w.alloc (.cells (l.map Value.string).toArray t)) := (Below.refl _ _).alloc (Nat.le_refl _) _
  refine (of_any p a n cap bs k _ m m l _ hk (hr.below hb) hm h1 h2 (row_new w p hr.lt l t)).mono ?_
  rintro e w' ⟨y, hy, rfl, d, rfl⟩
  exact ⟨y, rfl, hy, (hr.below hb).step d, (Mv.of_below hb).trans (Mv.step _ _ _ _)⟩
end Go.Proofs.YtjmgfpldjccilaaGreatDoor
