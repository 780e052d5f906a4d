/- Copies of numbers, and of lists of numbers. -/
import Derived.Test.YtjmgfpldjccilaaGreatDoorCpMem
import Derived.Test.YtjmgfpldjccilaaGreatDoorIntMem
import Derived.Test.YtjmgfpldjccilaaGreatDoorIntEq
namespace Go.Proofs.YtjmgfpldjccilaaGreatDoor
open Go Go.RowKit Go.PlainAid
set_option linter.unusedSimpArgs false
set_option linter.unusedVariables false

theorem ints_mv {g n p : Nat} {w w' : World} {l : List Int} (h : IsInts w.heap.size w (some ⟨g, 0, none⟩) n l) (hm : Mv p w w') (hne : g ≠ p) : IsInts w'.heap.size w' (some ⟨g, 0, none⟩) n l := by
  obtain ⟨h1, h2⟩ := h
  refine ⟨h1, ?_⟩
  rcases h2 with h2 | ⟨q, o, e, hlt, hc⟩
  · exact .inl h2
  · cases e
    exact .inr ⟨g, 0, rfl, Nat.lt_of_lt_of_le hlt hm.size, fun i hi => (World.cell?_of_block (hm.block g hlt hne)).trans (hc i hi)⟩
theorem IsInts.up {w w' : World} {a : Option Addr} {n : Nat} {vs : List Int} (h : IsInts w.heap.size w a n vs) (hb : Below w.heap.size w w') : IsInts w'.heap.size w' a n vs := (h.below hb).mono hb.size
/-- a copy of numbers: it lies in a block from L on, and may be written -/
def CInt (n : Nat) (vs : List Int) (L g : Nat) (w : World) : Prop := L ≤ g ∧ Open g n w ∧ IsInts w.heap.size w (some ⟨g, 0, none⟩) n vs
theorem CInt.mv {n : Nat} {vs : List Int} {L g p : Nat} {w w' : World} (h : CInt n vs L g w) (hm : Mv p w w') (hp : p < L) : CInt n vs L g w' :=
  ⟨h.1, h.2.1.mv hm (by have := h.1; omega), ints_mv h.2.2 hm (by have := h.1; omega)⟩
theorem CInt.below {n : Nat} {vs : List Int} {L g : Nat} {w w' : World} (h : CInt n vs L g w) (hb : Below w.heap.size w w') : CInt n vs L g w' := ⟨h.1, h.2.1.below hb, h.2.2.up hb⟩
theorem CInt.is {n : Nat} {vs : List Int} {L g : Nat} {w : World} (h : CInt n vs L g w) : IsInts w.heap.size w (some ⟨g, 0, none⟩) n vs := h.2.2
end Go.Proofs.YtjmgfpldjccilaaGreatDoor
