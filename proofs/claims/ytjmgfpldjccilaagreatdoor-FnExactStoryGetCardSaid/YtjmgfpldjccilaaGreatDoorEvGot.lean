/- What a text is as an event. -/
import Derived.Test.YtjmgfpldjccilaaGreatDoorEvTab
import Derived.Test.YtjmgfpldjccilaaGreatDoorFreeI
namespace Go.Proofs.YtjmgfpldjccilaaGreatDoor
open Go Go.RowKit Go.PlainAid
set_option linter.unusedSimpArgs false
set_option linter.unusedVariables false

/-- what a text is as an event -/
def GotE (s : ByteArray) (e : Ev) (b : Bool) : Prop := (b = true ∧ OkE e ∧ s = bt8 (evT e)) ∨ (b = false ∧ e = (0, 0, 0, []) ∧ ∀ f : Ev, OkE f → s ≠ bt8 (evT f))
theorem GotE.same {s : ByteArray} {e e' : Ev} {b b' : Bool} (h : GotE s e b) (h' : GotE s e' b') : e = e' ∧ b = b' := by
  rcases h with ⟨h1, h2, h3⟩ | ⟨h1, h2, h3⟩ <;> rcases h' with ⟨g1, g2, g3⟩ | ⟨g1, g2, g3⟩
  · exact ⟨evT_inj h2 g2 (bt8_inj (by rw [← h3, ← g3])), by rw [h1, g1]⟩
  · exact absurd h3 (g3 _ h2)
  · exact absurd g3 (h3 _ g2)
  · exact ⟨by rw [h2, g2], by rw [h1, g1]⟩
def EvGot (s : ByteArray) (B : Nat) (w : World) (e : Ending) (w' : World) : Prop :=
  ∃ (k t m : Int) (a : Option Addr) (n c : Nat) (l : List Int) (b : Bool), e = .returned (.tuple #[.agg #[.int .i64 k, .int .i64 t, .int .i64 m, .slice a n c], .bool b]) ∧ FreeI B w' a n l ∧ n ≤ c ∧ GotE s (k, t, m, l) b ∧ Below w.heap.size w w'
theorem txt_ne {x y : ByteArray} (h : x ≠ y) : (x.toList == y.toList) = false := by
  simp only [beq_eq_false_iff_ne, ne_eq]
  intro e; exact h (by rw [Lib.toList_data, Lib.toList_data] at e; exact ByteArray.ext (Array.toList_inj.1 e))
end Go.Proofs.YtjmgfpldjccilaaGreatDoor
