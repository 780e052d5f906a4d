/- What is left of a size, and sums over lists. -/
import Derived.Test.YtjmgfpldjccilaaGreatDoorCommon
namespace Go.Proofs.YtjmgfpldjccilaaGreatDoor
open Go Go.RowKit Go.PlainAid
set_option linter.unusedSimpArgs false
set_option linter.unusedVariables false

/-- what is left, and that what was counted is small -/
def SzP (W : Nat) (left : Int) (w : World) (e : Ending) (w' : World) : Prop := ∃ r : Int, e = .returned (.int .i64 r) ∧ Below w.heap.size w w' ∧ r ≤ left ∧ -1 ≤ r ∧ (0 ≤ r → r + W = left)
def wsum {α : Type} (f : α → Nat) (l : List α) : Nat := (l.map f).sum
theorem wsum_take {α : Type} (f : α → Nat) (l : List α) {k : Nat} (h : k < l.length) : wsum f (l.take (k + 1)) = wsum f (l.take k) + f l[k] := by
  unfold wsum
  rw [List.take_succ_eq_append_getElem h, List.map_append, List.sum_append]; simp
theorem wsum_mem {α : Type} {f : α → Nat} {l : List α} {x : α} (h : x ∈ l) : f x ≤ wsum f l := by
  unfold wsum
  induction l with
  | nil => simp at h
  | cons y r ih =>
    simp only [List.map_cons, List.sum_cons]
    rcases List.mem_cons.1 h with rfl | h
    · omega
    · have := ih h; omega
theorem wrap_sub {left : Int} {n : Nat} (h0 : 0 ≤ left) (h1 : left ≤ 1048576) (hn : n ≤ 9223372036854775807) : IntKind.i64.wrap (left - n) = left - n := by rw [IntKind.wrap_i64]; omega
end Go.Proofs.YtjmgfpldjccilaaGreatDoor
