/- The closed facts of the row of FnExactInstNew, one by one: the kernel gives its memory back behind each. -/
import Derived.Test.YtceokbmejnopoaaGreatDoorLaidB
import Derived.JoinedOf
namespace Go.Proofs.YtceokbmejnopoaaGreatDoor.fnExactInstNew
open Go Go.ChangeShapes Go.WideShapes Go.ChangeAt Go.RowKit Go.Deep Go.PlainAid
set_option linter.unusedVariables false
set_option linter.unusedSimpArgs false

set_option maxHeartbeats 40000000 in
theorem closed : joinedFacts Tryz.pinned.checked.prog 5 Tryz.f5 Rows.fnExactInstNewSpec Rows.fnExactInstNewRow = true := by
  unfold joinedFacts
  simp only [Bool.and_eq_true]
  repeat' apply And.intro
  all_goals (as_aux_lemma => kernel_rfl)
end Go.Proofs.YtceokbmejnopoaaGreatDoor.fnExactInstNew
