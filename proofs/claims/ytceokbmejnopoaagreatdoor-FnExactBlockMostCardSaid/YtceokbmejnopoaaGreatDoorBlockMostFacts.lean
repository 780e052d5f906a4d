/- The closed facts of the row of FnExactBlockMost, one by one: the kernel gives its memory back behind each. -/
import Derived.Test.YtceokbmejnopoaaGreatDoorLaidB
import Derived.JoinedOf
namespace Go.Proofs.YtceokbmejnopoaaGreatDoor.fnExactBlockMost
open Go Go.ChangeShapes Go.WideShapes Go.ChangeAt Go.RowKit Go.Deep Go.PlainAid
set_option linter.unusedVariables false
set_option linter.unusedSimpArgs false

set_option maxHeartbeats 40000000 in
theorem closed : joinedFacts Tryz.pinned.checked.prog 4 Tryz.f4 Rows.fnExactBlockMostSpec Rows.fnExactBlockMostRow = true := by
  unfold joinedFacts
  simp only [Bool.and_eq_true]
  repeat' apply And.intro
  all_goals (as_aux_lemma => kernel_rfl)
end Go.Proofs.YtceokbmejnopoaaGreatDoor.fnExactBlockMost
