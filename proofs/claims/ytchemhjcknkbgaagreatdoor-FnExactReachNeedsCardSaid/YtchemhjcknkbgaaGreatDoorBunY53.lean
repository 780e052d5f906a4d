/- The closed facts of the row of FnExactReachNeeds, one by one: the kernel gives its memory back behind each. -/
import Derived.Test.YtchemhjcknkbgaaGreatDoorLaidB
import Derived.JoinedOf
import Derived.Test.YtchemhjcknkbgaaGreatDoorReachNeedsWalk
namespace Go.Proofs.YtchemhjcknkbgaaGreatDoor.fnExactReachNeeds
open Go Go.ChangeShapes Go.WideShapes Go.ChangeAt Go.RowKit Go.Deep Go.PlainAid
set_option linter.unusedVariables false
set_option linter.unusedSimpArgs false

set_option maxHeartbeats 40000000 in
theorem closed : joinedFacts Tryz.pinned.checked.prog 3 Tryz.f3 Rows.fnExactReachNeedsSpec Rows.fnExactReachNeedsRow = true := by
  unfold joinedFacts
  simp only [Bool.and_eq_true]
  repeat' apply And.intro
  all_goals (as_aux_lemma => kernel_rfl)
end Go.Proofs.YtchemhjcknkbgaaGreatDoor.fnExactReachNeeds

/- The row of FnExactReachNeeds. -/
namespace Go.Proofs.YtchemhjcknkbgaaGreatDoor.fnExactReachNeeds
open Go Go.ChangeShapes Go.WideShapes Go.ChangeAt Go.RowKit Go.Deep Go.PlainAid
set_option linter.unusedVariables false
set_option linter.unusedSimpArgs false

theorem over : Rows.FnExactReachNeedsSaid :=
  OpenClaim.holds_of_wide 3 Tryz.f3 rfl rfl rfl rfl rfl rfl rfl ⟨rfl, rfl, rfl, rfl, rfl⟩ rfl rfl rfl rfl rfl (by kernel_rfl) Tryz.func3 closed
    (of_decide_eq_true (by kernel_rfl)) (by unfold Func.isWrapper; first | (rw [if_pos (by decide +kernel)]; kernel_rfl) | (rw [if_neg (by decide +kernel)]; exact ⟨rfl, rfl⟩))
    (fun os started H enc _ => lifted os started H enc)
end Go.Proofs.YtchemhjcknkbgaaGreatDoor.fnExactReachNeeds
