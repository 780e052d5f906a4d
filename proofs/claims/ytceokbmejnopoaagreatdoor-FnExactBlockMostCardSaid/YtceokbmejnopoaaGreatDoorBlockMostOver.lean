/- The row of FnExactBlockMost. -/
import Derived.Test.YtceokbmejnopoaaGreatDoorBlockMostWalk
import Derived.Test.YtceokbmejnopoaaGreatDoorBlockMostFacts
namespace Go.Proofs.YtceokbmejnopoaaGreatDoor.fnExactBlockMost
open Go Go.ChangeShapes Go.WideShapes Go.ChangeAt Go.RowKit Go.Deep Go.PlainAid
set_option linter.unusedVariables false
set_option linter.unusedSimpArgs false

theorem over : Rows.FnExactBlockMostSaid :=
  OpenClaim.holds_of_wide 4 Tryz.f4 rfl rfl rfl rfl rfl rfl rfl ⟨rfl, rfl, rfl, rfl, rfl⟩ rfl rfl rfl rfl rfl (by kernel_rfl) Tryz.func4 closed
    (of_decide_eq_true (by kernel_rfl)) (by unfold Func.isWrapper; first | (rw [if_pos (by decide +kernel)]; kernel_rfl) | (rw [if_neg (by decide +kernel)]; exact ⟨rfl, rfl⟩))
    (fun os started H enc _ => lifted os started H enc)
end Go.Proofs.YtceokbmejnopoaaGreatDoor.fnExactBlockMost
