/- The row of FnExactBlockNames. -/
import Derived.Test.YtceokbmejnopoaaGreatDoorBlockNamesWalk
import Derived.Test.YtceokbmejnopoaaGreatDoorBlockNamesFacts
namespace Go.Proofs.YtceokbmejnopoaaGreatDoor.fnExactBlockNames
open Go Go.ChangeShapes Go.WideShapes Go.ChangeAt Go.RowKit Go.Deep Go.PlainAid
set_option linter.unusedVariables false
set_option linter.unusedSimpArgs false

theorem over : Rows.FnExactBlockNamesSaid :=
  OpenClaim.holds_of_wide 3 Tryz.f3 rfl rfl rfl rfl rfl rfl rfl ⟨rfl, rfl, rfl, rfl, rfl⟩ rfl rfl rfl rfl rfl (by kernel_rfl) Tryz.func3 closed
    (of_decide_eq_true (by kernel_rfl)) (by unfold Func.isWrapper; first | (rw [if_pos (by decide +kernel)]; kernel_rfl) | (rw [if_neg (by decide +kernel)]; exact ⟨rfl, rfl⟩))
    (fun os started H enc _ => lifted os started H enc)
end Go.Proofs.YtceokbmejnopoaaGreatDoor.fnExactBlockNames
