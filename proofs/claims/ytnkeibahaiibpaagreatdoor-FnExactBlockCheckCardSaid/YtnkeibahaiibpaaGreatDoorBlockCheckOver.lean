/- The row of FnExactBlockCheck. -/
import Derived.Test.YtnkeibahaiibpaaGreatDoorBlockCheckWalk
import Derived.Test.YtnkeibahaiibpaaGreatDoorBlockCheckFacts
namespace Go.Proofs.YtnkeibahaiibpaaGreatDoor.fnExactBlockCheck
open Go Go.ChangeShapes Go.WideShapes Go.ChangeAt Go.RowKit Go.Deep Go.PlainAid
set_option linter.unusedVariables false
set_option linter.unusedSimpArgs false

theorem over : Rows.FnExactBlockCheckSaid :=
  OpenClaim.holds_of_wide 3 Tryz.f3 rfl rfl rfl rfl rfl rfl rfl ⟨rfl, rfl, rfl, rfl, rfl⟩ rfl rfl rfl rfl rfl (by kernel_rfl) Tryz.func3 closed
    (of_decide_eq_true (by kernel_rfl)) (by unfold Func.isWrapper; first | (rw [if_pos (by decide +kernel)]; kernel_rfl) | (rw [if_neg (by decide +kernel)]; exact ⟨rfl, rfl⟩))
    (fun os started H enc _ => lifted os started H enc)
end Go.Proofs.YtnkeibahaiibpaaGreatDoor.fnExactBlockCheck
