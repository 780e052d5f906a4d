/- The rows that list four variables: what they give, and a start that meets them. -/
import Derived.Test.YtjmgfpldjccilaaDoorEvLaid
namespace Go.Proofs.YtjmgfpldjccilaaDoor
open Go Go.RowKit Go.PlainAid Go.ChangeShapes Go.WideShapes Go.ChangeAt Go.Deep

/-- the list of these rows -/
def laidP : List (String × DataW Unit) := Rows.fnExactEventPutRow.laid
theorem tabsP_of {W : World} (h : laidMetH Tryd.prog laidP W) : TbP W := by
  rw [MakeChecks.laidMetH_plain _ _ _ (by kernel_rfl)] at h
  have h2 := h.tail.tail
  exact ⟨tens_of h2, words_of h2.tail⟩
set_option maxRecDepth 100000
theorem shapedP (os : Os) (args : Array Value) : ((World.laidAll Tryd.prog os laidP).forCall (fun _ _ => 0) ⟨#[], args, []⟩).Shaped Tryd.checked.prog := World.shaped_of_ZipB (by kernel_rfl) (by kernel_rfl)
theorem metP (os : Os) (args : Array Value) : laidMetH Tryd.prog laidP ((World.laidAll Tryd.prog os laidP).forCall (fun _ _ => 0) ⟨#[], args, []⟩).memory := by
  rw [MakeChecks.laidMetH_plain _ _ _ (by kernel_rfl)]; exact laidMet_laidAll _ (by kernel_rfl) (by kernel_rfl)
end Go.Proofs.YtjmgfpldjccilaaDoor
