/- A new box. -/
import Derived.Test.YtjmgfpldjccilaaGreatDoorCpMem
namespace Go.Proofs.YtjmgfpldjccilaaGreatDoor
open Go Go.RowKit Go.PlainAid
set_option linter.unusedSimpArgs false

theorem boxAt_new (w : World) (vals : List Value) (t : TypeId) : BoxAt w.heap.size vals (w.alloc (.cells vals.toArray t)) :=
  ⟨by simp, fun j u hu => ⟨by simp [hu], by simp⟩⟩
end Go.Proofs.YtjmgfpldjccilaaGreatDoor
