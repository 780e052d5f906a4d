/- Numbers in memory, a row of one's own. -/
import Derived.Test.YtjmgfpldjccilaaGreatDoorFreeI
import Derived.Test.YtjmgfpldjccilaaGreatDoorOwnRow
import Derived.Deep.Onto
namespace Go.Proofs.YtjmgfpldjccilaaGreatDoor
open Go Go.RowKit Go.PlainAid
set_option linter.unusedSimpArgs false
set_option linter.unusedVariables false

def OwnI (B : Nat) (w : World) (v : Value) (l : List Int) : Prop := w.ownsRow B 3 1 v l.length (l.map (Value.int .i64))
theorem OwnI.keep {B : Nat} {v : Value} {l : List Int} {w w' : World} (h : OwnI B w v l) (hb : Below w.heap.size w w') : OwnI B w' v l := own_of_block h (fun q hq => hb.block q (World.ownsRow.lt h q hq).2)
theorem OwnI.nil (B : Nat) (w : World) : OwnI B w (.slice none 0 0) [] := ⟨rfl, .inl ⟨rfl, rfl⟩⟩
theorem OwnI.low {B B' : Nat} {w : World} {v : Value} {l : List Int} (h : OwnI B w v l) (hB : B' ≤ B) : OwnI B' w v l := World.ownsRow.mono h hB
theorem OwnI.free {B : Nat} {w : World} {v : Value} {l : List Int} (h : OwnI B w v l) : ∃ a c, v = .slice a l.length c ∧ l.length ≤ c ∧ FreeI B w a l.length l := own_freeI h
end Go.Proofs.YtjmgfpldjccilaaGreatDoor
