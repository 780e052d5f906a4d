/- Blocks that may be written. -/
import Derived.Test.YtjmgfpldjccilaaGreatDoorCommon
import Derived.Test.YtjmgfpldjccilaaGreatDoorMoves
namespace Go.Proofs.YtjmgfpldjccilaaGreatDoor
open Go Go.RowKit Go.PlainAid
set_option linter.unusedSimpArgs false
set_option linter.unusedVariables false

/-- block b has N cells that may be written -/
def Open (b N : Nat) (w : World) : Prop := b < w.heap.size ∧ ∀ j, j < N → (∃ v, w.cell? ⟨b, j, none⟩ = some v) ∧ w.frozen? ⟨b, j, none⟩ = false
theorem Open.below {b N : Nat} {w w' : World} (h : Open b N w) (hb : Below w.heap.size w w') : Open b N w' :=
  ⟨Nat.lt_of_lt_of_le h.1 hb.size, fun j hj => by
    obtain ⟨⟨v, h1⟩, h2⟩ := h.2 j hj
    exact ⟨⟨v, (hb.cell (p := ⟨b, j, none⟩) h.1).trans h1⟩, (hb.frozen (p := ⟨b, j, none⟩) h.1).trans h2⟩⟩
theorem Open.mv {b N p : Nat} {w w' : World} (h : Open b N w) (hm : Mv p w w') (hp : b ≠ p) : Open b N w' :=
  ⟨Nat.lt_of_lt_of_le h.1 hm.size, fun j hj => by
    obtain ⟨⟨v, h1⟩, h2⟩ := h.2 j hj
    exact ⟨⟨v, (World.cell?_of_block (hm.block b h.1 hp)).trans h1⟩, (World.frozen?_of_block (hm.block b h.1 hp)).trans h2⟩⟩
theorem Open.set {b N : Nat} {w : World} (h : Open b N w) (i : Nat) (v : Value) (hi : i < N) : Open b N (w.setCell ⟨b, i, none⟩ v) := by
  refine ⟨by simpa [World.setCell] using h.1, fun j hj => ?_⟩
  obtain ⟨⟨u, h1⟩, h2⟩ := h.2 j hj
  refine ⟨?_, by simpa using h2⟩
  by_cases e : j = i
  · subst e; exact ⟨v, World.cell?_setCell_same _ _ _ h1⟩
  · exact ⟨u, by rw [setCell_ne _ _ _ _ _ (fun h => e h.symm)]; exact h1⟩

theorem open_made (w : World) (zs : Array Value) (N : Nat) (t : TypeId) : Open w.heap.size N (w.alloc (.cells (madeCells zs N) t)) := by
  have h := Fill.start w (madeCells zs N) t (fun _ => .bool false)
  rw [size_madeCells] at h
  exact ⟨h.lt, fun j hj => ⟨h.there j hj, h.open_ j⟩⟩
end Go.Proofs.YtjmgfpldjccilaaGreatDoor
