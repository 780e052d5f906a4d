/- What moves within a range of blocks. -/
import Derived.Test.YtjmgfpldjccilaaGreatDoorCpMem
import Derived.Test.YtjmgfpldjccilaaGreatDoorOpenMem
import Derived.Test.YtjmgfpldjccilaaGreatDoorMoves
namespace Go.Proofs.YtjmgfpldjccilaaGreatDoor
open Go Go.RowKit Go.PlainAid
set_option linter.unusedSimpArgs false
set_option linter.unusedVariables false

/-- all that was is as it was, but blocks from L to H -/
structure MvR (L H : Nat) (w w' : World) : Prop where
  os : w'.os = w.os
  tape : w'.tape = w.tape
  output : w'.output = w.output
  size : w.heap.size ≤ w'.heap.size
  block : ∀ g, g < w.heap.size → ¬ (L ≤ g ∧ g < H) → w'.heap[g]? = w.heap[g]?
theorem MvR.refl (L H : Nat) (w : World) : MvR L H w w := ⟨rfl, rfl, rfl, Nat.le_refl _, fun _ _ _ => rfl⟩
theorem MvR.trans {L H : Nat} {a b c : World} (h : MvR L H a b) (k : MvR L H b c) : MvR L H a c :=
  ⟨k.os.trans h.os, k.tape.trans h.tape, k.output.trans h.output, Nat.le_trans h.size k.size, fun g h1 h2 => (k.block g (Nat.lt_of_lt_of_le h1 h.size) h2).trans (h.block g h1 h2)⟩
theorem MvR.wide {L H L' H' : Nat} {a b : World} (h : MvR L H a b) (h1 : L' ≤ L) (h2 : H ≤ H') : MvR L' H' a b :=
  ⟨h.os, h.tape, h.output, h.size, fun g hg hn => h.block g hg (fun ⟨x, y⟩ => hn ⟨by omega, by omega⟩)⟩
theorem Mv.range {L H p : Nat} {a b : World} (h : Mv p a b) (h1 : L ≤ p) (h2 : p < H) : MvR L H a b :=
  ⟨h.os, h.tape, h.output, h.size, fun g hg hn => h.block g hg (fun e => hn (by subst e; exact ⟨h1, h2⟩))⟩
theorem MvR.of_below {L H : Nat} {w w' : World} (h : Below w.heap.size w w') : MvR L H w w' := ⟨h.os, h.tape, h.output, h.size, fun g h1 _ => h.block g h1⟩
/-- to one who looks below the range nothing moved -/
theorem MvR.belowL {B L H : Nat} {w w' : World} (h : MvR L H w w') (hB : B ≤ L) (hw : B ≤ w.heap.size) : Below B w w' :=
  ⟨h.os, h.tape, h.output, h.size, fun q hq => h.block q (by omega) (by omega)⟩
theorem Open.mvR {b N L H : Nat} {w w' : World} (h : Open b N w) (hm : MvR L H w w') (hp : ¬ (L ≤ b ∧ b < H)) : Open b N w' :=
  ⟨Nat.lt_of_lt_of_le h.1 hm.size, fun j hj => by
    obtain ⟨⟨v, h1⟩, h2⟩ := h.2 j hj
    exact ⟨⟨v, (World.cell?_of_block (hm.block b h.1 hp)).trans h1⟩, (World.frozen?_of_block (hm.block b h.1 hp)).trans h2⟩⟩
theorem BoxAt.mvR {b L H : Nat} {vals : List Value} {w w' : World} (h : BoxAt b vals w) (hm : MvR L H w w') (hp : ¬ (L ≤ b ∧ b < H)) : BoxAt b vals w' :=
  ⟨Nat.lt_of_lt_of_le h.1 hm.size, fun j u hu => ⟨(World.cell?_of_block (hm.block b h.1 hp)).trans (h.2 j u hu).1, (World.frozen?_of_block (hm.block b h.1 hp)).trans (h.2 j u hu).2⟩⟩
/-- the cells of a block stay cells that may be written -/
def Keep (b : Nat) (w w' : World) : Prop := ∀ N, Open b N w → Open b N w'
theorem Keep.refl (b : Nat) (w : World) : Keep b w w := fun _ h => h
theorem Keep.trans {b : Nat} {w w' w2 : World} (h : Keep b w w') (k : Keep b w' w2) : Keep b w w2 := fun N q => k N (h N q)
theorem Keep.below {b : Nat} {w w' : World} (h : Below w.heap.size w w') : Keep b w w' := fun _ q => q.below h
theorem Keep.cell (b : Nat) (w : World) (i : Nat) (v : Value) : Keep b w (w.setCell ⟨b, i, none⟩ v) := by
  intro N h
  refine ⟨by simpa [World.setCell] using h.1, fun j hj => ?_⟩
  obtain ⟨⟨u, h1⟩, h2⟩ := h.2 j hj
  refine ⟨?_, by simpa using h2⟩
  by_cases e : j = i
  · subst e; exact ⟨v, World.cell?_setCell_same _ _ _ h1⟩
  · exact ⟨u, by rw [setCell_ne _ _ _ _ _ (fun h => e h.symm)]; exact h1⟩
/-- blocks that may be written stay so, whichever of them moved -/
theorem Open.kept {b g N : Nat} {w w' : World} (h : Open b N w) (hm : Mv g w w') (hk : Keep g w w') : Open b N w' := by
  by_cases e : b = g
  · subst e; exact hk N h
  · exact h.mv hm e
end Go.Proofs.YtjmgfpldjccilaaGreatDoor
