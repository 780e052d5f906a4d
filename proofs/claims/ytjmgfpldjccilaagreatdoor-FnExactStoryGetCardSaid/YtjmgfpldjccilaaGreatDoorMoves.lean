/- What moves: one block that a reader owns, and new blocks. -/
import Derived.Test.YtjmgfpldjccilaaGreatDoorCommon
namespace Go.Proofs.YtjmgfpldjccilaaGreatDoor
open Go Go.RowKit Go.PlainAid

/-- all that was is as it was, but the reader -/
structure Mv (p : Nat) (w w' : World) : Prop where
  os : w'.os = w.os
  tape : w'.tape = w.tape
  output : w'.output = w.output
  size : w.heap.size ≤ w'.heap.size
  block : ∀ g, g < w.heap.size → g ≠ p → w'.heap[g]? = w.heap[g]?
theorem Mv.refl (p : Nat) (w : World) : Mv p w w := ⟨rfl, rfl, rfl, Nat.le_refl _, fun _ _ _ => rfl⟩
theorem Mv.trans {p : Nat} {a b c : World} (h : Mv p a b) (k : Mv p b c) : Mv p a c :=
  ⟨k.os.trans h.os, k.tape.trans h.tape, k.output.trans h.output, Nat.le_trans h.size k.size, fun g h1 h2 => (k.block g (Nat.lt_of_lt_of_le h1 h.size) h2).trans (h.block g h1 h2)⟩
theorem Mv.of_below {p : Nat} {w w' : World} (h : Below w.heap.size w w') : Mv p w w' := ⟨h.os, h.tape, h.output, h.size, fun g h1 _ => h.block g h1⟩
theorem Mv.step (p : Nat) (w : World) (v : Value) (d : Nat) : Mv p w ((w.setCell ⟨p, 1, none⟩ v).drewN d) :=
  ⟨rfl, rfl, rfl, by simp [World.drewN, World.setCell], fun g _ h2 => Below.heap_setCell w ⟨p, 1, none⟩ v g h2⟩
theorem Mv.cell {p : Nat} {w w' : World} (h : Mv p w w') (j : Nat) (v : Value) : Mv p w (w'.setCell ⟨p, j, none⟩ v) :=
  ⟨h.os, h.tape, h.output, by simpa [World.setCell] using h.size, fun b h1 h2 => (Below.heap_setCell w' ⟨p, j, none⟩ v b (by simpa using h2)).trans (h.block b h1 h2)⟩
theorem Mv.drewN {p : Nat} {w w' : World} (h : Mv p w w') (n : Nat) : Mv p w (w'.drewN n) := ⟨h.os, h.tape, h.output, h.size, h.block⟩
theorem Mv.fresh {w w1 w2 : World} (hb : Below w.heap.size w w1) (hm : Mv w.heap.size w1 w2) : Below w.heap.size w w2 :=
  ⟨hm.os.trans hb.os, hm.tape.trans hb.tape, hm.output.trans hb.output, Nat.le_trans hb.size hm.size, fun q hq => (hm.block q (Nat.lt_of_lt_of_le hq hb.size) (by omega)).trans (hb.block q hq)⟩
end Go.Proofs.YtjmgfpldjccilaaGreatDoor
