/- The model's reader of sums in memory, and what its smallest methods do. -/
import Derived.Test.YtcajjngjojegfaaGreatDoorRows
import Derived.Test.YtcajjngjojegfaaGreatDoorNameWalks
import Derived.BigQuiet
import Derived.Deep.RegionHeld3
import Derived.Deep.RegionWith
namespace Go.Proofs.YtcajjngjojegfaaGreatDoor
open Go.RowKit Go.PlainAid
set_option linter.unusedSimpArgs false
set_option linter.unusedVariables false

/-- a node: kind, number, name -/
abbrev Nd := Int × Int × ByteArray
def ndCells (l : List Nd) : List Value := l.flatMap fun x => [.int .i64 x.1, .int .i64 x.2.1, .string x.2.2]
theorem ndCells_len (l : List Nd) : (ndCells l).length = l.length * 3 := by
  induction l with
  | nil => rfl
  | cons x r ih => simp only [ndCells, List.flatMap_cons, List.length_append, List.length_cons, List.length_nil] at *; omega
theorem ndCells_snoc (l : List Nd) (x : Nd) : ndCells (l ++ [x]) = ndCells l ++ [.int .i64 x.1, .int .i64 x.2.1, .string x.2.2] := by
  simp [ndCells]

/-- what the reader holds -/
structure Par where
  at_ : Nat
  deep : Nat
  bad : Bool
  out : List Nd

/-- block p is a reader of s that holds st; its nodes' slice is v -/
structure ParAt (p : Nat) (w : World) (s : ByteArray) (st : Par) (v : Value) : Prop where
  c0 : w.cell? ⟨p, 0, none⟩ = some (.string s)
  c1 : w.cell? ⟨p, 1, none⟩ = some (.int .i64 st.at_)
  c2 : w.cell? ⟨p, 2, none⟩ = some (.int .i64 st.deep)
  c3 : w.cell? ⟨p, 3, none⟩ = some (.bool st.bad)
  c4 : w.cell? ⟨p, 4, none⟩ = some v
  open_ : ∀ j, w.frozen? ⟨p, j, none⟩ = false
  own : w.ownsRow (p + 1) 38 3 v st.out.length (ndCells st.out)

/-- between w and w' only the block p, the row that v owns and new blocks were written; the row of v' is v's or new -/
structure Touch (p : Nat) (v : Value) (w w' : World) (v' : Value) : Prop where
  os : w'.os = w.os
  tape : w'.tape = w.tape
  output : w'.output = w.output
  size : w.heap.size ≤ w'.heap.size
  block : ∀ k, k < w.heap.size → k ≠ p → some k ≠ v.ownBlock → w'.heap[k]? = w.heap[k]?
  own : v'.ownBlock = v.ownBlock ∨ ∀ k, v'.ownBlock = some k → w.heap.size ≤ k

theorem Touch.refl (p : Nat) (v : Value) (w : World) : Touch p v w w v := ⟨rfl, rfl, rfl, Nat.le_refl _, fun _ _ _ _ => rfl, .inl rfl⟩
theorem Touch.trans {p : Nat} {v v1 v2 : Value} {w w1 w2 : World} (h : Touch p v w w1 v1) (k : Touch p v1 w1 w2 v2) : Touch p v w w2 v2 := by
  refine ⟨k.os.trans h.os, k.tape.trans h.tape, k.output.trans h.output, Nat.le_trans h.size k.size, fun i hi hp hv => ?_, ?_⟩
  · refine (k.block i (Nat.lt_of_lt_of_le hi h.size) hp ?_).trans (h.block i hi hp hv)
    rcases h.own with e | e
    · rw [e]; exact hv
    · intro hc; have := e i hc.symm; omega
  · rcases k.own with e | e
    · rcases h.own with e' | e'
      · exact .inl (e.trans e')
      · exact .inr fun j hj => e' j (by rw [← e]; exact hj)
    · exact .inr fun j hj => Nat.le_trans h.size (e j hj)
theorem Touch.drewN {p : Nat} {v v' : Value} {w w' : World} (h : Touch p v w w' v') (n : Nat) : Touch p v w (w'.drewN n) v' := ⟨h.os, h.tape, h.output, h.size, h.block, h.own⟩
theorem Touch.drew {p : Nat} {v v' : Value} {w w' : World} (h : Touch p v w w' v') : Touch p v w w'.drew v' := ⟨h.os, h.tape, h.output, h.size, h.block, h.own⟩
theorem Touch.setCell {p : Nat} {v v' : Value} {w w' : World} (h : Touch p v w w' v') (j : Nat) (u : Value) : Touch p v w (w'.setCell ⟨p, j, none⟩ u) v' :=
  ⟨h.os, h.tape, h.output, by simpa [World.setCell] using h.size, fun k hk hp hv => (Below.heap_setCell _ _ _ _ (by simpa using hp)).trans (h.block k hk hp hv), h.own⟩
theorem Touch.below {p : Nat} {v v' : Value} {w w' : World} (h : Touch p v w w' v') {st : Par} {s : ByteArray} (hp : ParAt p w s st v) : Below p w w' := by
  have hlt : p < w.heap.size := World.block_lt_of_cell? w _ hp.c0
  refine ⟨h.os, h.tape, h.output, h.size, fun k hk => h.block k (by omega) (by omega) fun e => ?_⟩
  have := (hp.own.lt k e.symm).1
  omega
theorem ParAt.lt {p : Nat} {w : World} {s : ByteArray} {st : Par} {v : Value} (h : ParAt p w s st v) : p < w.heap.size := World.block_lt_of_cell? w _ h.c0

theorem setCell_ne (w : World) (p i j : Nat) (u : Value) (h : i ≠ j) : (w.setCell ⟨p, i, none⟩ u).cell? ⟨p, j, none⟩ = w.cell? ⟨p, j, none⟩ :=
  World.cell?_setCell_other _ _ _ _ (by intro e; injection e with _ e2; exact h e2)
/-- one of the reader's cells is written -/
theorem ParAt.at1 {p : Nat} {w : World} {s : ByteArray} {st : Par} {v : Value} (h : ParAt p w s st v) (a : Nat) : ParAt p (w.setCell ⟨p, 1, none⟩ (.int .i64 a)) s { st with at_ := a } v :=
  ⟨by rw [setCell_ne _ _ _ _ _ (by decide)]; exact h.c0, World.cell?_setCell_same _ _ _ h.c1, by rw [setCell_ne _ _ _ _ _ (by decide)]; exact h.c2, by rw [setCell_ne _ _ _ _ _ (by decide)]; exact h.c3,
   by rw [setCell_ne _ _ _ _ _ (by decide)]; exact h.c4, fun j => by simpa using h.open_ j, ownsRow_setCell_below h.own (by simp) _⟩
theorem ParAt.deep1 {p : Nat} {w : World} {s : ByteArray} {st : Par} {v : Value} (h : ParAt p w s st v) (a : Nat) : ParAt p (w.setCell ⟨p, 2, none⟩ (.int .i64 a)) s { st with deep := a } v :=
  ⟨by rw [setCell_ne _ _ _ _ _ (by decide)]; exact h.c0, by rw [setCell_ne _ _ _ _ _ (by decide)]; exact h.c1, World.cell?_setCell_same _ _ _ h.c2, by rw [setCell_ne _ _ _ _ _ (by decide)]; exact h.c3,
   by rw [setCell_ne _ _ _ _ _ (by decide)]; exact h.c4, fun j => by simpa using h.open_ j, ownsRow_setCell_below h.own (by simp) _⟩
theorem ParAt.bad1 {p : Nat} {w : World} {s : ByteArray} {st : Par} {v : Value} (h : ParAt p w s st v) (a : Bool) : ParAt p (w.setCell ⟨p, 3, none⟩ (.bool a)) s { st with bad := a } v :=
  ⟨by rw [setCell_ne _ _ _ _ _ (by decide)]; exact h.c0, by rw [setCell_ne _ _ _ _ _ (by decide)]; exact h.c1, by rw [setCell_ne _ _ _ _ _ (by decide)]; exact h.c2, World.cell?_setCell_same _ _ _ h.c3,
   by rw [setCell_ne _ _ _ _ _ (by decide)]; exact h.c4, fun j => by simpa using h.open_ j, ownsRow_setCell_below h.own (by simp) _⟩
theorem ParAt.drewN {p : Nat} {w : World} {s : ByteArray} {st : Par} {v : Value} (h : ParAt p w s st v) (n : Nat) : ParAt p (w.drewN n) s st v := ⟨h.c0, h.c1, h.c2, h.c3, h.c4, h.open_, h.own⟩
theorem ParAt.drew {p : Nat} {w : World} {s : ByteArray} {st : Par} {v : Value} (h : ParAt p w s st v) : ParAt p w.drew s st v := ⟨h.c0, h.c1, h.c2, h.c3, h.c4, h.open_, h.own⟩
theorem ParAt.alloc {p : Nat} {w : World} {s : ByteArray} {st : Par} {v : Value} (h : ParAt p w s st v) (o : Obj) : ParAt p (w.alloc o) s st v := by
  have hlt := h.lt
  exact ⟨(World.cell?_alloc_past _ _ _ hlt).trans h.c0, (World.cell?_alloc_past _ _ _ hlt).trans h.c1, (World.cell?_alloc_past _ _ _ hlt).trans h.c2, (World.cell?_alloc_past _ _ _ hlt).trans h.c3,
    (World.cell?_alloc_past _ _ _ hlt).trans h.c4, fun j => (World.frozen?_alloc_past _ _ _ hlt).trans (h.open_ j), h.own.alloc o⟩
end Go.Proofs.YtcajjngjojegfaaGreatDoor
