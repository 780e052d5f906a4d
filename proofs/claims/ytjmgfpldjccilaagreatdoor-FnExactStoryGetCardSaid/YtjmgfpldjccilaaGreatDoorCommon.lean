/- Small facts on memory that serve every walk here: what a call leaves of old cells, a new row that is filled cell by cell. -/
import Derived.WalkKit
import Derived.ProofKit
import Derived.Handy
import Derived.PlainAid
import Derived.WalkLawsBesides
namespace Go.Proofs.YtjmgfpldjccilaaGreatDoor
open Go.RowKit Go.PlainAid

/-- behind a call that makes memory: all old cells and marks read as before -/
theorem bcell {W w1 : World} (hb : Below W.heap.size W w1) : (∀ b o, b < W.heap.size → w1.cell? ⟨b, o, none⟩ = W.cell? ⟨b, o, none⟩) ∧ (∀ b o, b < W.heap.size → w1.frozen? ⟨b, o, none⟩ = W.frozen? ⟨b, o, none⟩) :=
  ⟨fun b o h => hb.cell (p := ⟨b, o, none⟩) h, fun b o h => hb.frozen (p := ⟨b, o, none⟩) h⟩

theorem undrew {w w' : World} (h : Below w.drew.heap.size w.drew w') : Below w.heap.size w w' := ⟨h.os, h.tape, h.output, h.size, h.block⟩

theorem drewN {B : Nat} {a w : World} (h : Below B a w) (n : Nat) : Below B a (w.drewN n) := below_drewN h n

theorem ret_bool {a b : Bool} (h : a = b) : Ending.returned (.bool a) = .returned (.bool b) := by rw [h]
theorem ret_int {k : IntKind} {a b : Int} (h : a = b) : Ending.returned (.int k a) = .returned (.int k b) := by rw [h]

/-- the row B (of N cells) that is being filled: its first m cells are F's -/
structure Fill (B : Nat) (w wr : World) (N m : Nat) (F : Nat → Value) : Prop where
  below : Below B w wr
  lt : B < wr.heap.size
  open_ : ∀ j, wr.frozen? ⟨B, j, none⟩ = false
  there : ∀ j, j < N → ∃ v, wr.cell? ⟨B, j, none⟩ = some v
  done : ∀ j, j < m → wr.cell? ⟨B, j, none⟩ = some (F j)

theorem Fill.call {B : Nat} {w wr w' : World} {N m : Nat} {F : Nat → Value} (h : Fill B w wr N m F) (hb : Below wr.heap.size wr w') : Fill B w w' N m F := by
  have hlt := h.lt
  refine ⟨h.below.trans (hb.mono (by omega)), by have := hb.size; omega, fun j => ?_, fun j hj => ?_, fun j hj => ?_⟩
  · rw [hb.frozen hlt]; exact h.open_ j
  · obtain ⟨v, hv⟩ := h.there j hj; exact ⟨v, by rw [hb.cell hlt]; exact hv⟩
  · rw [hb.cell hlt]; exact h.done j hj

theorem Fill.store {B : Nat} {w wr : World} {N m : Nat} {F : Nat → Value} (h : Fill B w wr N m F) (hm : m < N) {v : Value} (hv : v = F m) : Fill B w (wr.setCell ⟨B, m, none⟩ v) N (m + 1) F := by
  obtain ⟨v0, h0⟩ := h.there m hm
  refine ⟨h.below.setCell (by simp) _, by simpa [World.setCell] using h.lt, fun j => ?_, fun j hj => ?_, fun j hj => ?_⟩
  · simpa using h.open_ j
  · by_cases e : j = m
    · subst e; exact ⟨v, World.cell?_setCell_same _ _ _ h0⟩
    · obtain ⟨u, hu⟩ := h.there j hj
      exact ⟨u, by rw [World.cell?_setCell_other _ _ _ _ (by intro hh; injection hh with _ h2; omega)]; exact hu⟩
  · by_cases e : j = m
    · subst e; subst hv; exact World.cell?_setCell_same _ _ _ h0
    · rw [World.cell?_setCell_other _ _ _ _ (by intro hh; injection hh with _ h2; omega)]; exact h.done j (by omega)

theorem Fill.start (w : World) (cs : Array Value) (t : TypeId) (F : Nat → Value) : Fill w.heap.size w (w.alloc (.cells cs t)) cs.size 0 F := by
  refine ⟨(Below.refl _ _).alloc (Nat.le_refl _) _, by simp, fun j => by simp, fun j hj => ⟨cs[j], by simp [hj]⟩, fun j hj => by omega⟩
theorem hidOf {p : Prop} (h : p) : Hid p := h
theorem setCell_ne (w : World) (p i j : Nat) (u : Value) (h : i ≠ j) : (w.setCell ⟨p, i, none⟩ u).cell? ⟨p, j, none⟩ = w.cell? ⟨p, j, none⟩ :=
  World.cell?_setCell_other _ _ _ _ (by intro e; injection e with _ e2; exact h e2)
end Go.Proofs.YtjmgfpldjccilaaGreatDoor
