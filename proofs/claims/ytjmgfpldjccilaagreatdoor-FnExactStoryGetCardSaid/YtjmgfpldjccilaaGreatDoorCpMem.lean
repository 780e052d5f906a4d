/- Copies of lists, and boxes of cells, that may be written. -/
import Derived.Test.YtjmgfpldjccilaaGreatDoorArrMem
import Derived.Test.YtjmgfpldjccilaaGreatDoorOpenMem
import Derived.Test.YtjmgfpldjccilaaGreatDoorMoves
namespace Go.Proofs.YtjmgfpldjccilaaGreatDoor
open Go Go.RowKit Go.PlainAid
set_option linter.unusedSimpArgs false
set_option linter.unusedVariables false

theorem arr_mv {α : Type} {sz : Nat} {Q : Nat → World → List Value → α → Prop} {g n p : Nat} {w w' : World} {l : List α} (h : IsArr sz Q w.heap.size w (some ⟨g, 0, none⟩) n l) (hQ : ∀ cs x, Q w.heap.size w cs x → Q w'.heap.size w' cs x) (hm : Mv p w w') (hne : g ≠ p) : IsArr sz Q w'.heap.size w' (some ⟨g, 0, none⟩) n l := by
  obtain ⟨h1, h2⟩ := h
  refine ⟨h1, ?_⟩
  rcases h2 with h2 | ⟨q, o, e, hlt, hc⟩
  · exact .inl h2
  · cases e
    refine .inr ⟨g, 0, rfl, Nat.lt_of_lt_of_le hlt hm.size, fun i hi => ?_⟩
    obtain ⟨cs, q1, q2⟩ := hc i hi
    exact ⟨cs, hQ _ _ q1, fun j u hu => ⟨(q2 j u hu).1, (World.cell?_of_block (hm.block g hlt hne)).trans (q2 j u hu).2⟩⟩
/-- a copy of a list -/
def CpL {α : Type} (sz : Nat) (C : Nat → World → List Value → α → Prop) (n : Nat) (l : List α) (w : World) (e : Ending) (w' : World) : Prop :=
  ∃ b, e = .returned (.slice (some ⟨b, 0, none⟩) n n) ∧ w.heap.size ≤ b ∧ Open b (n * sz) w' ∧ Below w.heap.size w w' ∧ l.length = n ∧ ∀ i, (h : i < l.length) → ∃ cs, C (b + 1) w' cs l[i] ∧ ∀ j u, cs[j]? = some u → j < sz ∧ w'.cell? ⟨b, i * sz + j, none⟩ = some u
theorem CpL.arr {α : Type} {sz : Nat} {C : Nat → World → List Value → α → Prop} {Q : Nat → World → List Value → α → Prop} {n : Nat} {l : List α} {b : Nat} {w' : World} (hQ : ∀ cs x, C (b + 1) w' cs x → Q w'.heap.size w' cs x) (ho : Open b (n * sz) w') (hl : l.length = n) (h : ∀ i, (h : i < l.length) → ∃ cs, C (b + 1) w' cs l[i] ∧ ∀ j u, cs[j]? = some u → j < sz ∧ w'.cell? ⟨b, i * sz + j, none⟩ = some u) : IsArr sz Q w'.heap.size w' (some ⟨b, 0, none⟩) n l := by
  refine ⟨hl, .inr ⟨b, 0, rfl, ho.1, fun i hi => ?_⟩⟩
  obtain ⟨cs, h1, h2⟩ := h i hi
  exact ⟨cs, hQ _ _ h1, fun j u hu => ⟨(h2 j u hu).1, by rw [Nat.zero_add]; exact (h2 j u hu).2⟩⟩
/-- a box of cells that may be written -/
def BoxAt (b : Nat) (vals : List Value) (w : World) : Prop := b < w.heap.size ∧ ∀ j u, vals[j]? = some u → w.cell? ⟨b, j, none⟩ = some u ∧ w.frozen? ⟨b, j, none⟩ = false
theorem BoxAt.below {b : Nat} {vals : List Value} {w w' : World} (h : BoxAt b vals w) (hb : Below w.heap.size w w') : BoxAt b vals w' :=
  ⟨Nat.lt_of_lt_of_le h.1 hb.size, fun j u hu => ⟨(hb.cell (p := ⟨b, j, none⟩) h.1).trans (h.2 j u hu).1, (hb.frozen (p := ⟨b, j, none⟩) h.1).trans (h.2 j u hu).2⟩⟩
theorem BoxAt.mv {b p : Nat} {vals : List Value} {w w' : World} (h : BoxAt b vals w) (hm : Mv p w w') (hp : b ≠ p) : BoxAt b vals w' :=
  ⟨Nat.lt_of_lt_of_le h.1 hm.size, fun j u hu => ⟨(World.cell?_of_block (hm.block b h.1 hp)).trans (h.2 j u hu).1, (World.frozen?_of_block (hm.block b h.1 hp)).trans (h.2 j u hu).2⟩⟩
theorem BoxAt.set {b : Nat} {vals : List Value} {w : World} (h : BoxAt b vals w) (i : Nat) (v : Value) : BoxAt b (vals.set i v) (w.setCell ⟨b, i, none⟩ v) := by
  refine ⟨by simpa [World.setCell] using h.1, fun j u hu => ?_⟩
  rw [List.getElem?_set] at hu
  split at hu
  · rename_i e
    subst e
    split at hu
    · rename_i hl
      cases hu
      have := h.2 i _ (List.getElem?_eq_getElem hl)
      exact ⟨World.cell?_setCell_same _ _ _ this.1, by simpa using this.2⟩
    · cases hu
  · rename_i e
    have := h.2 j u hu
    exact ⟨by rw [setCell_ne _ _ _ _ _ e]; exact this.1, by simpa using this.2⟩
/-- a list that was copied into block g -/
def CL {α : Type} (sz : Nat) (C : Nat → World → List Value → α → Prop) (L n : Nat) (l : List α) (g : Nat) (w : World) : Prop :=
  L ≤ g ∧ Open g (n * sz) w ∧ l.length = n ∧ ∀ i, (h : i < l.length) → ∃ cs, C (g + 1) w cs l[i] ∧ ∀ j u, cs[j]? = some u → j < sz ∧ w.cell? ⟨g, i * sz + j, none⟩ = some u
theorem CL.mv {α : Type} {sz : Nat} {C : Nat → World → List Value → α → Prop} {L n p : Nat} {l : List α} {g : Nat} {w w' : World} (h : CL sz C L n l g w) (hC : ∀ cs x, C (g + 1) w cs x → C (g + 1) w' cs x) (hm : Mv p w w') (hp : p < L) : CL sz C L n l g w' := by
  obtain ⟨h1, h2, h3, h4⟩ := h
  refine ⟨h1, h2.mv hm (by omega), h3, fun i hi => ?_⟩
  obtain ⟨cs, q1, q2⟩ := h4 i hi
  exact ⟨cs, hC _ _ q1, fun j u hu => ⟨(q2 j u hu).1, (World.cell?_of_block (hm.block g h2.1 (by omega))).trans (q2 j u hu).2⟩⟩
theorem CL.below {α : Type} {sz : Nat} {C : Nat → World → List Value → α → Prop} {L n : Nat} {l : List α} {g : Nat} {w w' : World} (h : CL sz C L n l g w) (hC : ∀ cs x, C (g + 1) w cs x → C (g + 1) w' cs x) (hb : Below w.heap.size w w') : CL sz C L n l g w' := by
  obtain ⟨h1, h2, h3, h4⟩ := h
  refine ⟨h1, h2.below hb, h3, fun i hi => ?_⟩
  obtain ⟨cs, q1, q2⟩ := h4 i hi
  exact ⟨cs, hC _ _ q1, fun j u hu => ⟨(q2 j u hu).1, (hb.cell (p := ⟨g, i * sz + j, none⟩) h2.1).trans (q2 j u hu).2⟩⟩
theorem CL.low {α : Type} {sz : Nat} {C : Nat → World → List Value → α → Prop} {L L' n : Nat} {l : List α} {g : Nat} {w : World} (h : CL sz C L n l g w) (hL : L' ≤ L) : CL sz C L' n l g w := ⟨Nat.le_trans hL h.1, h.2⟩
theorem CL.arr {α : Type} {sz : Nat} {C : Nat → World → List Value → α → Prop} {Q : Nat → World → List Value → α → Prop} {L n : Nat} {l : List α} {g : Nat} {w : World} (h : CL sz C L n l g w) (hQ : ∀ cs x, C (g + 1) w cs x → Q w.heap.size w cs x) : IsArr sz Q w.heap.size w (some ⟨g, 0, none⟩) n l := CpL.arr hQ h.2.1 h.2.2.1 h.2.2.2
theorem below_boxed {w w1 : World} {o : Obj} (h : Below (w.alloc o).heap.size (w.alloc o) w1) : Below w.heap.size w w1 :=
  ((Below.refl _ _).alloc (Nat.le_refl _) _).trans (h.mono (by simp))
end Go.Proofs.YtjmgfpldjccilaaGreatDoor
