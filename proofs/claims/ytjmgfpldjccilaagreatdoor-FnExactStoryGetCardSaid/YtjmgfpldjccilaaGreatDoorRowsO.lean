/- Rows of one's own whose parts lie in ranges of their own, one behind the other (RowsG's OwnR, with the ranges told). -/
import Derived.Test.YtjmgfpldjccilaaGreatDoorRowsG
namespace Go.Proofs.YtjmgfpldjccilaaGreatDoor
open Go Go.RowKit Go.PlainAid
set_option linter.unusedSimpArgs false
set_option linter.unusedVariables false

structure OwnRO {α : Type} (T : TypeId) (k : Nat) (P : Nat → Nat → World → List Value → α → Prop) (M B : Nat) (w : World) (v : Value) (xs : List α) (cs : List (List Value)) (f : Nat → Nat × Nat) : Prop where
  len : cs.length = xs.length
  row : w.ownsRow M T k v xs.length cs.flatten
  rowB : ∀ q, v.ownBlock = some q → q < B
  bound : B ≤ w.heap.size
  each : ∀ i, (h : i < xs.length) → (cs.getD i []).length = k ∧ M ≤ (f i).1 ∧ (f i).2 ≤ B ∧ P (f i).1 (f i).2 w (cs.getD i []) xs[i] ∧ ∀ q, v.ownBlock = some q → q < (f i).1 ∨ (f i).2 ≤ q
  ord : ∀ i j, i < j → j < xs.length → (f i).2 ≤ (f j).1
theorem OwnRO.un {α : Type} {T : TypeId} {k : Nat} {P : Nat → Nat → World → List Value → α → Prop} {M B : Nat} {w : World} {v : Value} {xs : List α} {cs : List (List Value)} {f : Nat → Nat × Nat} (h : OwnRO T k P M B w v xs cs f) : OwnR T k P M B w v xs cs :=
  ⟨h.len, h.row, h.rowB, h.bound, fun i hi => ⟨(h.each i hi).1, _, _, (h.each i hi).2⟩⟩
theorem OwnRO.nil {α : Type} (T : TypeId) (k : Nat) (P : Nat → Nat → World → List Value → α → Prop) (M B : Nat) (w : World) (f : Nat → Nat × Nat) (hB : B ≤ w.heap.size) : OwnRO T k P M B w (.slice none 0 0) [] [] f :=
  ⟨rfl, ⟨(by simp), .inl ⟨rfl, rfl⟩⟩, (fun q h => by cases h), hB, (fun i h => by simp at h), (fun i j _ h => by simp at h)⟩
theorem OwnRO.stay1 {α : Type} {T : TypeId} {k : Nat} {P : Nat → Nat → World → List Value → α → Prop} (hP : Local P) {M B : Nat} {w w' : World} {v : Value} {xs : List α} {cs : List (List Value)} {f : Nat → Nat × Nat} (hs : Stay M B w w') (hb' : B ≤ w'.heap.size) (h : OwnRO T k P M B w v xs cs f) : OwnRO T k P M B w' v xs cs f := by
  have hb := h.bound
  refine ⟨h.len, own_of_block h.row (fun q hq => hs q (World.ownsRow.lt h.row q hq).1 (h.rowB q hq)), h.rowB, by omega, fun i hi => ?_, h.ord⟩
  obtain ⟨h1, h2, h3, h4, h5⟩ := h.each i hi
  exact ⟨h1, h2, h3, hP _ _ _ _ _ _ (hs.sub h2 h3) (by omega) (by omega) h4, h5⟩
theorem OwnRO.mono {α : Type} {T : TypeId} {k : Nat} {P : Nat → Nat → World → List Value → α → Prop} {M M' B B' : Nat} {w : World} {v : Value} {xs : List α} {cs : List (List Value)} {f : Nat → Nat × Nat} (h : OwnRO T k P M B w v xs cs f) (hM : M' ≤ M) (hB : B ≤ B') (hw : B' ≤ w.heap.size) : OwnRO T k P M' B' w v xs cs f :=
  ⟨h.len, ownsRow_mono h.row hM, fun q hq => Nat.lt_of_lt_of_le (h.rowB q hq) hB, hw, fun i hi => by
    obtain ⟨h1, h2, h3, h4, h5⟩ := h.each i hi
    exact ⟨h1, by omega, by omega, h4, h5⟩, h.ord⟩
/-- one more at the end -/
theorem OwnRO.push {α : Type} {T : TypeId} {k : Nat} {P : Nat → Nat → World → List Value → α → Prop} (hP : Local P) {M : Nat} {w w2 : World} {u : Value} {xs : List α} {cs : List (List Value)} {f : Nat → Nat × Nat} {c : List Value} {x : α} {g cap Mi Bi : Nat} (h : OwnRO T k P M w.heap.size w u xs cs f) (hg : w.grownBy w2 u.ownBlock)
    (hgb : u.ownBlock = some g ∨ (w.heap.size ≤ g ∧ Bi ≤ g)) (hMi : w.heap.size ≤ Mi) (hMw : M ≤ w.heap.size) (hBi : Bi ≤ w2.heap.size) (hx : P Mi Bi w2 c x) (hc : c.length = k)
    (hown : w2.ownsRow M T k (.slice (some ⟨g, 0, none⟩) (xs.length + 1) cap) (xs.length + 1) (cs.flatten ++ c)) : OwnRO T k P M w2.heap.size w2 (.slice (some ⟨g, 0, none⟩) (xs.length + 1) cap) (xs ++ [x]) (cs ++ [c]) (fun i => if i < xs.length then f i else (Mi, Bi)) := by
  have hlen := h.len
  have hsz := hg.size
  refine ⟨by simp [hlen], by simpa using hown, fun q hq => (World.ownsRow.lt hown q hq).2, Nat.le_refl _, fun i hi => ?_, fun i j hij hj => ?_⟩
  · by_cases hil : i < xs.length
    · have e1 : (cs ++ [c]).getD i [] = cs.getD i [] := by simp [List.getD_eq_getElem?_getD, List.getElem?_append_left (show i < cs.length by omega)]
      have e2 : (xs ++ [x])[i] = xs[i] := by rw [List.getElem_append_left hil]
      rw [e1, e2, if_pos hil]
      obtain ⟨h1, h2, h3, h4, h5⟩ := h.each i hil
      refine ⟨h1, h2, by omega, hP _ _ _ _ _ _ (fun b k1 k2 => hg.block b (by omega) (fun e => ?_)) h3 (by omega) h4, fun q hq => ?_⟩
      · rcases h5 b e.symm with h | h <;> omega
      · have hq' : g = q := by simpa [Value.ownBlock] using hq
        subst hq'
        rcases hgb with e | e
        · exact h5 g e
        · exact .inr (by omega)
    · have hie : i = xs.length := by rw [List.length_append] at hi; simp at hi; omega
      subst hie
      have e1 : (cs ++ [c]).getD xs.length [] = c := by simp [List.getD_eq_getElem?_getD, ← hlen]
      have e2 : (xs ++ [x])[xs.length] = x := by simp
      rw [e1, e2, if_neg (by omega)]
      refine ⟨hc, by show M ≤ Mi; omega, hBi, hx, fun q hq => ?_⟩
      have hq' : g = q := by simpa [Value.ownBlock] using hq
      subst hq'
      rcases hgb with e | e
      · have := h.rowB g e; exact .inl (by show g < Mi; omega)
      · exact .inr e.2
  · rw [List.length_append] at hj
    simp at hj
    by_cases hjl : j < xs.length
    · simp only [if_pos hjl, if_pos (show i < xs.length by omega)]
      exact h.ord i j hij hjl
    · simp only [if_neg hjl, if_pos (show i < xs.length by omega)]
      have := (h.each i (by omega)).2.2.1
      omega
abbrev OwnEvO (M B : Nat) (w : World) (v : Value) (l : List Ev) (cs : List (List Value)) (f : Nat → Nat × Nat) : Prop := OwnRO 26 4 PEv M B w v l cs f
end Go.Proofs.YtjmgfpldjccilaaGreatDoor
