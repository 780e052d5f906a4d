/- Rows in memory of one's own whose parts lie in memory of their own (the general part of RowsR, RowsArr: not beside them); rows of events. -/
import Derived.Test.YtjmgfpldjccilaaGreatDoorEvArr
import Derived.Test.YtjmgfpldjccilaaGreatDoorFreeI
import Derived.Test.YtjmgfpldjccilaaGreatDoorOwnRow
namespace Go.Proofs.YtjmgfpldjccilaaGreatDoor
open Go Go.RowKit Go.PlainAid
set_option linter.unusedSimpArgs false
set_option linter.unusedVariables false

theorem ownsRow_mono {w : World} {base base' size n : Nat} {e : TypeId} {v : Value} {xs : List Value} (h : w.ownsRow base e size v n xs) (hb : base' ≤ base) : w.ownsRow base' e size v n xs := by
  obtain ⟨h1, h2⟩ := h
  refine ⟨h1, ?_⟩
  rcases h2 with h2 | ⟨g, cap, cur, hv, h3, h4⟩
  · exact .inl h2
  · exact .inr ⟨g, cap, cur, hv, by omega, h4⟩
/-- the blocks from M on, below B, are as they were -/
def Stay (M B : Nat) (w w' : World) : Prop := ∀ b, M ≤ b → b < B → w'.heap[b]? = w.heap[b]?
theorem Stay.sub {M B M' B' : Nat} {w w' : World} (h : Stay M B w w') (h1 : M ≤ M') (h2 : B' ≤ B) : Stay M' B' w w' := fun b k1 k2 => h b (by omega) (by omega)
theorem Stay.of {M B : Nat} {w w' : World} (h : Below B w w') : Stay M B w w' := fun b _ hb => h.block b hb
theorem Stay.trans {M B : Nat} {w w1 w2 : World} (h : Stay M B w w1) (h2 : Stay M B w1 w2) : Stay M B w w2 := fun b k1 k2 => (h2 b k1 k2).trans (h b k1 k2)
def Local {α : Type} (P : Nat → Nat → World → List Value → α → Prop) : Prop := ∀ M B w w' c x, Stay M B w w' → B ≤ w.heap.size → B ≤ w'.heap.size → P M B w c x → P M B w' c x
structure OwnR {α : Type} (T : TypeId) (k : Nat) (P : Nat → Nat → World → List Value → α → Prop) (M B : Nat) (w : World) (v : Value) (xs : List α) (cs : List (List Value)) : Prop where
  len : cs.length = xs.length
  row : w.ownsRow M T k v xs.length cs.flatten
  rowB : ∀ q, v.ownBlock = some q → q < B
  bound : B ≤ w.heap.size
  each : ∀ i, (h : i < xs.length) → (cs.getD i []).length = k ∧ ∃ Mi Bi, M ≤ Mi ∧ Bi ≤ B ∧ P Mi Bi w (cs.getD i []) xs[i] ∧ ∀ q, v.ownBlock = some q → q < Mi ∨ Bi ≤ q
theorem OwnR.nil {α : Type} (T : TypeId) (k : Nat) (P : Nat → Nat → World → List Value → α → Prop) (M B : Nat) (w : World) (hB : B ≤ w.heap.size) : OwnR T k P M B w (.slice none 0 0) [] [] :=
  ⟨rfl, ⟨(by simp), .inl ⟨rfl, rfl⟩⟩, (fun q h => by cases h), hB, (fun i h => by simp at h)⟩
theorem OwnR.stay1 {α : Type} {T : TypeId} {k : Nat} {P : Nat → Nat → World → List Value → α → Prop} (hP : Local P) {M B : Nat} {w w' : World} {v : Value} {xs : List α} {cs : List (List Value)} (hs : Stay M B w w') (hb' : B ≤ w'.heap.size) (h : OwnR T k P M B w v xs cs) : OwnR T k P M B w' v xs cs := by
  have hb := h.bound
  refine ⟨h.len, own_of_block h.row (fun q hq => hs q (World.ownsRow.lt h.row q hq).1 (h.rowB q hq)), h.rowB, by omega, fun i hi => ?_⟩
  obtain ⟨h1, Mi, Bi, h2, h3, h4, h5⟩ := h.each i hi
  exact ⟨h1, Mi, Bi, h2, h3, hP _ _ _ _ _ _ (hs.sub h2 h3) (by omega) (by omega) h4, h5⟩
theorem OwnR.stays {α : Type} {T : TypeId} {k : Nat} {P : Nat → Nat → World → List Value → α → Prop} (hP : Local P) {M B : Nat} {w w' : World} {v : Value} {xs : List α} {cs : List (List Value)} (hs : Stay M B w w') (hsz : w.heap.size ≤ w'.heap.size) (h : OwnR T k P M B w v xs cs) : OwnR T k P M B w' v xs cs := h.stay1 hP hs (Nat.le_trans h.bound hsz)
theorem OwnR.mono {α : Type} {T : TypeId} {k : Nat} {P : Nat → Nat → World → List Value → α → Prop} {M M' B B' : Nat} {w : World} {v : Value} {xs : List α} {cs : List (List Value)} (h : OwnR T k P M B w v xs cs) (hM : M' ≤ M) (hB : B ≤ B') (hw : B' ≤ w.heap.size) : OwnR T k P M' B' w v xs cs :=
  ⟨h.len, ownsRow_mono h.row hM, fun q hq => Nat.lt_of_lt_of_le (h.rowB q hq) hB, hw, fun i hi => by
    obtain ⟨h1, Mi, Bi, h2, h3, h4, h5⟩ := h.each i hi
    exact ⟨h1, Mi, Bi, by omega, by omega, h4, h5⟩⟩
theorem OwnR.form {α : Type} {T : TypeId} {k : Nat} {P : Nat → Nat → World → List Value → α → Prop} {M B : Nat} {w : World} {v : Value} {xs : List α} {cs : List (List Value)} (h : OwnR T k P M B w v xs cs) : ∃ a c, v = .slice a xs.length c := by
  rcases h.row.2 with ⟨h1, h2⟩ | ⟨g, cap, cur, h1, _⟩
  · exact ⟨none, 0, by rw [h1, h2]⟩
  · exact ⟨_, _, h1⟩
/-- one more at the end: its parts lie behind all of the world before -/
theorem OwnR.push {α : Type} {T : TypeId} {k : Nat} {P : Nat → Nat → World → List Value → α → Prop} (hP : Local P) {M : Nat} {w w2 : World} {u : Value} {xs : List α} {cs : List (List Value)} {c : List Value} {x : α} {g cap Mi Bi : Nat} (h : OwnR T k P M w.heap.size w u xs cs) (hg : w.grownBy w2 u.ownBlock)
    (hgb : u.ownBlock = some g ∨ (w.heap.size ≤ g ∧ Bi ≤ g)) (hMi : w.heap.size ≤ Mi) (hMw : M ≤ w.heap.size) (hBi : Bi ≤ w2.heap.size) (hx : P Mi Bi w2 c x) (hc : c.length = k)
    (hown : w2.ownsRow M T k (.slice (some ⟨g, 0, none⟩) (xs.length + 1) cap) (xs.length + 1) (cs.flatten ++ c)) : OwnR T k P M w2.heap.size w2 (.slice (some ⟨g, 0, none⟩) (xs.length + 1) cap) (xs ++ [x]) (cs ++ [c]) := by
  have hlen := h.len
  refine ⟨by simp [hlen], by simpa using hown, fun q hq => (World.ownsRow.lt hown q hq).2, Nat.le_refl _, fun i hi => ?_⟩
  have hsz := hg.size
  by_cases hil : i < xs.length
  · have e1 : (cs ++ [c]).getD i [] = cs.getD i [] := by simp [List.getD_eq_getElem?_getD, List.getElem?_append_left (show i < cs.length by omega)]
    have e2 : (xs ++ [x])[i] = xs[i] := by rw [List.getElem_append_left hil]
    rw [e1, e2]
    obtain ⟨h1, M1, B1, h2, h3, h4, h5⟩ := h.each i hil
    refine ⟨h1, M1, B1, h2, by omega, hP _ _ _ _ _ _ (fun b k1 k2 => hg.block b (by omega) (fun e => ?_)) h3 (by omega) h4, fun q hq => ?_⟩
    · rcases h5 b e.symm with h | h <;> omega
    · have hq' : g = q := by simpa [Value.ownBlock] using hq
      subst hq'
      rcases hgb with e | e
      · exact h5 g e
      · exact .inr (by omega)
  · have hie : i = xs.length := by rw [List.length_append] at hi; simp at hi; omega
    subst hie
    have e1 : (cs ++ [c]).getD xs.length [] = c := by simp [List.getD_eq_getElem?_getD, ← hlen]
    have e2 : (xs ++ [x])[xs.length] = x := by simp
    rw [e1, e2]
    refine ⟨hc, Mi, Bi, by omega, hBi, hx, fun q hq => ?_⟩
    have hq' : g = q := by simpa [Value.ownBlock] using hq
    subst hq'
    rcases hgb with e | e
    · have := h.rowB g e; exact .inl (by omega)
    · exact .inr e.2
theorem flat_at {k : Nat} : ∀ (cs : List (List Value)) (i j : Nat), (∀ c ∈ cs, c.length = k) → i < cs.length → j < k → cs.flatten[i * k + j]? = (cs.getD i [])[j]? := by
  intro cs
  induction cs with
  | nil => intro i j _ h; simp at h
  | cons c r ih =>
    intro i j hall hi hj
    have hc := hall c (by simp)
    cases i with
    | zero => simp [List.getElem?_append_left (show j < c.length by omega)]
    | succ i =>
      rw [List.flatten_cons, List.getElem?_append_right (by rw [hc, Nat.succ_mul]; omega), hc, show (i + 1) * k + j - k = i * k + j from by rw [Nat.succ_mul]; omega]
      have := ih i j (fun c hc => hall c (by simp [hc])) (by simpa using hi) hj
      simpa using this
theorem OwnR.arr {α : Type} {T : TypeId} {k : Nat} {P : Nat → Nat → World → List Value → α → Prop} {Q : Nat → World → List Value → α → Prop} {M B : Nat} {w : World} {v : Value} {xs : List α} {cs : List (List Value)} (h : OwnR T k P M B w v xs cs) (hQ : ∀ Mi Bi c x, Bi ≤ B → P Mi Bi w c x → Q B w c x) : ∃ a c, v = .slice a xs.length c ∧ IsArr k Q B w a xs.length xs := by
  rcases h.row.2 with ⟨h1, h2⟩ | ⟨g, cap, cur, h1, _⟩
  · exact ⟨none, 0, by rw [h1, h2], rfl, .inl h2⟩
  · subst h1
    refine ⟨_, _, rfl, rfl, .inr ⟨g, 0, rfl, h.rowB g rfl, fun i hi => ?_⟩⟩
    obtain ⟨h1, Mi, Bi, h2, h3, h4, _⟩ := h.each i hi
    refine ⟨cs.getD i [], hQ _ _ _ _ h3 h4, fun j u hu => ?_⟩
    have hj : j < k := by
      rw [← h1]
      exact (List.getElem?_eq_some_iff.1 hu).1
    have hall : ∀ c ∈ cs, c.length = k := fun c hc => by
      obtain ⟨i', hi', e⟩ := List.getElem_of_mem hc
      have := (h.each i' (by rw [← h.len]; exact hi')).1
      rw [List.getD_eq_getElem?_getD, List.getElem?_eq_getElem hi', Option.getD_some, e] at this
      exact this
    refine ⟨hj, ?_⟩
    have hlt : i * k + j < xs.length * k := by
      have : (i + 1) * k ≤ xs.length * k := Nat.mul_le_mul_right k hi
      rw [Nat.succ_mul] at this
      omega
    have hc := World.ownsRow.cellAt h.row (i * k + j) hlt
    rw [flat_at cs i j hall (by rw [h.len]; exact hi) hj, hu] at hc
    simpa using hc
/-- the slice (a, l.length) reads as l, in a block from M on, below B, that may be written -/
def FreeR (M B : Nat) (w : World) (a : Option Addr) (l : List Int) : Prop := l.length = 0 ∨ ∃ b, a = some ⟨b, 0, none⟩ ∧ M ≤ b ∧ b < B ∧ Open b l.length w ∧ ∀ i, i < l.length → w.cell? ⟨b, i, none⟩ = some (.int .i64 (l.getD i 0))
theorem FreeR.of {M : Nat} {w : World} {a : Option Addr} {n : Nat} {l : List Int} (h : FreeI M w a n l) : FreeR M w.heap.size w a l := by
  obtain ⟨⟨h1, h2⟩, h3⟩ := h
  rcases h3 with h3 | ⟨b, rfl, h4, h5⟩
  · exact .inl (by omega)
  · rcases h2 with h2 | ⟨b', off, e, h6, h7⟩
    · exact .inl (by omega)
    · cases e
      exact .inr ⟨b, rfl, h4, h6, by rw [h1]; exact h5, fun i hi => by have := h7 i (by omega); rwa [Nat.zero_add] at this⟩
theorem FreeR.is {M B : Nat} {w : World} {a : Option Addr} {l : List Int} (h : FreeR M B w a l) : IsInts B w a l.length l := by
  rcases h with h | ⟨b, rfl, _, h2, _, h3⟩
  · exact ⟨rfl, .inl h⟩
  · exact ⟨rfl, .inr ⟨b, 0, rfl, h2, fun i hi => by rw [Nat.zero_add]; exact h3 i hi⟩⟩
theorem FreeR.stays {M B : Nat} {w w' : World} {a : Option Addr} {l : List Int} (h : FreeR M B w a l) (hs : Stay M B w w') (hB : B ≤ w'.heap.size) : FreeR M B w' a l := by
  rcases h with h | ⟨b, rfl, h1, h2, h3, h4⟩
  · exact .inl h
  · have hb := hs b h1 h2
    exact .inr ⟨b, rfl, h1, h2, ⟨by omega, fun j hj => by
      obtain ⟨⟨v, hv⟩, hf⟩ := h3.2 j hj
      exact ⟨⟨v, (World.cell?_of_block (a := ⟨b, j, none⟩) hb).trans hv⟩, (World.frozen?_of_block (a := ⟨b, j, none⟩) hb).trans hf⟩⟩, fun i hi => (World.cell?_of_block (a := ⟨b, i, none⟩) hb).trans (h4 i hi)⟩
/-- an event of one's own -/
def PEv (M B : Nat) (w : World) (c : List Value) (x : Ev) : Prop := ∃ a k, c = [.int .i64 x.1, .int .i64 x.2.1, .int .i64 x.2.2.1, .slice a x.2.2.2.length k] ∧ x.2.2.2.length ≤ k ∧ x.2.2.2.length ≤ maxLen ∧ FreeR M B w a x.2.2.2
theorem PEv.loc : Local PEv := fun M B w w' c x hs _ h2 h => by
  obtain ⟨a, k, e, h3, h4, h5⟩ := h
  exact ⟨a, k, e, h3, h4, h5.stays hs h2⟩
theorem PEv.is {M B B' : Nat} {w : World} {c : List Value} {x : Ev} (hb : B ≤ B') (h : PEv M B w c x) : QEv B' w c x := by
  obtain ⟨a, k, e, h3, h4, h5⟩ := h
  exact ⟨a, _, k, e, h3, h4, h5.is.mono hb⟩
/-- a row of events of one's own, from M on, below B -/
abbrev OwnEv (M B : Nat) (w : World) (v : Value) (l : List Ev) (cs : List (List Value)) : Prop := OwnR 26 4 PEv M B w v l cs
theorem OwnEv.evs {M B : Nat} {w : World} {v : Value} {l : List Ev} {cs : List (List Value)} (h : OwnEv M B w v l cs) : ∃ a c, v = .slice a l.length c ∧ IsEvs B w a l.length l := OwnR.arr h (fun _ _ _ _ h3 h4 => h4.is h3)
end Go.Proofs.YtjmgfpldjccilaaGreatDoor
