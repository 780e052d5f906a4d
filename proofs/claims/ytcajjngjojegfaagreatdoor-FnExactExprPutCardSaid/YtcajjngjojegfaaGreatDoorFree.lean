/- The model's reader without a bound on nodes: what it reads, and the place behind; none, if something is wrong. Plain. -/
import Derived.Test.YtcajjngjojegfaaGreatDoorParGet
namespace Go.Proofs.YtcajjngjojegfaaGreatDoor
open Go Go.PlainAid
set_option linter.unusedSimpArgs false
set_option linter.unusedVariables false

/-- nodes and the place behind them; none, if something is wrong -/
abbrev PR := Option (List Nd × Nat)
def sgn (k : Int) : Nd := (k, 0, noName)
def primP (rec : Int → Nat → Nat → PR) (s : ByteArray) (a d : Nat) : PR :=
  if hasAt s (skipTo s a) lpar then
    if 6 < d + 1 then none
    else match rec 1 (skipTo s a + 1) (d + 1) with
      | none => none
      | some (l, a') => if hasAt s (skipTo s a') rpar then some (l, takeAt s (skipTo s a') rpar) else none
  else
    if figB (bt s (skipTo s a)) then
      if numOf (s.extract (skipTo s a) (wordTo s (skipTo s a))) < 0 then none else some ([(1, numOf (s.extract (skipTo s a) (wordTo s (skipTo s a))), noName)], wordTo s (skipTo s a))
    else if nmB (s.extract (skipTo s a) (wordTo s (skipTo s a))) then some ([(2, 0, s.extract (skipTo s a) (wordTo s (skipTo s a)))], wordTo s (skipTo s a)) else none
def unaryP (rec : Int → Nat → Nat → PR) (s : ByteArray) (a d : Nat) : PR :=
  match primP rec s (aheadTo s a).2 d with
  | none => none
  | some (l, a') => some (l ++ (aheadTo s a).1.reverse.map sgn, a')
def loopP (rec : Int → Nat → Nat → PR) (s : ByteArray) (level : Int) (d : Nat) : Nat → List Nd → Nat → PR
  | 0, l, a => some (l, a)
  | n + 1, l, a => if findSign s (skipTo s a) level = 0 then some (l, signAt s (skipTo s a) level)
    else match rec (level + 1) (signAt s (skipTo s a) level) d with
      | none => none
      | some (r, a') => loopP rec s level d n (l ++ r ++ [sgn (findSign s (skipTo s a) level)]) a'
def sumP (s : ByteArray) : Nat → Int → Nat → Nat → PR
  | 0, _, a, _ => some ([], a)
  | f + 1, level, a, d => if 5 < level then unaryP (sumP s f) s a d
    else match sumP s f (level + 1) a d with
      | none => none
      | some (l, a') => loopP (sumP s f) s level d (s.size + 1) l a'

/-! ### what is bad stays bad -/
theorem bad_put {st : Par} (x : Nd) (h : st.bad = true) : (putNd st x).bad = true := by
  unfold putNd; split
  · rfl
  · exact h
theorem bad_putAll {st : Par} (l : List Int) (h : st.bad = true) : putAll l st = st := by
  cases l with
  | nil => rfl
  | cons k r => unfold putAll; rw [if_pos h]
theorem bad_prim {rec : Int → Par → Par} (hrec : ∀ l st, st.bad = true → (rec l st).bad = true) (s : ByteArray) {st : Par} (h : st.bad = true) : (primM rec s st).bad = true := by
  unfold primM
  split
  · split
    · rfl
    · simp only
      rw [hrec 1 _ (by exact h)]; rfl
  · simp only
    split
    · exact bad_put _ (by simp [h])
    · exact bad_put _ (by simp [h])
theorem bad_unary {rec : Int → Par → Par} (hrec : ∀ l st, st.bad = true → (rec l st).bad = true) (s : ByteArray) {st : Par} (h : st.bad = true) : (unaryM rec s st).bad = true := by
  unfold unaryM
  have := bad_prim hrec s (st := { st with at_ := (aheadTo s st.at_).2 }) h
  rw [bad_putAll _ this]; exact this
theorem bad_loop {rec : Int → Par → Par} (s : ByteArray) (level : Int) (n : Nat) {st : Par} (h : st.bad = true) : loopS rec s level n st = st := by
  cases n with
  | zero => rfl
  | succ n => unfold loopS; rw [if_pos h]
theorem bad_sum (s : ByteArray) (f : Nat) : ∀ level st, st.bad = true → (sumF s f level st).bad = true := by
  induction f with
  | zero => intro level st h; exact h
  | succ f ih =>
    intro level st h
    unfold sumF
    split
    · exact bad_unary ih s h
    · rw [bad_loop s level _ (ih _ _ h)]; exact ih _ _ h

/-- reading with a bound on nodes is reading without one, and the bound -/
def Fits (st st' : Par) (r : PR) : Prop :=
  match r with
  | none => st'.bad = true
  | some (l, a') => if st.out.length + l.length ≤ 24 then st' = { st with at_ := a', out := st.out ++ l } else st'.bad = true
theorem fits_put {st st' : Par} {l : List Nd} {a' : Nat} (x : Nd) (h : Fits st st' (some (l, a'))) (h0 : st.bad = false) (ho : st.out.length ≤ 24) : Fits st (putNd st' x) (some (l ++ [x], a')) := by
  unfold Fits at *
  simp only at *
  split at h
  · rename_i hl
    subst h
    unfold putNd
    by_cases h2 : 24 ≤ (st.out ++ l).length
    · rw [if_pos h2, if_neg (by simp at h2 ⊢; omega)]
    · rw [if_neg h2, if_pos (by simp at h2 ⊢; omega)]; simp
  · rename_i hl
    rw [if_neg (by simp; omega)]
    exact bad_put _ h
theorem fits_bad {st st' st'' : Par} {l l' : List Nd} {a' a'' : Nat} (h : Fits st st' (some (l, a'))) (hb : st'.bad = true) (h0 : st.bad = false) (hl : l.length ≤ l'.length) (h2 : st''.bad = true) : Fits st st'' (some (l', a'')) := by
  unfold Fits at *
  simp only at *
  split at h
  · subst h; simp [h0] at hb
  · rw [if_neg (by omega)]; exact h2
theorem fits_putAll {st : Par} (h0 : st.bad = false) (ho : st.out.length ≤ 24) (ks : List Int) : ∀ {st' : Par} {l : List Nd} {a' : Nat}, Fits st st' (some (l, a')) → Fits st (putAll ks st') (some (l ++ ks.map sgn, a')) := by
  induction ks with
  | nil => intro st' l a' h; simpa [putAll] using h
  | cons k r ih =>
    intro st' l a' h
    unfold putAll
    split
    · rename_i hb
      exact fits_bad h hb h0 (by simp) hb
    · have := ih (fits_put (sgn k) h h0 ho)
      have e : ((k, 0, noName) : Nd) = sgn k := rfl
      rw [e]
      simpa using this
def FitRec (rec : Int → Par → Par) (recP : Int → Nat → Nat → PR) : Prop := ∀ level st, st.bad = false → st.out.length ≤ 24 → Fits st (rec level st) (recP level st.at_ st.deep)
theorem fits_prim {rec : Int → Par → Par} {recP : Int → Nat → Nat → PR} (hr : FitRec rec recP) (s : ByteArray) (st : Par) (h0 : st.bad = false) (ho : st.out.length ≤ 24) : Fits st (primM rec s st) (primP recP s st.at_ st.deep) := by
  unfold primM primP
  split
  · split
    · rfl
    · have h := hr 1 { st with at_ := skipTo s st.at_ + 1, deep := st.deep + 1 } h0 ho
      simp only at h ⊢
      generalize rec 1 { st with at_ := skipTo s st.at_ + 1, deep := st.deep + 1 } = st3 at h
      generalize recP 1 (skipTo s st.at_ + 1) (st.deep + 1) = r at h
      cases r with
      | none => simp only [Fits] at h ⊢; simp [h]
      | some p =>
        obtain ⟨l, a'⟩ := p
        simp only [Fits] at h
        simp only
        split at h
        · rename_i hl
          subst h
          simp only
          split
          · rename_i hh
            unfold Fits; simp only; rw [if_pos hl]; simp [h0, hh]
          · rename_i hh
            unfold Fits; simp [h0, hh]
        · rename_i hl
          split
          · unfold Fits; simp only; rw [if_neg hl]; simp [h]
          · unfold Fits; simp [h]
  · simp only
    split
    · split
      · rename_i hh
        exact bad_put _ (by simp [hh])
      · rename_i hh
        have : Fits st { st with at_ := wordTo s (skipTo s st.at_), bad := st.bad || decide (numOf (s.extract (skipTo s st.at_) (wordTo s (skipTo s st.at_))) < 0) } (some ([], wordTo s (skipTo s st.at_))) := by
          unfold Fits; simp only; rw [if_pos (by simpa using ho)]; simp [h0]; omega
        exact fits_put _ this h0 ho
    · split
      · rename_i hh
        have : Fits st { st with at_ := wordTo s (skipTo s st.at_), bad := st.bad || !nmB (s.extract (skipTo s st.at_) (wordTo s (skipTo s st.at_))) } (some ([], wordTo s (skipTo s st.at_))) := by
          unfold Fits; simp only; rw [if_pos (by simpa using ho)]; simp [h0, hh]
        exact fits_put _ this h0 ho
      · rename_i hh
        exact bad_put _ (by simp [hh])
theorem fits_unary {rec : Int → Par → Par} {recP : Int → Nat → Nat → PR} (hr : FitRec rec recP) (s : ByteArray) (st : Par) (h0 : st.bad = false) (ho : st.out.length ≤ 24) : Fits st (unaryM rec s st) (unaryP recP s st.at_ st.deep) := by
  unfold unaryM unaryP
  have h := fits_prim hr s { st with at_ := (aheadTo s st.at_).2 } h0 ho
  simp only at h
  generalize primM rec s { st with at_ := (aheadTo s st.at_).2 } = st' at h
  generalize primP recP s (aheadTo s st.at_).2 st.deep = r at h
  cases r with
  | none => simp only [Fits] at h ⊢; rw [bad_putAll _ h]; exact h
  | some p =>
    obtain ⟨l, a'⟩ := p
    have h2 : Fits st st' (some (l, a')) := by simpa [Fits] using h
    exact fits_putAll h0 ho _ h2
theorem fits_loop {rec : Int → Par → Par} {recP : Int → Nat → Nat → PR} (hb : ∀ l st, st.bad = true → (rec l st).bad = true) (hr : FitRec rec recP) (s : ByteArray) (level : Int) {st : Par} (h0 : st.bad = false) (ho : st.out.length ≤ 24) (n : Nat) : ∀ {st' : Par} {l : List Nd} {a' : Nat}, Fits st st' (some (l, a')) → Fits st (loopS rec s level n st') (loopP recP s level st.deep n l a') := by
  induction n with
  | zero => intro st' l a' h; exact h
  | succ n ih =>
    intro st' l a' h
    unfold loopS loopP
    by_cases hbad : st'.bad = true
    · rw [if_pos hbad]
      -- too many nodes already: more come, or something is wrong
      have hlen : ¬ st.out.length + l.length ≤ 24 := by
        intro hl
        simp only [Fits] at h
        rw [if_pos hl] at h
        subst h
        simp [h0] at hbad
      split
      · exact fits_bad h hbad h0 (Nat.le_refl _) hbad
      · split
        · exact hbad
        · rename_i r a2 hr2
          have : ∀ (n : Nat) (l2 : List Nd) (a2 : Nat), l.length ≤ l2.length → Fits st st' (loopP recP s level st.deep n l2 a2) := by
            intro n
            induction n with
            | zero => intro l2 a2 hl2; exact fits_bad h hbad h0 hl2 hbad
            | succ n ih2 =>
              intro l2 a2 hl2
              unfold loopP
              split
              · exact fits_bad h hbad h0 hl2 hbad
              · split
                · exact hbad
                · exact ih2 _ _ (by simp; omega)
          exact this n _ _ (by simp)
    · rw [if_neg hbad]
      have hl : st.out.length + l.length ≤ 24 := by
        rcases Nat.lt_or_ge 24 (st.out.length + l.length) with hh | hh
        · simp only [Fits] at h
          rw [if_neg (by omega)] at h
          exact absurd h hbad
        · exact hh
      have hst : st' = { st with at_ := a', out := st.out ++ l } := by
        simp only [Fits] at h
        rw [if_pos hl] at h
        exact h
      subst hst
      simp only
      split
      · unfold Fits; simp [hl]
      · have h3 := hr (level + 1) { st with at_ := signAt s (skipTo s a') level, out := st.out ++ l } h0 (by simpa using hl)
        simp only at h3
        generalize rec (level + 1) { st with at_ := signAt s (skipTo s a') level, out := st.out ++ l } = st3 at h3
        generalize recP (level + 1) (signAt s (skipTo s a') level) st.deep = r at h3
        cases r with
        | none =>
          simp only [Fits] at h3
          simp only
          rw [bad_loop s level n (bad_put _ h3)]
          exact bad_put _ h3
        | some p =>
          obtain ⟨r, a2⟩ := p
          simp only
          apply ih
          apply fits_put _ _ h0 ho
          simp only [Fits, List.length_append] at h3 ⊢
          rw [← Nat.add_assoc]
          split at h3
          · rename_i hh; rw [if_pos hh]; rw [h3]; simp
          · rename_i hh; rw [if_neg hh]; exact h3
theorem fits_sum (s : ByteArray) (f : Nat) : FitRec (sumF s f) (sumP s f) := by
  induction f with
  | zero => intro level st h0 ho; unfold Fits; simp only [sumP, sumF]; rw [if_pos (by simpa using ho)]; simp
  | succ f ih =>
    intro level st h0 ho
    unfold sumF sumP
    split
    · exact fits_unary ih s st h0 ho
    · have h := ih (level + 1) st h0 ho
      generalize sumF s f (level + 1) st = st' at h
      generalize sumP s f (level + 1) st.at_ st.deep = r at h
      cases r with
      | none => simp only [Fits] at h; rw [bad_loop s level _ h]; exact h
      | some p => exact fits_loop (bad_sum s f) ih s level h0 ho _ h
/-- what the model reads, by reading without a bound -/
theorem getM_free (s : ByteArray) : getM s = if 60 < s.size then none else match sumP s (7 * s.size + 7) 1 0 0 with
    | none => none
    | some (l, a) => if skipTo s a < s.size then none else if 24 < l.length then none else some l := by
  unfold getM
  split
  · rfl
  · have h := fits_sum s (7 * s.size + 7) 1 par0 rfl (by simp [par0])
    have e1 : par0.at_ = 0 := rfl
    have e2 : par0.deep = 0 := rfl
    rw [e1, e2] at h
    have e3 : sumF s (7 * s.size + 7) 1 par0 = parEnd s := rfl
    rw [e3] at h
    generalize parEnd s = st at h
    generalize sumP s (7 * s.size + 7) 1 0 0 = r at h
    cases r with
    | none => simp only [Fits] at h; rw [if_pos (.inl h)]
    | some p =>
      obtain ⟨l, a⟩ := p
      simp only [Fits] at h
      have e4 : par0.out.length = 0 := rfl
      rw [e4, Nat.zero_add] at h
      simp only
      split at h
      · rename_i hl
        subst h
        simp [par0]
        by_cases hs : skipTo s a < s.size
        · simp [hs]
        · simp [hs]; omega
      · rename_i hl
        rw [if_pos (.inl h)]
        split
        · rfl
        · rw [if_pos (by omega)]
end Go.Proofs.YtcajjngjojegfaaGreatDoor
