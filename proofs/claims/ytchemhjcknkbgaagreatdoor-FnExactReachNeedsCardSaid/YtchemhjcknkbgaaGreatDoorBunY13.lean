/- The model's reader without a bound on nodes: what it reads, and the place behind; none, if something is wrong. Plain. -/
import Derived.Test.YtchemhjcknkbgaaGreatDoorBunY12
namespace Go.Proofs.YtchemhjcknkbgaaGreatDoor
open Go Go.PlainAid
set_option linter.unusedSimpArgs false
set_option linter.unusedVariables false

/-- nodes and the place behind them; none, if something is wrong -/
abbrev PR := Option (List Nd × Nat)
def sgn (k : Int) : Nd := (k, 0, noName)
def primP (rec : Int → Nat → Nat → PR) (s : ByteArray) (a d : Nat) : PR :=
  if hasAt s (skipTo s a) lpar then
    if 6 < d + 1 then none
    else match rec 1 (skipTo s a + 1) (d + 1) with
      | none => none
      | some (l, a') => if hasAt s (skipTo s a') rpar then some (l, takeAt s (skipTo s a') rpar) else none
  else
    if figB (bt s (skipTo s a)) then
      if numOf (s.extract (skipTo s a) (wordTo s (skipTo s a))) < 0 then none else some ([(1, numOf (s.extract (skipTo s a) (wordTo s (skipTo s a))), noName)], wordTo s (skipTo s a))
    else if nmB (s.extract (skipTo s a) (wordTo s (skipTo s a))) then some ([(2, 0, s.extract (skipTo s a) (wordTo s (skipTo s a)))], wordTo s (skipTo s a)) else none
def unaryP (rec : Int → Nat → Nat → PR) (s : ByteArray) (a d : Nat) : PR :=
  match primP rec s (aheadTo s a).2 d with
  | none => none
  | some (l, a') => some (l ++ (aheadTo s a).1.reverse.map sgn, a')
def loopP (rec : Int → Nat → Nat → PR) (s : ByteArray) (level : Int) (d : Nat) : Nat → List Nd → Nat → PR
  | 0, l, a => some (l, a)
  | n + 1, l, a => if findSign s (skipTo s a) level = 0 then some (l, signAt s (skipTo s a) level)
    else match rec (level + 1) (signAt s (skipTo s a) level) d with
      | none => none
      | some (r, a') => loopP rec s level d n (l ++ r ++ [sgn (findSign s (skipTo s a) level)]) a'
def sumP (s : ByteArray) : Nat → Int → Nat → Nat → PR
  | 0, _, a, _ => some ([], a)
  | f + 1, level, a, d => if 5 < level then unaryP (sumP s f) s a d
    else match sumP s f (level + 1) a d with
      | none => none
      | some (l, a') => loopP (sumP s f) s level d (s.size + 1) l a'

/-! ### what is bad stays bad -/
theorem bad_put {st : Par} (x : Nd) (h : st.bad = true) : (putNd st x).bad = true := by
  unfold putNd; split
  · rfl
  · exact h
theorem bad_putAll {st : Par} (l : List Int) (h : st.bad = true) : putAll l st = st := by
  cases l with
  | nil => rfl
  | cons k r => unfold putAll; rw [if_pos h]
theorem bad_prim {rec : Int → Par → Par} (hrec : ∀ l st, st.bad = true → (rec l st).bad = true) (s : ByteArray) {st : Par} (h : st.bad = true) : (primM rec s st).bad = true := by
  unfold primM
  split
  · split
    · rfl
    · simp only
      rw [hrec 1 _ (by exact h)]; rfl
  · simp only
    split
    · exact bad_put _ (by simp [h])
    · exact bad_put _ (by simp [h])
theorem bad_unary {rec : Int → Par → Par} (hrec : ∀ l st, st.bad = true → (rec l st).bad = true) (s : ByteArray) {st : Par} (h : st.bad = true) : (unaryM rec s st).bad = true := by
  unfold unaryM
  have := bad_prim hrec s (st := { st with at_ := (aheadTo s st.at_).2 }) h
  rw [bad_putAll _ this]; exact this
theorem bad_loop {rec : Int → Par → Par} (s : ByteArray) (level : Int) (n : Nat) {st : Par} (h : st.bad = true) : loopS rec s level n st = st := by
  cases n with
  | zero => rfl
  | succ n => unfold loopS; rw [if_pos h]
theorem bad_sum (s : ByteArray) (f : Nat) : ∀ level st, st.bad = true → (sumF s f level st).bad = true := by
  induction f with
  | zero => intro level st h; exact h
  | succ f ih =>
    intro level st h
    unfold sumF
    split
    · exact bad_unary ih s h
    · rw [bad_loop s level _ (ih _ _ h)]; exact ih _ _ h

/-- reading with a bound on nodes is reading without one, and the bound -/
def Fits (st st' : Par) (r : PR) : Prop :=
  match r with
  | none => st'.bad = true
  | some (l, a') => if st.out.length + l.length ≤ 24 then st' = { st with at_ := a', out := st.out ++ l } else st'.bad = true
theorem fits_put {st st' : Par} {l : List Nd} {a' : Nat} (x : Nd) (h : Fits st st' (some (l, a'))) (h0 : st.bad = false) (ho : st.out.length ≤ 24) : Fits st (putNd st' x) (some (l ++ [x], a')) := by
  unfold Fits at *
  simp only at *
  split at h
  · rename_i hl
    subst h
    unfold putNd
    by_cases h2 : 24 ≤ (st.out ++ l).length
    · rw [if_pos h2, if_neg (by simp at h2 ⊢; omega)]
    · rw [if_neg h2, if_pos (by simp at h2 ⊢; omega)]; simp
  · rename_i hl
    rw [if_neg (by simp; omega)]
    exact bad_put _ h
theorem fits_bad {st st' st'' : Par} {l l' : List Nd} {a' a'' : Nat} (h : Fits st st' (some (l, a'))) (hb : st'.bad = true) (h0 : st.bad = false) (hl : l.length ≤ l'.length) (h2 : st''.bad = true) : Fits st st'' (some (l', a'')) := by
  unfold Fits at *
  simp only at *
  split at h
  · subst h; simp [h0] at hb
  · rw [if_neg (by omega)]; exact h2
theorem fits_putAll {st : Par} (h0 : st.bad = false) (ho : st.out.length ≤ 24) (ks : List Int) : ∀ {st' : Par} {l : List Nd} {a' : Nat}, Fits st st' (some (l, a')) → Fits st (putAll ks st') (some (l ++ ks.map sgn, a')) := by
  induction ks with
  | nil => intro st' l a' h; simpa [putAll] using h
  | cons k r ih =>
    intro st' l a' h
    unfold putAll
    split
    · rename_i hb
      exact fits_bad h hb h0 (by simp) hb
    · have := ih (fits_put (sgn k) h h0 ho)
      have e : ((k, 0, noName) : Nd) = sgn k := rfl
      rw [e]
      simpa using this
def FitRec (rec : Int → Par → Par) (recP : Int → Nat → Nat → PR) : Prop := ∀ level st, st.bad = false → st.out.length ≤ 24 → Fits st (rec level st) (recP level st.at_ st.deep)
theorem fits_prim {rec : Int → Par → Par} {recP : Int → Nat → Nat → PR} (hr : FitRec rec recP) (s : ByteArray) (st : Par) (h0 : st.bad = false) (ho : st.out.length ≤ 24) : Fits st (primM rec s st) (primP recP s st.at_ st.deep) := by
  unfold primM primP
  split
  · split
    · rfl
    · have h := hr 1 { st with at_ := skipTo s st.at_ + 1, deep := st.deep + 1 } h0 ho
      simp only at h ⊢
      generalize rec 1 { st with at_ := skipTo s st.at_ + 1, deep := st.deep + 1 } = st3 at h
      generalize recP 1 (skipTo s st.at_ + 1) (st.deep + 1) = r at h
      cases r with
      | none => simp only [Fits] at h ⊢; simp [h]
      | some p =>
        obtain ⟨l, a'⟩ := p
        simp only [Fits] at h
        simp only
        split at h
        · rename_i hl
          subst h
          simp only
          split
          · rename_i hh
            unfold Fits; simp only; rw [if_pos hl]; simp [h0, hh]
          · rename_i hh
            unfold Fits; simp [h0, hh]
        · rename_i hl
          split
          · unfold Fits; simp only; rw [if_neg hl]; simp [h]
          · unfold Fits; simp [h]
  · simp only
    split
    · split
      · rename_i hh
        exact bad_put _ (by simp [hh])
      · rename_i hh
        have : Fits st { st with at_ := wordTo s (skipTo s st.at_), bad := st.bad || decide (numOf (s.extract (skipTo s st.at_) (wordTo s (skipTo s st.at_))) < 0) } (some ([], wordTo s (skipTo s st.at_))) := by
          unfold Fits; simp only; rw [if_pos (by simpa using ho)]; simp [h0]; omega
        exact fits_put _ this h0 ho
    · split
      · rename_i hh
        have : Fits st { st with at_ := wordTo s (skipTo s st.at_), bad := st.bad || !nmB (s.extract (skipTo s st.at_) (wordTo s (skipTo s st.at_))) } (some ([], wordTo s (skipTo s st.at_))) := by
          unfold Fits; simp only; rw [if_pos (by simpa using ho)]; simp [h0, hh]
        exact fits_put _ this h0 ho
      · rename_i hh
        exact bad_put _ (by simp [hh])
theorem fits_unary {rec : Int → Par → Par} {recP : Int → Nat → Nat → PR} (hr : FitRec rec recP) (s : ByteArray) (st : Par) (h0 : st.bad = false) (ho : st.out.length ≤ 24) : Fits st (unaryM rec s st) (unaryP recP s st.at_ st.deep) := by
  unfold unaryM unaryP
  have h := fits_prim hr s { st with at_ := (aheadTo s st.at_).2 } h0 ho
  simp only at h
  generalize primM rec s { st with at_ := (aheadTo s st.at_).2 } = st' at h
  generalize primP recP s (aheadTo s st.at_).2 st.deep = r at h
  cases r with
  | none => simp only [Fits] at h ⊢; rw [bad_putAll _ h]; exact h
  | some p =>
    obtain ⟨l, a'⟩ := p
    have h2 : Fits st st' (some (l, a')) := by simpa [Fits] using h
    exact fits_putAll h0 ho _ h2
theorem fits_loop {rec : Int → Par → Par} {recP : Int → Nat → Nat → PR} (hb : ∀ l st, st.bad = true → (rec l st).bad = true) (hr : FitRec rec recP) (s : ByteArray) (level : Int) {st : Par} (h0 : st.bad = false) (ho : st.out.length ≤ 24) (n : Nat) : ∀ {st' : Par} {l : List Nd} {a' : Nat}, Fits st st' (some (l, a')) → Fits st (loopS rec s level n st') (loopP recP s level st.deep n l a') := by
  induction n with
  | zero => intro st' l a' h; exact h
  | succ n ih =>
    intro st' l a' h
    unfold loopS loopP
    by_cases hbad : st'.bad = true
    · rw [if_pos hbad]
      -- too many nodes already: more come, or something is wrong
      have hlen : ¬ st.out.length + l.length ≤ 24 := by
        intro hl
        simp only [Fits] at h
        rw [if_pos hl] at h
        subst h
        simp [h0] at hbad
      split
      · exact fits_bad h hbad h0 (Nat.le_refl _) hbad
      · split
        · exact hbad
        · rename_i r a2 hr2
          have : ∀ (n : Nat) (l2 : List Nd) (a2 : Nat), l.length ≤ l2.length → Fits st st' (loopP recP s level st.deep n l2 a2) := by
            intro n
            induction n with
            | zero => intro l2 a2 hl2; exact fits_bad h hbad h0 hl2 hbad
            | succ n ih2 =>
              intro l2 a2 hl2
              unfold loopP
              split
              · exact fits_bad h hbad h0 hl2 hbad
              · split
                · exact hbad
                · exact ih2 _ _ (by simp; omega)
          exact this n _ _ (by simp)
    · rw [if_neg hbad]
      have hl : st.out.length + l.length ≤ 24 := by
        rcases Nat.lt_or_ge 24 (st.out.length + l.length) with hh | hh
        · simp only [Fits] at h
          rw [if_neg (by omega)] at h
          exact absurd h hbad
        · exact hh
      have hst : st' = { st with at_ := a', out := st.out ++ l } := by
        simp only [Fits] at h
        rw [if_pos hl] at h
        exact h
      subst hst
      simp only
      split
      · unfold Fits; simp [hl]
      · have h3 := hr (level + 1) { st with at_ := signAt s (skipTo s a') level, out := st.out ++ l } h0 (by simpa using hl)
        simp only at h3
        generalize rec (level + 1) { st with at_ := signAt s (skipTo s a') level, out := st.out ++ l } = st3 at h3
        generalize recP (level + 1) (signAt s (skipTo s a') level) st.deep = r at h3
        cases r with
        | none =>
          simp only [Fits] at h3
          simp only
          rw [bad_loop s level n (bad_put _ h3)]
          exact bad_put _ h3
        | some p =>
          obtain ⟨r, a2⟩ := p
          simp only
          apply ih
          apply fits_put _ _ h0 ho
          simp only [Fits, List.length_append] at h3 ⊢
          rw [← Nat.add_assoc]
          split at h3
          · rename_i hh; rw [if_pos hh]; rw [h3]; simp
          · rename_i hh; rw [if_neg hh]; exact h3
theorem fits_sum (s : ByteArray) (f : Nat) : FitRec (sumF s f) (sumP s f) := by
  induction f with
  | zero => intro level st h0 ho; unfold Fits; simp only [sumP, sumF]; rw [if_pos (by simpa using ho)]; simp
  | succ f ih =>
    intro level st h0 ho
    unfold sumF sumP
    split
    · exact fits_unary ih s st h0 ho
    · have h := ih (level + 1) st h0 ho
      generalize sumF s f (level + 1) st = st' at h
      generalize sumP s f (level + 1) st.at_ st.deep = r at h
      cases r with
      | none => simp only [Fits] at h; rw [bad_loop s level _ h]; exact h
      | some p => exact fits_loop (bad_sum s f) ih s level h0 ho _ h
/-- what the model reads, by reading without a bound -/
theorem getM_free (s : ByteArray) : getM s = if 60 < s.size then none else match sumP s (7 * s.size + 7) 1 0 0 with
    | none => none
    | some (l, a) => if skipTo s a < s.size then none else if 24 < l.length then none else some l := by
  unfold getM
  split
  · rfl
  · have h := fits_sum s (7 * s.size + 7) 1 par0 rfl (by simp [par0])
    have e1 : par0.at_ = 0 := rfl
    have e2 : par0.deep = 0 := rfl
    rw [e1, e2] at h
    have e3 : sumF s (7 * s.size + 7) 1 par0 = parEnd s := rfl
    rw [e3] at h
    generalize parEnd s = st at h
    generalize sumP s (7 * s.size + 7) 1 0 0 = r at h
    cases r with
    | none => simp only [Fits] at h; rw [if_pos (.inl h)]
    | some p =>
      obtain ⟨l, a⟩ := p
      simp only [Fits] at h
      have e4 : par0.out.length = 0 := rfl
      rw [e4, Nat.zero_add] at h
      simp only
      split at h
      · rename_i hl
        subst h
        simp [par0]
        by_cases hs : skipTo s a < s.size
        · simp [hs]
        · simp [hs]; omega
      · rename_i hl
        rw [if_pos (.inl h)]
        split
        · rfl
        · rw [if_pos (by omega)]
end Go.Proofs.YtchemhjcknkbgaaGreatDoor

/- The program's reader as a function: it climbs by how tightly signs bind. Plain: no program. -/
namespace Go.Proofs.YtchemhjcknkbgaaGreatDoor
open Go Go.PlainAid
set_option linter.unusedSimpArgs false
set_option linter.unusedVariables false

/-- a part of a sum -/
inductive Tree where
  | num (n : Int)
  | name (x : ByteArray)
  | ahead (k : Int) (t : Tree)
  | pair (k : Int) (l r : Tree)
def Tree.nodes : Tree → List Nd
  | .num n => [(1, n, noName)]
  | .name x => [(2, 0, x)]
  | .ahead k t => t.nodes ++ [sgn k]
  | .pair k l r => l.nodes ++ r.nodes ++ [sgn k]
/-- a part and the place behind it -/
abbrev CR := Option (Tree × Nat)

/-- the place of the next byte that is no figure -/
def figF (s : ByteArray) : Nat → Nat → Nat
  | 0, a => a
  | f + 1, a => if a < s.size ∧ figB (bt s a) = true then figF s f (a + 1) else a
def figEnd (s : ByteArray) (a : Nat) : Nat := figF s (s.size - a) a
/-- the kind of the sign between two parts that stands at a place; 0, if there is none -/
def pairAt (s : ByteArray) (k : Nat) : Nat := ((List.range' 5 9).find? (fun j => hasAt s k (sg j))).getD 0

def numberC (s : ByteArray) (a : Nat) : CR :=
  if 6 < figEnd s a - a ∨ (1 < figEnd s a - a ∧ bt s a = 48) then none else some (.num (numTo (s.extract a (figEnd s a)) (figEnd s a - a)), figEnd s a)
def singleC (rec : Int → Nat → Nat → CR) (s : ByteArray) (a d : Nat) : CR :=
  if s.size ≤ a then none
  else if bt s a = 40 then
    if d = 6 then none
    else match rec 1 (a + 1) (d + 1) with
      | none => none
      | some (t, a') => if hasAt s a' rpar then some (t, a' + 1) else none
  else if figB (bt s a) then numberC s a
  else if nmB (s.extract a (wordTo s a)) then some (.name (s.extract a (wordTo s a)), wordTo s a) else none
def aheadC (rec : Int → Nat → Nat → CR) (s : ByteArray) (d : Nat) : Nat → Nat → CR
  | 0, _ => none
  | n + 1, a => if bt s (skipTo s a) = 45 then (match aheadC rec s d n (skipTo s a + 1) with | none => none | some (t, a') => some (.ahead 3 t, a'))
    else if bt s (skipTo s a) = 33 then (match aheadC rec s d n (skipTo s a + 1) with | none => none | some (t, a') => some (.ahead 4 t, a'))
    else singleC rec s (skipTo s a) d
def loopC (rec : Int → Nat → Nat → CR) (s : ByteArray) (least : Int) (d : Nat) : Nat → Tree → Nat → CR
  | 0, _, _ => none
  | n + 1, t, a => if pairAt s (skipTo s a) = 0 ∨ lvl (pairAt s (skipTo s a)) < least then some (t, skipTo s a)
    else match rec (lvl (pairAt s (skipTo s a)) + 1) (skipTo s a + (sg (pairAt s (skipTo s a))).size) d with
      | none => none
      | some (r, a') => loopC rec s least d n (.pair (pairAt s (skipTo s a)) t r) a'
def climbF (s : ByteArray) : Nat → Int → Nat → Nat → CR
  | 0, _, _, _ => none
  | f + 1, least, a, d => match aheadC (climbF s f) s d (s.size - a + 1) a with
    | none => none
    | some (t, a') => loopC (climbF s f) s least d (s.size - a' + 1) t a'

/-! ### bytes and signs -/
theorem bt_extract (s : ByteArray) {i j k : Nat} (hj : j ≤ s.size) (h : i + k < j) : bt (s.extract i j) k = bt s (i + k) := by
  unfold bt
  have h1 : k < (s.extract i j).size := by rw [ByteArray.size_extract]; omega
  rw [dif_pos h1, dif_pos (show i + k < s.size by omega)]
  rw [ByteArray.getElem_extract]
theorem hasAt_bt {s : ByteArray} {k : Nat} {g : ByteArray} (h : hasAt s k g = true) {j : Nat} (hj : j < g.size) : bt s (k + j) = bt g j := by
  have h1 := hasAt_lt h
  unfold hasAt at h
  simp at h
  have e : s.extract k (k + g.size) = g := by
    have := h.2
    rw [Lib.toList_data, Lib.toList_data] at this
    exact ByteArray.ext (Array.toList_inj.1 this)
  rw [← bt_extract s (i := k) (j := k + g.size) h1 (by omega), e]
theorem hasAt_of {s : ByteArray} {k : Nat} {g : ByteArray} (h1 : k + g.size ≤ s.size) (h : ∀ j, j < g.size → bt s (k + j) = bt g j) : hasAt s k g = true := by
  unfold hasAt
  simp only [Bool.and_eq_true, decide_eq_true_eq, beq_iff_eq]
  refine ⟨h1, ?_⟩
  have hs : (s.extract k (k + g.size)).size = g.size := by rw [ByteArray.size_extract]; omega
  have e : s.extract k (k + g.size) = g := by
    apply ByteArray.ext
    apply Array.ext
    · exact hs
    · intro i h2 h3
      have h4 : i < g.size := h3
      have h5 := h i h4
      rw [← bt_extract s (i := k) (j := k + g.size) h1 (by omega)] at h5
      unfold bt at h5
      rw [dif_pos (by rw [hs]; exact h4), dif_pos h4] at h5
      apply UInt8.toNat_inj.1
      exact_mod_cast h5
  rw [e]
theorem lpar_at (s : ByteArray) (k : Nat) : hasAt s k lpar = decide (bt s k = 40) := by
  by_cases h : bt s k = 40
  · rw [decide_eq_true h]
    have := bt_lt h (by decide)
    exact hasAt_of (by show k + 1 ≤ s.size; omega) (fun j hj => by
      have h1 : j < 1 := hj
      have : j = 0 := by omega
      subst this; rw [Nat.add_zero, h]; decide)
  · rw [decide_eq_false h]
    cases e : hasAt s k lpar with
    | false => rfl
    | true => exact absurd ((hasAt_bt e (j := 0) (by decide)).trans (by decide)) h
theorem rpar_at (s : ByteArray) (k : Nat) : hasAt s k rpar = decide (bt s k = 41) := by
  by_cases h : bt s k = 41
  · rw [decide_eq_true h]
    have := bt_lt h (by decide)
    exact hasAt_of (by show k + 1 ≤ s.size; omega) (fun j hj => by
      have h1 : j < 1 := hj
      have : j = 0 := by omega
      subst this; rw [Nat.add_zero, h]; decide)
  · rw [decide_eq_false h]
    cases e : hasAt s k rpar with
    | false => rfl
    | true => exact absurd ((hasAt_bt e (j := 0) (by decide)).trans (by decide)) h
theorem sg_cases {j : Nat} (h : 5 ≤ j ∧ j ≤ 13) : j = 5 ∨ j = 6 ∨ j = 7 ∨ j = 8 ∨ j = 9 ∨ j = 10 ∨ j = 11 ∨ j = 12 ∨ j = 13 := by omega
/-- a sign's first byte -/
def sgb (j : Nat) : Int := bt (sg j) 0
theorem sgb_inj {i j : Nat} (hi : 5 ≤ i ∧ i ≤ 13) (hj : 5 ≤ j ∧ j ≤ 13) (h : sgb i = sgb j) : i = j := by
  rcases sg_cases hi with rfl | rfl | rfl | rfl | rfl | rfl | rfl | rfl | rfl <;> rcases sg_cases hj with rfl | rfl | rfl | rfl | rfl | rfl | rfl | rfl | rfl <;> first | rfl | (revert h; decide)
theorem sg_pos {j : Nat} (h : 5 ≤ j ∧ j ≤ 13) : 1 ≤ (sg j).size := by
  rcases sg_cases h with rfl | rfl | rfl | rfl | rfl | rfl | rfl | rfl | rfl <;> decide
theorem sgb_no {j : Nat} (h : 5 ≤ j ∧ j ≤ 13) : alnB (sgb j) = false ∧ sgb j ≠ 32 ∧ sgb j ≠ 41 := by
  rcases sg_cases h with rfl | rfl | rfl | rfl | rfl | rfl | rfl | rfl | rfl <;> decide
theorem hasAt_sgb {s : ByteArray} {k j : Nat} (h : 5 ≤ j ∧ j ≤ 13) (hh : hasAt s k (sg j) = true) : bt s k = sgb j := by
  have := hasAt_bt hh (j := 0) (sg_pos h)
  exact this
theorem pairAt_yes {s : ByteArray} {k j : Nat} (h : 5 ≤ j ∧ j ≤ 13) (hh : hasAt s k (sg j) = true) : pairAt s k = j := by
  unfold pairAt
  have : (List.range' 5 9).find? (fun j => hasAt s k (sg j)) = some j := by
    rw [List.find?_range'_eq_some]
    refine ⟨hh, by simp; omega, fun i h1 h2 => ?_⟩
    cases e : hasAt s k (sg i) with
    | false => rfl
    | true => have := sgb_inj (i := i) ⟨h1, by omega⟩ h ((hasAt_sgb ⟨h1, by omega⟩ e).symm.trans (hasAt_sgb h hh)); omega
  rw [this]; rfl
theorem pairAt_is {s : ByteArray} {k : Nat} (h : pairAt s k ≠ 0) : (5 ≤ pairAt s k ∧ pairAt s k ≤ 13) ∧ hasAt s k (sg (pairAt s k)) = true := by
  unfold pairAt at *
  cases hf : (List.range' 5 9).find? (fun j => hasAt s k (sg j)) with
  | none => rw [hf] at h; simp at h
  | some j =>
    have h1 := List.find?_some hf
    have h2 := List.mem_of_find?_eq_some hf
    simp at h2
    exact ⟨by simp; omega, h1⟩
theorem findSign_pair (s : ByteArray) (k : Nat) (level : Int) : findSign s k level = if pairAt s k ≠ 0 ∧ lvl (pairAt s k) = level then pairAt s k else 0 := by
  split
  · rename_i h
    have hp := pairAt_is h.1
    refine findSign_yes hp.1 (by unfold isSign; simp [h.2, hp.2]) (fun i h1 h2 => ?_)
    unfold isSign
    cases e : hasAt s k (sg i) with
    | false => simp
    | true => have := pairAt_yes (j := i) ⟨h1, by omega⟩ e; omega
  · rename_i h
    refine findSign_no (fun i h1 h2 => ?_)
    unfold isSign
    cases e : hasAt s k (sg i) with
    | false => simp
    | true =>
      have := pairAt_yes (j := i) ⟨h1, by omega⟩ e
      simp only [Bool.and_true, beq_eq_false_iff_ne]
      intro hl
      exact h ⟨by omega, by rw [this]; exact hl⟩
theorem lvl_range (k : Int) : 1 ≤ lvl k ∧ lvl k ≤ 5 := by
  unfold lvl
  repeat' split
  all_goals omega
theorem pair_lt {s : ByteArray} {k : Nat} (h : pairAt s k ≠ 0) : k + (sg (pairAt s k)).size ≤ s.size ∧ 1 ≤ (sg (pairAt s k)).size ∧ alnB (bt s k) = false ∧ bt s k ≠ 32 ∧ k < s.size := by
  have hp := pairAt_is h
  have h1 := hasAt_lt hp.2
  have h2 := sg_pos hp.1
  have h3 := sgb_no hp.1
  have h4 := hasAt_sgb hp.1 hp.2
  rw [h4]
  exact ⟨h1, h2, h3.1, h3.2.1, by omega⟩
end Go.Proofs.YtchemhjcknkbgaaGreatDoor

/- Climbing reads what reading level by level does. Plain. -/
namespace Go.Proofs.YtchemhjcknkbgaaGreatDoor
open Go Go.PlainAid
set_option linter.unusedSimpArgs false
set_option linter.unusedVariables false

/-! ### reading goes on -/
def AdvP (s : ByteArray) (rec : Int → Nat → Nat → PR) : Prop := ∀ lev a d l a', rec lev a d = some (l, a') → a ≤ a' ∧ (a ≤ s.size → a' ≤ s.size)
theorem advP_prim {s : ByteArray} {rec : Int → Nat → Nat → PR} (hr : AdvP s rec) {a d : Nat} {l : List Nd} {a' : Nat} (h : primP rec s a d = some (l, a')) : a ≤ a' ∧ (a ≤ s.size → a' ≤ s.size) := by
  have h1 := skipTo_mono s a
  unfold primP at h
  split at h
  · rename_i hh
    have h2 := hasAt_lt hh
    have e : lpar.size = 1 := rfl
    split at h
    · cases h
    · split at h
      · cases h
      · rename_i l2 a2 hr2
        have h3 := hr _ _ _ _ _ hr2
        split at h
        · cases h
          have h4 := skipTo_mono s a2
          have h5 := takeAt_mono s (skipTo s a2) rpar
          exact ⟨by omega, fun ha => (takeAt_le (skipTo_le (h3.2 (by omega))).2).2⟩
        · cases h
  · have h2 := wordF_le s (s.size - skipTo s a) (skipTo s a)
    have e : wordTo s (skipTo s a) = wordF s (s.size - skipTo s a) (skipTo s a) := rfl
    rw [← e] at h2
    have h3 : a ≤ s.size → wordTo s (skipTo s a) ≤ s.size := fun ha => h2.2 (skipTo_le ha).2
    split at h
    · split at h
      · cases h
      · cases h; exact ⟨by omega, h3⟩
    · split at h
      · cases h; exact ⟨by omega, h3⟩
      · cases h
theorem advP_unary {s : ByteArray} {rec : Int → Nat → Nat → PR} (hr : AdvP s rec) {a d : Nat} {l : List Nd} {a' : Nat} (h : unaryP rec s a d = some (l, a')) : a ≤ a' ∧ (a ≤ s.size → a' ≤ s.size) := by
  unfold unaryP at h
  split at h
  · cases h
  · rename_i l2 a2 h2
    cases h
    have h3 := advP_prim hr h2
    have h4 := aheadF_le s (s.size - a + 1) a
    have e : (aheadTo s a).2 = (aheadF s (s.size - a + 1) a).2 := rfl
    rw [e] at h3
    exact ⟨by omega, fun ha => h3.2 (h4.2 ha)⟩
theorem advP_loop {s : ByteArray} {rec : Int → Nat → Nat → PR} (hr : AdvP s rec) (level : Int) (d n : Nat) : ∀ {l : List Nd} {a : Nat} {l' : List Nd} {a' : Nat}, loopP rec s level d n l a = some (l', a') → a ≤ a' ∧ (a ≤ s.size → a' ≤ s.size) := by
  induction n with
  | zero => intro l a l' a' h; cases h; exact ⟨Nat.le_refl _, id⟩
  | succ n ih =>
    intro l a l' a' h
    have h1 := signAt_le s a level
    unfold loopP at h
    split at h
    · cases h; exact h1
    · split at h
      · cases h
      · rename_i r a2 h2
        have h3 := hr _ _ _ _ _ h2
        have h4 := ih h
        exact ⟨by omega, fun ha => h4.2 (h3.2 (h1.2 ha))⟩
theorem advP_sum (s : ByteArray) (f : Nat) : AdvP s (sumP s f) := by
  induction f with
  | zero => intro lev a d l a' h; cases h; exact ⟨Nat.le_refl _, id⟩
  | succ f ih =>
    intro lev a d l a' h
    unfold sumP at h
    split at h
    · exact advP_unary ih h
    · split at h
      · cases h
      · rename_i l2 a2 h2
        have h3 := ih _ _ _ _ _ h2
        have h4 := advP_loop ih _ _ _ h
        exact ⟨by omega, fun ha => h4.2 (h3.2 ha)⟩

/-! ### the fuel does not matter, as long as there is enough -/
def AgreeP (s : ByteArray) (a : Nat) (r1 r2 : Int → Nat → Nat → PR) : Prop := ∀ lev b d, a < b → b ≤ s.size → 1 ≤ lev → lev ≤ 6 → r1 lev b d = r2 lev b d
theorem agreeP_prim {s : ByteArray} {a : Nat} {r1 r2 : Int → Nat → Nat → PR} (h : AgreeP s a r1 r2) (d : Nat) {a1 : Nat} (ha : a ≤ a1) : primP r1 s a1 d = primP r2 s a1 d := by
  unfold primP
  split
  · rename_i hh
    have h2 := hasAt_lt hh
    have e : lpar.size = 1 := rfl
    have h1 := skipTo_mono s a1
    rw [h 1 (skipTo s a1 + 1) (d + 1) (by omega) (by omega) (by omega) (by omega)]
  · rfl
theorem agreeP_unary {s : ByteArray} {a : Nat} {r1 r2 : Int → Nat → Nat → PR} (h : AgreeP s a r1 r2) (d : Nat) : unaryP r1 s a d = unaryP r2 s a d := by
  unfold unaryP
  have h4 := aheadF_le s (s.size - a + 1) a
  have e : (aheadTo s a).2 = (aheadF s (s.size - a + 1) a).2 := rfl
  rw [← e] at h4
  rw [agreeP_prim h d h4.1]
theorem agreeP_loop {s : ByteArray} {a : Nat} {r1 r2 : Int → Nat → Nat → PR} (h : AgreeP s a r1 r2) (hr : AdvP s r1) (level : Int) (h1 : 1 ≤ level ∧ level ≤ 5) (d : Nat) (n : Nat) : ∀ (l : List Nd) (b : Nat), a ≤ b → b ≤ s.size → loopP r1 s level d n l b = loopP r2 s level d n l b := by
  induction n with
  | zero => intro l b _ _; rfl
  | succ n ih =>
    intro l b hb hs
    unfold loopP
    split
    · rfl
    · rename_i hf
      have h2 := findSign_lt hf
      have h3 := skipTo_mono s b
      have e : signAt s (skipTo s b) level = skipTo s b + (sg (findSign s (skipTo s b) level)).size := rfl
      have h4 := h (level + 1) (signAt s (skipTo s b) level) d (by omega) (by omega) (by omega) (by omega)
      rw [← h4]
      split
      · rfl
      · rename_i r a2 hr2
        have h5 := hr _ _ _ _ _ hr2
        exact ih _ _ (by omega) (h5.2 (by omega))
theorem fuelP (s : ByteArray) (f : Nat) : ∀ (f' : Nat) (lev : Int) (a d : Nat), a ≤ s.size → 1 ≤ lev → lev ≤ 6 → ((7 * (s.size - a) + 7 : Nat) : Int) ≤ f + lev → ((7 * (s.size - a) + 7 : Nat) : Int) ≤ f' + lev → sumP s f lev a d = sumP s f' lev a d := by
  induction f with
  | zero => intro f' lev a d ha h1 h6 hf hf'; omega
  | succ f ih =>
    intro f' lev a d ha h1 h6 hf hf'
    match f', hf' with
    | 0, hf' => omega
    | f' + 1, hf' =>
      have hag : AgreeP s a (sumP s f) (sumP s f') := fun lv b dd hb hs l1 l6 => ih f' lv b dd hs l1 l6 (by omega) (by omega)
      unfold sumP
      split
      · exact agreeP_unary hag d
      · rw [ih f' (lev + 1) a d ha (by omega) (by omega) (by omega) (by omega)]
        split
        · rfl
        · rename_i l2 a2 h2
          have h3 := advP_sum s f' _ _ _ _ _ h2
          exact agreeP_loop hag (advP_sum s f) lev ⟨h1, by omega⟩ d _ _ _ h3.1 (h3.2 ha)
/-- reading a sum of a level, by as much fuel as it may want -/
def PP (s : ByteArray) (lev : Int) (a d : Nat) : PR := sumP s (7 * (s.size - a) + 7) lev a d
theorem sumP_PP (s : ByteArray) {f : Nat} {lev : Int} {a d : Nat} (ha : a ≤ s.size) (h1 : 1 ≤ lev) (h6 : lev ≤ 6) (hf : ((7 * (s.size - a) + 7 : Nat) : Int) ≤ f + lev) : sumP s f lev a d = PP s lev a d :=
  fuelP s f _ lev a d ha h1 h6 hf (by omega)
theorem advPP (s : ByteArray) : AdvP s (PP s) := fun lev a d l a' h => advP_sum s _ lev a d l a' h
theorem PP_high (s : ByteArray) {a d : Nat} (ha : a ≤ s.size) : PP s 6 a d = unaryP (PP s) s a d := by
  unfold PP
  show sumP s (7 * (s.size - a) + 6 + 1) 6 a d = _
  unfold sumP
  rw [if_pos (by decide)]
  exact agreeP_unary (fun lv b dd hb hs l1 l6 => sumP_PP s hs l1 l6 (by omega)) d
theorem PP_low (s : ByteArray) {lev : Int} {a d : Nat} (ha : a ≤ s.size) (h1 : 1 ≤ lev) (h5 : lev ≤ 5) : PP s lev a d = match PP s (lev + 1) a d with | none => none | some (l, a') => loopP (PP s) s lev d (s.size + 1) l a' := by
  show sumP s (7 * (s.size - a) + 6 + 1) lev a d = _
  unfold sumP
  rw [if_neg (by omega), sumP_PP s ha (show 1 ≤ lev + 1 by omega) (by omega) (by omega)]
  cases hP : PP s (lev + 1) a d with
  | none => rfl
  | some p =>
    obtain ⟨l2, a2⟩ := p
    have h3 := advPP s _ _ _ _ _ hP
    simp only
    exact agreeP_loop (r1 := sumP s (7 * (s.size - a) + 6)) (fun lv b dd hb hs l1 l6 => sumP_PP s hs l1 l6 (by omega)) (advP_sum s _) lev ⟨h1, h5⟩ d _ _ _ h3.1 (h3.2 ha)
/-- the loop's fuel does not matter -/
theorem fuelLoop (s : ByteArray) (lev : Int) (h1 : 1 ≤ lev ∧ lev ≤ 5) (d : Nat) (n : Nat) : ∀ (m : Nat) (l : List Nd) (a : Nat), a ≤ s.size → s.size - a < n → s.size - a < m → loopP (PP s) s lev d n l a = loopP (PP s) s lev d m l a := by
  induction n with
  | zero => intro m l a ha hn hm; omega
  | succ n ih =>
    intro m l a ha hn hm
    match m, hm with
    | 0, hm => omega
    | m + 1, hm =>
      unfold loopP
      split
      · rfl
      · rename_i hf
        have h2 := findSign_lt hf
        have h3 := skipTo_mono s a
        have e : signAt s (skipTo s a) lev = skipTo s a + (sg (findSign s (skipTo s a) lev)).size := rfl
        split
        · rfl
        · rename_i r a2 hr
          have h4 := advPP s _ _ _ _ _ hr
          exact ih m _ _ (h4.2 (by omega)) (by omega) (by omega)
end Go.Proofs.YtchemhjcknkbgaaGreatDoor

/- Climbing: its fuel; signs ahead; a single part. Plain. -/
namespace Go.Proofs.YtchemhjcknkbgaaGreatDoor
open Go Go.PlainAid
set_option linter.unusedSimpArgs false
set_option linter.unusedVariables false

theorem figF_le (s : ByteArray) (f : Nat) : ∀ a, a ≤ figF s f a ∧ (a ≤ s.size → figF s f a ≤ s.size) := by
  induction f with
  | zero => intro a; exact ⟨Nat.le_refl _, id⟩
  | succ f ih =>
    intro a
    unfold figF
    split
    · rename_i h; have := ih (a + 1); exact ⟨by omega, fun _ => this.2 (by omega)⟩
    · exact ⟨Nat.le_refl _, id⟩
def AdvC (s : ByteArray) (rec : Int → Nat → Nat → CR) : Prop := ∀ lev a d t a', rec lev a d = some (t, a') → a ≤ a' ∧ (a ≤ s.size → a' ≤ s.size)
theorem advC_single {s : ByteArray} {rec : Int → Nat → Nat → CR} (hr : AdvC s rec) {a d : Nat} {t : Tree} {a' : Nat} (h : singleC rec s a d = some (t, a')) : a ≤ a' ∧ (a ≤ s.size → a' ≤ s.size) := by
  unfold singleC at h
  split at h
  · cases h
  · split at h
    · rename_i hh
      split at h
      · cases h
      · split at h
        · cases h
        · rename_i t2 a2 hr2
          have h3 := hr _ _ _ _ _ hr2
          split at h
          · rename_i hp
            cases h
            have h4 := hasAt_lt hp
            have e : rpar.size = 1 := rfl
            exact ⟨by omega, fun _ => by omega⟩
          · cases h
    · split at h
      · unfold numberC at h
        split at h
        · cases h
        · cases h
          exact figF_le s _ a
      · split at h
        · cases h
          exact wordF_le s _ a
        · cases h
theorem advC_ahead {s : ByteArray} {rec : Int → Nat → Nat → CR} (hr : AdvC s rec) (d n : Nat) : ∀ {a : Nat} {t : Tree} {a' : Nat}, aheadC rec s d n a = some (t, a') → a ≤ a' ∧ (a ≤ s.size → a' ≤ s.size) := by
  induction n with
  | zero => intro a t a' h; cases h
  | succ n ih =>
    intro a t a' h
    have h1 := skipTo_mono s a
    unfold aheadC at h
    split at h
    · rename_i hb
      have h2 := bt_lt hb (by decide)
      split at h
      · cases h
      · rename_i t2 a2 h3
        cases h
        have := ih h3
        exact ⟨by omega, fun _ => this.2 (by omega)⟩
    · split at h
      · rename_i hb
        have h2 := bt_lt hb (by decide)
        split at h
        · cases h
        · rename_i t2 a2 h3
          cases h
          have := ih h3
          exact ⟨by omega, fun _ => this.2 (by omega)⟩
      · have := advC_single hr h
        exact ⟨by omega, fun ha => this.2 (skipTo_le ha).2⟩
theorem advC_loop {s : ByteArray} {rec : Int → Nat → Nat → CR} (hr : AdvC s rec) (least : Int) (d n : Nat) : ∀ {t : Tree} {a : Nat} {t' : Tree} {a' : Nat}, loopC rec s least d n t a = some (t', a') → a ≤ a' ∧ (a ≤ s.size → a' ≤ s.size) := by
  induction n with
  | zero => intro t a t' a' h; cases h
  | succ n ih =>
    intro t a t' a' h
    have h1 := skipTo_mono s a
    unfold loopC at h
    split at h
    · cases h; exact ⟨h1, fun ha => (skipTo_le ha).2⟩
    · rename_i hk
      have hk0 : pairAt s (skipTo s a) ≠ 0 := fun e => hk (.inl e)
      have h2 := pair_lt hk0
      split at h
      · cases h
      · rename_i r a2 h3
        have h4 := hr _ _ _ _ _ h3
        have h5 := ih h
        exact ⟨by omega, fun ha => h5.2 (h4.2 (by omega))⟩
theorem advC_climb (s : ByteArray) (f : Nat) : AdvC s (climbF s f) := by
  induction f with
  | zero => intro lev a d t a' h; cases h
  | succ f ih =>
    intro lev a d t a' h
    unfold climbF at h
    split at h
    · cases h
    · rename_i t2 a2 h2
      have h3 := advC_ahead ih _ _ h2
      have h4 := advC_loop ih _ _ _ h
      exact ⟨by omega, fun ha => h4.2 (h3.2 ha)⟩

def AgreeC (s : ByteArray) (a : Nat) (r1 r2 : Int → Nat → Nat → CR) : Prop := ∀ lev b d, a < b → b ≤ s.size → r1 lev b d = r2 lev b d
theorem agreeC_single {s : ByteArray} {a : Nat} {r1 r2 : Int → Nat → Nat → CR} (h : AgreeC s a r1 r2) (d : Nat) {a1 : Nat} (ha : a ≤ a1) : singleC r1 s a1 d = singleC r2 s a1 d := by
  unfold singleC
  split
  · rfl
  · split
    · rw [h 1 (a1 + 1) (d + 1) (by omega) (by omega)]
    · rfl
theorem agreeC_ahead {s : ByteArray} {a : Nat} {r1 r2 : Int → Nat → Nat → CR} (h : AgreeC s a r1 r2) (d n : Nat) : ∀ {a1 : Nat}, a ≤ a1 → aheadC r1 s d n a1 = aheadC r2 s d n a1 := by
  induction n with
  | zero => intro a1 _; rfl
  | succ n ih =>
    intro a1 ha
    have h1 := skipTo_mono s a1
    unfold aheadC
    rw [ih (show a ≤ skipTo s a1 + 1 by omega), agreeC_single h d (show a ≤ skipTo s a1 by omega)]
theorem agreeC_loop {s : ByteArray} {a : Nat} {r1 r2 : Int → Nat → Nat → CR} (h : AgreeC s a r1 r2) (hr : AdvC s r1) (least : Int) (d n : Nat) : ∀ (t : Tree) (b : Nat), a ≤ b → loopC r1 s least d n t b = loopC r2 s least d n t b := by
  induction n with
  | zero => intro t b _; rfl
  | succ n ih =>
    intro t b hb
    have h1 := skipTo_mono s b
    unfold loopC
    split
    · rfl
    · rename_i hk
      have hk0 : pairAt s (skipTo s b) ≠ 0 := fun e => hk (.inl e)
      have h2 := pair_lt hk0
      rw [← h (lvl (pairAt s (skipTo s b)) + 1) (skipTo s b + (sg (pairAt s (skipTo s b))).size) d (by omega) (by omega)]
      split
      · rfl
      · rename_i r a2 hr2
        have h5 := hr _ _ _ _ _ hr2
        exact ih _ _ (by omega)
theorem fuelC (s : ByteArray) (f : Nat) : ∀ (f' : Nat) (lev : Int) (a d : Nat), s.size - a < f → s.size - a < f' → climbF s f lev a d = climbF s f' lev a d := by
  induction f with
  | zero => intro f' lev a d hf; omega
  | succ f ih =>
    intro f' lev a d hf hf'
    match f', hf' with
    | 0, hf' => omega
    | f' + 1, hf' =>
      have hag : AgreeC s a (climbF s f) (climbF s f') := fun lv b dd hb hs => ih f' lv b dd (by omega) (by omega)
      unfold climbF
      rw [agreeC_ahead hag d _ (Nat.le_refl a)]
      split
      · rfl
      · rename_i t2 a2 h2
        have h3 := advC_ahead (advC_climb s f') _ _ h2
        exact agreeC_loop hag (advC_climb s f) lev d _ _ _ h3.1
/-- climbing, by as much fuel as it may want -/
def CC (s : ByteArray) (least : Int) (a d : Nat) : CR := climbF s (s.size - a + 1) least a d
theorem advCC (s : ByteArray) : AdvC s (CC s) := fun lev a d t a' h => advC_climb s _ lev a d t a' h
theorem CC_eq (s : ByteArray) (least : Int) (a d : Nat) : CC s least a d = match aheadC (CC s) s d (s.size - a + 1) a with | none => none | some (t, a') => loopC (CC s) s least d (s.size - a' + 1) t a' := by
  have hag : AgreeC s a (climbF s (s.size - a)) (CC s) := fun lv b dd hb hs => fuelC s _ _ lv b dd (by omega) (by omega)
  show climbF s (s.size - a + 1) least a d = _
  unfold climbF
  rw [agreeC_ahead hag d _ (Nat.le_refl a)]
  cases hP : aheadC (CC s) s d (s.size - a + 1) a with
  | none => rfl
  | some p =>
    obtain ⟨t2, a2⟩ := p
    have h3 := advC_ahead (advCC s) _ _ hP
    simp only
    exact agreeC_loop hag (advC_climb s _) least d _ _ _ h3.1
theorem fuelLoopC (s : ByteArray) (least : Int) (d n : Nat) : ∀ (m : Nat) (t : Tree) (a : Nat), s.size - a < n → s.size - a < m → loopC (CC s) s least d n t a = loopC (CC s) s least d m t a := by
  induction n with
  | zero => intro m t a hn hm; omega
  | succ n ih =>
    intro m t a hn hm
    match m, hm with
    | 0, hm => omega
    | m + 1, hm =>
      have h1 := skipTo_mono s a
      unfold loopC
      split
      · rfl
      · rename_i hk
        have hk0 : pairAt s (skipTo s a) ≠ 0 := fun e => hk (.inl e)
        have h2 := pair_lt hk0
        split
        · rfl
        · rename_i r a2 hr
          have h4 := advCC s _ _ _ _ _ hr
          exact ih m _ _ (by omega) (by omega)
/-- the loop looks only at what follows blanks -/
theorem loopC_skip (s : ByteArray) (least : Int) (d : Nat) (t : Tree) {a b : Nat} (h : skipTo s a = skipTo s b) : loopC (CC s) s least d (s.size - a + 1) t a = loopC (CC s) s least d (s.size - b + 1) t b := by
  rw [fuelLoopC s least d (s.size - a + 1) (s.size + 1) t a (by omega) (by omega), fuelLoopC s least d (s.size - b + 1) (s.size + 1) t b (by omega) (by omega)]
  unfold loopC
  rw [h]

/-! ### what comes out, but for what cannot go on -/
def settle (s : ByteArray) : PR → PR
  | none => none
  | some (l, a) => if alnB (bt s (skipTo s a)) then none else some (l, skipTo s a)
def asP : CR → PR
  | none => none
  | some (t, a) => some (t.nodes, a)
def appP (e : List Nd) : PR → PR
  | none => none
  | some (l, a) => some (l ++ e, a)
theorem settle_app {s : ByteArray} {x y : PR} (e : List Nd) (h : settle s x = settle s y) : settle s (appP e x) = settle s (appP e y) := by
  cases x with
  | none =>
    cases y with
    | none => rfl
    | some q =>
      obtain ⟨l, a⟩ := q
      simp only [settle, appP] at h ⊢
      split at h
      · rename_i hh; rw [if_pos hh]
      · cases h
  | some p =>
    obtain ⟨l, a⟩ := p
    cases y with
    | none =>
      simp only [settle, appP] at h ⊢
      split at h
      · rename_i hh; rw [if_pos hh]
      · cases h
    | some q =>
      obtain ⟨l2, a2⟩ := q
      simp only [settle, appP] at h ⊢
      split at h
      · rename_i hh
        split at h
        · rename_i h2; rw [if_pos hh, if_pos h2]
        · cases h
      · rename_i hh
        split at h
        · cases h
        · rename_i h2
          simp only [Option.some.injEq, Prod.mk.injEq] at h
          rw [if_neg hh, if_neg h2, h.1, h.2]

def wrapT : List Int → Tree → Tree
  | [], t => t
  | k :: r, t => .ahead k (wrapT r t)
theorem wrapT_nodes (ks : List Int) (t : Tree) : (wrapT ks t).nodes = t.nodes ++ ks.reverse.map sgn := by
  induction ks with
  | nil => simp [wrapT]
  | cons k r ih => simp [wrapT, Tree.nodes, ih]
theorem ahead_is (rec : Int → Nat → Nat → CR) (s : ByteArray) (d f : Nat) : ∀ a, s.size - a < f → aheadC rec s d f a = match singleC rec s (aheadF s f a).2 d with | none => none | some (t, a') => some (wrapT (aheadF s f a).1 t, a') := by
  induction f with
  | zero => intro a h; omega
  | succ f ih =>
    intro a h
    have h1 := skipTo_mono s a
    unfold aheadC aheadF
    split
    · rename_i hb
      have h2 := bt_lt hb (by decide)
      rw [ih _ (by omega)]
      simp only
      cases singleC rec s (aheadF s f (skipTo s a + 1)).2 d with
      | none => rfl
      | some p => rfl
    · split
      · rename_i hb
        have h2 := bt_lt hb (by decide)
        rw [ih _ (by omega)]
        simp only
        cases singleC rec s (aheadF s f (skipTo s a + 1)).2 d with
        | none => rfl
        | some p => rfl
      · simp only
        cases singleC rec s (skipTo s a) d with
        | none => rfl
        | some p => rfl
theorem aheadF_skip (s : ByteArray) (f : Nat) : ∀ a, s.size - a < f → skipTo s (aheadF s f a).2 = (aheadF s f a).2 := by
  induction f with
  | zero => intro a h; omega
  | succ f ih =>
    intro a h
    have h1 := skipTo_mono s a
    unfold aheadF
    split
    · rename_i hb
      have h2 := bt_lt hb (by decide)
      exact ih _ (by omega)
    · split
      · rename_i hb
        have h2 := bt_lt hb (by decide)
        exact ih _ (by omega)
      · exact skipTo_idem s a
end Go.Proofs.YtchemhjcknkbgaaGreatDoor

/- Climbing reads what reading level by level does: a single part, signs ahead, loops, all. Plain. -/
namespace Go.Proofs.YtchemhjcknkbgaaGreatDoor
open Go Go.PlainAid
set_option linter.unusedSimpArgs false
set_option linter.unusedVariables false

/-- both read the same at all places behind a -/
def Same (s : ByteArray) (a : Nat) : Prop := ∀ lev b d, a < b → b ≤ s.size → 1 ≤ lev → lev ≤ 6 → d ≤ 6 → settle s (PP s lev b d) = settle s (asP (CC s lev b d))

theorem loopC_end {s : ByteArray} {least : Int} {d n : Nat} : ∀ {t : Tree} {a : Nat} {t' : Tree} {a' : Nat}, loopC (CC s) s least d n t a = some (t', a') → skipTo s a' = a' := by
  induction n with
  | zero => intro t a t' a' h; cases h
  | succ n ih =>
    intro t a t' a' h
    unfold loopC at h
    split at h
    · cases h; exact skipTo_idem s a
    · split at h
      · cases h
      · exact ih h
theorem CC_end {s : ByteArray} {least : Int} {a d : Nat} {t : Tree} {a' : Nat} (h : CC s least a d = some (t, a')) : skipTo s a' = a' := by
  rw [CC_eq] at h
  split at h
  · cases h
  · exact loopC_end h
theorem aln_figure {n : Int} (h : figB n = true) : alnB n = true := by unfold alnB; simp [h]
theorem aln_no {n : Int} (h : alnB n = true) : n ≠ 32 ∧ n ≠ 40 ∧ n ≠ 41 ∧ n ≠ 0 := by
  unfold alnB letB figB at h
  simp at h
  omega
/-- figures are the head of a word -/
theorem fig_word (s : ByteArray) (f : Nat) : ∀ a, s.size - a ≤ f → figF s f a ≤ wordF s f a ∧ (∀ j, a ≤ j → j < figF s f a → figB (bt s j) = true) ∧ (figF s f a < wordF s f a → figB (bt s (figF s f a)) = false ∧ alnB (bt s (figF s f a)) = true) := by
  induction f with
  | zero => intro a _; exact ⟨Nat.le_refl _, fun j h1 h2 => by simp [figF] at h2; omega, fun h => by simp [figF, wordF] at h⟩
  | succ f ih =>
    intro a ha
    unfold figF wordF
    by_cases h : a < s.size ∧ figB (bt s a) = true
    · rw [if_pos h, if_pos ⟨h.1, aln_figure h.2⟩]
      obtain ⟨i1, i2, i3⟩ := ih (a + 1) (by omega)
      refine ⟨i1, fun j h1 h2 => ?_, i3⟩
      by_cases e : j = a
      · subst e; exact h.2
      · exact i2 j (by omega) h2
    · rw [if_neg h]
      refine ⟨?_, fun j h1 h2 => by omega, fun h2 => ?_⟩
      · split
        · have := (wordF_le s f (a + 1)).1; omega
        · omega
      · by_cases e : a < s.size ∧ alnB (bt s a) = true
        · refine ⟨?_, e.2⟩
          cases hf : figB (bt s a) with
          | false => rfl
          | true => exact absurd ⟨e.1, hf⟩ h
        · rw [if_neg e] at h2; omega
theorem figTo_all {w : ByteArray} : ∀ n, (∀ j, j < n → figB (bt w j) = true) → figTo w n = true := by
  intro n
  induction n with
  | zero => intro _; rfl
  | succ n ih => intro h; simp [figTo, ih (fun j hj => h j (by omega)), h n (by omega)]
theorem same_prim {s : ByteArray} {a : Nat} (hS : Same s a) {d : Nat} (hd : d ≤ 6) {a1 : Nat} (ha : a ≤ a1) (hs : a1 ≤ s.size) : settle s (primP (PP s) s a1 d) = settle s (asP (singleC (CC s) s (skipTo s a1) d)) := by
  have h1 := skipTo_le hs
  unfold primP singleC
  generalize skipTo s a1 = b at h1
  by_cases hb : s.size ≤ b
  · have hb0 : bt s b = 0 := bt_end s hb
    rw [if_pos hb, if_neg (by rw [lpar_at, hb0]; decide), if_neg (by rw [hb0]; decide)]
    have hw : wordTo s b = b := wordTo_stop (by omega)
    rw [hw]
    have he : nmB (s.extract b b) = false := by
      have : (s.extract b b).size = 0 := by rw [ByteArray.size_extract]; omega
      unfold nmB; rw [this]; rfl
    rw [he]; rfl
  rw [if_neg hb]
  by_cases h40 : bt s b = 40
  · rw [if_pos (by rw [lpar_at, h40]; decide), if_pos h40]
    by_cases h6 : d = 6
    · rw [if_pos (by omega), if_pos h6]; rfl
    rw [if_neg (by omega), if_neg h6]
    have h2 := hS 1 (b + 1) (d + 1) (by omega) (by omega) (by omega) (by omega) (by omega)
    cases hP : PP s 1 (b + 1) (d + 1) with
    | none =>
      cases hC : CC s 1 (b + 1) (d + 1) with
      | none => rfl
      | some q =>
        obtain ⟨t, a2⟩ := q
        rw [hP, hC] at h2
        simp only [settle, asP] at h2
        have h3 := CC_end hC
        rw [h3] at h2
        split at h2
        · rename_i hh
          have := aln_no hh
          simp only
          rw [if_neg (by rw [rpar_at]; simp; omega)]; rfl
        · cases h2
    | some p =>
      obtain ⟨l, a2⟩ := p
      simp only
      cases hC : CC s 1 (b + 1) (d + 1) with
      | none =>
        rw [hP, hC] at h2
        simp only [settle, asP] at h2
        split at h2
        · rename_i hh
          have := aln_no hh
          rw [if_neg (by rw [rpar_at]; simp; omega)]; rfl
        · cases h2
      | some q =>
        obtain ⟨t, a3⟩ := q
        rw [hP, hC] at h2
        simp only [settle, asP] at h2
        have h3 := CC_end hC
        rw [h3] at h2
        simp only
        split at h2
        · rename_i hh
          have := aln_no hh
          rw [if_neg (by rw [rpar_at]; simp; omega)]
          split at h2
          · rename_i hh2
            have := aln_no hh2
            rw [if_neg (by rw [rpar_at]; simp; omega)]; rfl
          · cases h2
        · split at h2
          · cases h2
          · simp only [Option.some.injEq, Prod.mk.injEq] at h2
            rw [h2.2]
            by_cases hp : hasAt s a3 rpar = true
            · rw [if_pos hp, if_pos hp]
              have : takeAt s a3 rpar = a3 + 1 := by unfold takeAt; rw [if_pos hp]; rfl
              rw [this, h2.1]; rfl
            · rw [if_neg hp, if_neg hp]; rfl
  rw [if_neg (by rw [lpar_at]; simp [h40]), if_neg h40]
  by_cases hf : figB (bt s b) = true
  · rw [if_pos hf, if_pos hf]
    obtain ⟨f1, f2, f3⟩ := fig_word s (s.size - b) b (Nat.le_refl _)
    have f4 := figF_le s (s.size - b) b
    have f5 := wordF_le s (s.size - b) b
    have e1 : figF s (s.size - b) b = figEnd s b := rfl
    have e2 : wordF s (s.size - b) b = wordTo s b := rfl
    rw [e1] at f1 f2 f3 f4
    rw [e2] at f1 f3 f5
    have hpos : b < figEnd s b := by
      rcases Nat.lt_or_ge b (figEnd s b) with h | h
      · exact h
      · have : figEnd s b = b := by omega
        rw [this] at f3
        by_cases e : b < wordTo s b
        · have := (f3 e).1; rw [hf] at this; cases this
        · have h2 : wordTo s b = wordTo s (b + 1) := wordTo_step (by omega) (aln_figure hf)
          have h3 := (wordF_le s (s.size - (b + 1)) (b + 1)).1
          have e3 : wordF s (s.size - (b + 1)) (b + 1) = wordTo s (b + 1) := rfl
          omega
    by_cases hlt : figEnd s b < wordTo s b
    · obtain ⟨g1, g2⟩ := f3 hlt
      have hno : numOf (s.extract b (wordTo s b)) = -1 := by
        unfold numOf
        rw [if_neg]
        unfold numOk
        have hsz : (s.extract b (wordTo s b)).size = wordTo s b - b := by rw [ByteArray.size_extract]; have := f5.2 h1.2; omega
        rw [figTo_no (k := figEnd s b - b) _ (by rw [hsz]; omega) (by
          rw [bt_extract s (f5.2 h1.2) (by omega), show b + (figEnd s b - b) = figEnd s b from by omega]; exact g1)]
        simp
      rw [hno, if_pos (by decide)]
      unfold numberC
      split
      · rfl
      · simp only [asP, settle]
        have hns := (aln_no g2).1
        rw [skipTo_stop (fun hh => hns hh.2), if_pos g2]
    · have heq : figEnd s b = wordTo s b := by omega
      have hsz : (s.extract b (wordTo s b)).size = wordTo s b - b := by rw [ByteArray.size_extract]; have := f5.2 h1.2; omega
      have hfig : figTo (s.extract b (wordTo s b)) (wordTo s b - b) = true := figTo_all _ (fun j hj => by
        rw [bt_extract s (f5.2 h1.2) (by omega)]; exact f2 _ (by omega) (by omega))
      have hb0 : bt (s.extract b (wordTo s b)) 0 = bt s b := by rw [bt_extract s (f5.2 h1.2) (by omega)]; rfl
      unfold numberC
      rw [heq]
      by_cases hc : 6 < wordTo s b - b ∨ (1 < wordTo s b - b ∧ bt s b = 48)
      · rw [if_pos hc]
        have hno : numOf (s.extract b (wordTo s b)) = -1 := by
          unfold numOf; rw [if_neg]
          unfold numOk; rw [hsz, hb0]; simp; omega
        rw [hno, if_pos (by decide)]; rfl
      · rw [if_neg hc]
        have hok : numOk (s.extract b (wordTo s b)) = true := by
          unfold numOk; rw [hsz, hb0, hfig]; simp; omega
        have hval : numOf (s.extract b (wordTo s b)) = numTo (s.extract b (wordTo s b)) (wordTo s b - b) := by
          unfold numOf; rw [if_pos hok, hsz]
        have hnn := (numTo_le hfig (by omega)).1
        rw [hval, if_neg (by omega)]; rfl
  · rw [if_neg hf, if_neg hf]
    by_cases hn : nmB (s.extract b (wordTo s b)) = true
    · rw [if_pos hn, if_pos hn]; rfl
    · rw [if_neg hn, if_neg hn]; rfl
theorem unary_app (rec : Int → Nat → Nat → PR) (s : ByteArray) (a d : Nat) : unaryP rec s a d = appP ((aheadF s (s.size - a + 1) a).1.reverse.map sgn) (primP rec s (aheadF s (s.size - a + 1) a).2 d) := by
  unfold unaryP
  have e : aheadTo s a = aheadF s (s.size - a + 1) a := rfl
  rw [e]
  cases primP rec s (aheadF s (s.size - a + 1) a).2 d <;> rfl
theorem same_unary {s : ByteArray} {a : Nat} (hS : Same s a) {d : Nat} (hd : d ≤ 6) (ha : a ≤ s.size) : settle s (unaryP (PP s) s a d) = settle s (asP (aheadC (CC s) s d (s.size - a + 1) a)) := by
  have h4 := aheadF_le s (s.size - a + 1) a
  have h5 := aheadF_skip s (s.size - a + 1) a (by omega)
  have h6 := same_prim hS hd h4.1 (h4.2 ha)
  rw [h5] at h6
  rw [ahead_is _ _ _ _ _ (by omega), unary_app, settle_app ((aheadF s (s.size - a + 1) a).1.reverse.map sgn) h6]
  cases singleC (CC s) s (aheadF s (s.size - a + 1) a).2 d with
  | none => rfl
  | some p => obtain ⟨t, a'⟩ := p; simp only [asP, appP, wrapT_nodes]

/-! ### levels, one behind the other -/
/-- what the loops of the levels 5 .. 6 - j read behind nodes -/
def seqP (s : ByteArray) (d : Nat) : Nat → List Nd → Nat → PR
  | 0, l, a => some (l, a)
  | j + 1, l, a => match seqP s d j l a with
    | none => none
    | some (l', a') => loopP (PP s) s (5 - j) d (s.size + 1) l' a'
theorem adv_seq (s : ByteArray) (d j : Nat) : ∀ {l : List Nd} {a : Nat} {l' : List Nd} {a' : Nat}, seqP s d j l a = some (l', a') → a ≤ a' ∧ (a ≤ s.size → a' ≤ s.size) := by
  induction j with
  | zero => intro l a l' a' h; cases h; exact ⟨Nat.le_refl _, id⟩
  | succ j ih =>
    intro l a l' a' h
    unfold seqP at h
    split at h
    · cases h
    · rename_i l2 a2 h2
      have h3 := ih h2
      have h4 := advP_loop (advPP s) _ _ _ h
      exact ⟨by omega, fun ha => h4.2 (h3.2 ha)⟩
theorem PP_seq (s : ByteArray) {a d : Nat} (ha : a ≤ s.size) (j : Nat) (hj : j ≤ 5) : PP s (6 - j) a d = match PP s 6 a d with | none => none | some (l, a') => seqP s d j l a' := by
  induction j with
  | zero =>
    show PP s (6 - (0 : Nat)) a d = _
    have e : (6 - ((0 : Nat) : Int)) = 6 := by decide
    rw [e]
    cases PP s 6 a d with
    | none => rfl
    | some p => rfl
  | succ j ih =>
    have e : (6 : Int) - ((j + 1 : Nat) : Int) = 5 - j := by omega
    rw [e, PP_low s ha (by omega) (by omega)]
    have e2 : (5 : Int) - j + 1 = 6 - j := by omega
    rw [e2, ih (by omega)]
    cases PP s 6 a d with
    | none => rfl
    | some p => rfl
/-- no sign stands there that binds so tightly -/
def Low (s : ByteArray) (a : Nat) (lev : Int) : Prop := pairAt s (skipTo s a) = 0 ∨ lvl (pairAt s (skipTo s a)) < lev
theorem low_skip {s : ByteArray} {a b : Nat} {lev : Int} (h : skipTo s a = skipTo s b) (hl : Low s a lev) : Low s b lev := by unfold Low at *; rw [← h]; exact hl
theorem low_find {s : ByteArray} {a : Nat} {lev : Int} (h : Low s a lev) : findSign s (skipTo s a) lev = 0 := by
  rw [findSign_pair, if_neg]
  rintro ⟨h1, h2⟩
  rcases h with h | h
  · exact h1 h
  · omega
theorem sign0 (s : ByteArray) {a : Nat} {lev : Int} (h : findSign s (skipTo s a) lev = 0) : signAt s (skipTo s a) lev = skipTo s a := by
  unfold signAt; rw [h]; rfl
theorem loop_low (s : ByteArray) (d : Nat) {lev : Int} {l : List Nd} {a : Nat} (h : Low s a lev) (n : Nat) : loopP (PP s) s lev d (n + 1) l a = some (l, skipTo s a) := by
  unfold loopP
  rw [if_pos (low_find h), sign0 s (low_find h)]
theorem seq_low (s : ByteArray) (d j : Nat) : ∀ {l : List Nd} {a : Nat}, Low s a (6 - j) → ∃ a', seqP s d j l a = some (l, a') ∧ skipTo s a' = skipTo s a := by
  induction j with
  | zero => intro l a _; exact ⟨a, rfl, rfl⟩
  | succ j ih =>
    intro l a h
    have h1 : Low s a (6 - j) := by
      rcases h with h | h
      · exact .inl h
      · exact .inr (by omega)
    obtain ⟨a', h2, h3⟩ := ih (l := l) h1
    have h4 : Low s a' (5 - j) := low_skip h3.symm (by
      rcases h with h | h
      · exact .inl h
      · exact .inr (by omega))
    refine ⟨skipTo s a', ?_, by rw [skipTo_idem, h3]⟩
    unfold seqP
    rw [h2]
    exact loop_low s d h4 _
theorem loop_skip (s : ByteArray) (d : Nat) {lev : Int} {l : List Nd} {a b : Nat} (h : skipTo s a = skipTo s b) (n : Nat) : loopP (PP s) s lev d (n + 1) l a = loopP (PP s) s lev d (n + 1) l b := by
  unfold loopP; rw [h]
theorem low_loop {s : ByteArray} {a0 : Nat} (hZ : ∀ lev b d l a', a0 < b → b ≤ s.size → 1 ≤ lev → lev ≤ 6 → PP s lev b d = some (l, a') → Low s a' lev) {lev : Int} (h1 : 1 ≤ lev) (h5 : lev ≤ 5) (d n : Nat) : ∀ {l : List Nd} {a : Nat} {l' : List Nd} {a' : Nat}, a0 ≤ a → a ≤ s.size → s.size - a < n → Low s a (lev + 1) → loopP (PP s) s lev d n l a = some (l', a') → Low s a' lev := by
  induction n with
  | zero => intro l a l' a' _ _ hn; omega
  | succ n ih =>
    intro l a l' a' ha hs hn hl h
    have h2 := skipTo_mono s a
    unfold loopP at h
    split at h
    · rename_i hf
      cases h
      rw [sign0 s hf]
      refine low_skip (a := a) (by rw [skipTo_idem]) ?_
      rw [findSign_pair] at hf
      rcases hl with hl | hl
      · exact .inl hl
      · by_cases hp : pairAt s (skipTo s a) = 0
        · exact .inl hp
        · right
          by_cases hq : lvl (pairAt s (skipTo s a)) = lev
          · rw [if_pos ⟨hp, hq⟩] at hf; exact absurd hf hp
          · omega
    · rename_i hf
      have h3 := findSign_lt hf
      have e : signAt s (skipTo s a) lev = skipTo s a + (sg (findSign s (skipTo s a) lev)).size := rfl
      split at h
      · cases h
      · rename_i r a2 hr
        have h4 := advPP s _ _ _ _ _ hr
        exact ih (by omega) (h4.2 (by omega)) (by omega) (hZ _ _ _ _ _ (by omega) (by omega) (by omega) (by omega) hr) h
theorem low_end (s : ByteArray) : ∀ (n a : Nat), a ≤ s.size → s.size - a ≤ n → ∀ (lev : Int) (d : Nat) (l : List Nd) (a' : Nat), 1 ≤ lev → lev ≤ 6 → PP s lev a d = some (l, a') → Low s a' lev := by
  intro n
  induction n with
  | zero =>
    intro a ha hn
    have hZ : ∀ lev b d l a', a < b → b ≤ s.size → (1 : Int) ≤ lev → lev ≤ 6 → PP s lev b d = some (l, a') → Low s a' lev := fun lev b d l a' h1 h2 => by omega
    have main : ∀ (j : Nat), j ≤ 5 → ∀ (d : Nat) (l : List Nd) (a' : Nat), PP s (6 - j) a d = some (l, a') → Low s a' (6 - j) := by
      intro j
      induction j with
      | zero => intro _ d l a' _; exact .inr (by have := lvl_range (pairAt s (skipTo s a')); omega)
      | succ j ih =>
        intro hj d l a' h
        have e : (6 : Int) - ((j + 1 : Nat) : Int) = 5 - j := by omega
        rw [e, PP_low s ha (by omega) (by omega), show (5 : Int) - j + 1 = 6 - j from by omega] at h
        rw [e]
        split at h
        · cases h
        · rename_i l2 a2 h2
          have h3 := advPP s _ _ _ _ _ h2
          exact low_loop hZ (by omega) (by omega) d _ h3.1 (h3.2 ha) (by omega) (by rw [show (5 : Int) - j + 1 = 6 - j from by omega]; exact ih (by omega) d l2 a2 h2) h
    intro lev d l a' h1 h6 h
    have := main (6 - lev).toNat (by omega) d l a' (by rw [show (6 : Int) - ((6 - lev).toNat : Int) = lev from by omega]; exact h)
    rw [show (6 : Int) - ((6 - lev).toNat : Int) = lev from by omega] at this
    exact this
  | succ n ihn =>
    intro a ha hn
    have hZ : ∀ lev b d l a', a < b → b ≤ s.size → (1 : Int) ≤ lev → lev ≤ 6 → PP s lev b d = some (l, a') → Low s a' lev := fun lev b d l a' h1 h2 h3 h4 h5 => ihn b h2 (by omega) lev d l a' h3 h4 h5
    have main : ∀ (j : Nat), j ≤ 5 → ∀ (d : Nat) (l : List Nd) (a' : Nat), PP s (6 - j) a d = some (l, a') → Low s a' (6 - j) := by
      intro j
      induction j with
      | zero => intro _ d l a' _; exact .inr (by have := lvl_range (pairAt s (skipTo s a')); omega)
      | succ j ih =>
        intro hj d l a' h
        have e : (6 : Int) - ((j + 1 : Nat) : Int) = 5 - j := by omega
        rw [e, PP_low s ha (by omega) (by omega), show (5 : Int) - j + 1 = 6 - j from by omega] at h
        rw [e]
        split at h
        · cases h
        · rename_i l2 a2 h2
          have h3 := advPP s _ _ _ _ _ h2
          exact low_loop hZ (by omega) (by omega) d _ h3.1 (h3.2 ha) (by omega) (by rw [show (5 : Int) - j + 1 = 6 - j from by omega]; exact ih (by omega) d l2 a2 h2) h
    intro lev d l a' h1 h6 h
    have := main (6 - lev).toNat (by omega) d l a' (by rw [show (6 : Int) - ((6 - lev).toNat : Int) = lev from by omega]; exact h)
    rw [show (6 : Int) - ((6 - lev).toNat : Int) = lev from by omega] at this
    exact this
end Go.Proofs.YtchemhjcknkbgaaGreatDoor

/- slices.Equal at nodes. -/
namespace Go.Proofs.YtchemhjcknkbgaaGreatDoor
open Go.RowKit Go.PlainAid
set_option linter.unusedSimpArgs false
set_option linter.unusedVariables false

set_option maxHeartbeats 800000 in
set_option maxRecDepth 100000 in
theorem eqNds_any (B : Nat) (a a' : Option Addr) (n n' cap cap' : Nat) (l l' : List Nd) (w : World) (hn : n ≤ 1048576) (hn' : n' ≤ 1048576) (hz : IsNds B w a n l) (hz' : IsNds B w a' n' l') :
    Calls Tryz.prog 237 #[.slice a n cap, .slice a' n' cap'] w fun e w' => e = .returned (.bool (decide (l = l'))) ∧ Below w.heap.size w w' := by
  obtain ⟨hlen, hcells⟩ := hz
  obtain ⟨hlen', hcells'⟩ := hz'
  obtain ⟨D, hD⟩ : ∃ D, decide (l = l') = D := ⟨_, rfl⟩
  have HD : Hid (decide (l = l') = D) := hD
  rw [hD]; clear hD
  by_cases hnn : n = n'
  · subst hnn
    go_enter Tryz.func237, Tryz.ntmps237
    go_wp2_with fail
    go_loopw [13] (fun i wr => ∃ k : Nat, k ≤ n ∧ i = .int .i64 k ∧ Hid (l.take k = l'.take k) ∧ Below w.heap.size w wr) (fun i _ => n - (intOf i).toNat)
    case atStart => exact ⟨0, Nat.zero_le _, rfl, by show _ = _; simp, Below.refl _ _⟩
    case round =>
      obtain ⟨k, hk, rfl, hdone, hbel⟩ := hrel
      by_cases hlt : k < n
      · rcases hcells with h0 | ⟨b, off, rfl, hb, hc⟩
        · omega
        rcases hcells' with h0 | ⟨b', off', rfl, hb', hc'⟩
        · omega
        have hkl : k < l.length := by omega
        have hkl' : k < l'.length := by omega
        obtain ⟨x0, x1, x2, hx⟩ : ∃ x0 x1 x2, l[k] = (x0, x1, x2) := ⟨_, _, _, rfl⟩
        obtain ⟨y0, y1, y2, hy⟩ : ∃ y0 y1 y2, l'[k] = (y0, y1, y2) := ⟨_, _, _, rfl⟩
        have hcx := hc k hkl
        have hcy := hc' k hkl'
        rw [hx] at hcx
        rw [hy] at hcy
        have hbw := World.block_lt_of_cell? w _ hcx.1
        have hbw' := World.block_lt_of_cell? w _ hcy.1
        have p0 := (hbel.cell (p := ⟨b, off + k * 3, none⟩) hbw).trans hcx.1
        have p1 := (hbel.cell (p := ⟨b, off + k * 3 + 1, none⟩) hbw).trans hcx.2.1
        have p2 := (hbel.cell (p := ⟨b, off + k * 3 + 1 + 1, none⟩) hbw).trans hcx.2.2
        have q0 := (hbel.cell (p := ⟨b', off' + k * 3, none⟩) hbw').trans hcy.1
        have q1 := (hbel.cell (p := ⟨b', off' + k * 3 + 1, none⟩) hbw').trans hcy.2.1
        have q2 := (hbel.cell (p := ⟨b', off' + k * 3 + 1 + 1, none⟩) hbw').trans hcy.2.2
        simp only at p0 p1 p2 q0 q1 q2
        have HT : Hid (l.take (k + 1) = l.take k ++ [(x0, x1, x2)] ∧ l'.take (k + 1) = l'.take k ++ [(y0, y1, y2)]) :=
          ⟨by rw [List.take_succ_eq_append_getElem hkl, hx], by rw [List.take_succ_eq_append_getElem hkl', hy]⟩
        clear hc hc' hcx hcy hx hy
        by_cases hxy : x0 = y0 ∧ x1 = y1 ∧ x2 = y2
        · obtain ⟨rfl, rfl, rfl⟩ := hxy
          go_wp2_with fail
          go_quiet (fail)
          go_wp2_with fail
          go_roundw
          case rel => exact ⟨k + 1, by omega, by go_num, by show _ = _; rw [HT.out.1, HT.out.2, hdone.out], drewN hbel _⟩
          case measure => simp [intOf]; omega
        · have HN : Hid (D = false) := by
            show D = false
            rw [← HD.out]; simp; intro h
            have h1 := HT.out.1
            have h2 := HT.out.2
            rw [h] at h1
            rw [h1] at h2
            have h3 := List.append_inj_right' h2 rfl
            simp at h3
            exact hxy h3
          by_cases h0 : x0 = y0
          · subst h0
            by_cases h1 : x1 = y1
            · subst h1
              have h2 : ¬ x2 = y2 := fun e => hxy ⟨rfl, rfl, e⟩
              have e2' : (x2.toList == y2.toList) = false := by
                simp only [beq_eq_false_iff_ne, ne_eq]
                intro e; exact h2 (by rw [Lib.toList_data, Lib.toList_data] at e; exact ByteArray.ext (Array.toList_inj.1 e))
              clear hxy h2
              go_wp2_with fail
              go_quiet (fail)
              go_wp2_with fail
              go_ret
              exact ⟨ret_bool HN.out.symm, drewN hbel _⟩
            · have e1 : (x1 == y1) = false := by simp [h1]
              clear hxy h1
              go_wp2_with fail
              go_quiet (fail)
              go_wp2_with fail
              go_ret
              exact ⟨ret_bool HN.out.symm, drewN hbel _⟩
          · have e0 : (x0 == y0) = false := by simp [h0]
            clear hxy h0
            go_wp2_with fail
            go_quiet (fail)
            go_wp2_with fail
            go_ret
            exact ⟨ret_bool HN.out.symm, drewN hbel _⟩
      · have : k = n := by omega
        subst this
        have HN : Hid (D = true) := by
          show D = true
          rw [← HD.out]
          have := hdone.out
          rw [List.take_of_length_le (by omega), List.take_of_length_le (by omega)] at this
          simp [this]
        go_wp2_with fail
        go_ret
        exact ⟨ret_bool HN.out.symm, hbel⟩
  · have hne : ((n : Int) != n') = true := by simp; omega
    have HN : Hid (D = false) := by
      show D = false
      rw [← HD.out]; simp; intro h; rw [h] at hlen; omega
    go_enter Tryz.func237, Tryz.ntmps237
    go_wp2_with fail
    go_ret
    exact ⟨ret_bool HN.out.symm, Below.refl _ _⟩
end Go.Proofs.YtchemhjcknkbgaaGreatDoor
