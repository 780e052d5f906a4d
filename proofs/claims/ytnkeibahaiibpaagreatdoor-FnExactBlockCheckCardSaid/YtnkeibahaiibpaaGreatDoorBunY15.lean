/- The model's reader without a bound on nodes: what it reads, and the place behind; none, if something is wrong. Plain. -/
import Derived.Test.YtnkeibahaiibpaaGreatDoorBunY12
import Derived.Test.YtnkeibahaiibpaaGreatDoorParBound
namespace Go.Proofs.YtnkeibahaiibpaaGreatDoor
open Go Go.PlainAid
set_option linter.unusedSimpArgs false
set_option linter.unusedVariables false

/-- nodes and the place behind them; none, if something is wrong -/
abbrev PR := Option (List Nd × Nat)
def sgn (k : Int) : Nd := (k, 0, noName)
def primP (rec : Int → Nat → Nat → PR) (s : ByteArray) (a d : Nat) : PR :=
  if hasAt s (skipTo s a) lpar then
    if 6 < d + 1 then none
    else match rec 1 (skipTo s a + 1) (d + 1) with
      | none => none
      | some (l, a') => if hasAt s (skipTo s a') rpar then some (l, takeAt s (skipTo s a') rpar) else none
  else
    if figB (bt s (skipTo s a)) then
      if numOf (s.extract (skipTo s a) (wordTo s (skipTo s a))) < 0 then none else some ([(1, numOf (s.extract (skipTo s a) (wordTo s (skipTo s a))), noName)], wordTo s (skipTo s a))
    else if nmB (s.extract (skipTo s a) (wordTo s (skipTo s a))) then some ([(2, 0, s.extract (skipTo s a) (wordTo s (skipTo s a)))], wordTo s (skipTo s a)) else none
def unaryP (rec : Int → Nat → Nat → PR) (s : ByteArray) (a d : Nat) : PR :=
  match primP rec s (aheadTo s a).2 d with
  | none => none
  | some (l, a') => some (l ++ (aheadTo s a).1.reverse.map sgn, a')
def loopP (rec : Int → Nat → Nat → PR) (s : ByteArray) (level : Int) (d : Nat) : Nat → List Nd → Nat → PR
  | 0, l, a => some (l, a)
  | n + 1, l, a => if findSign s (skipTo s a) level = 0 then some (l, signAt s (skipTo s a) level)
    else match rec (level + 1) (signAt s (skipTo s a) level) d with
      | none => none
      | some (r, a') => loopP rec s level d n (l ++ r ++ [sgn (findSign s (skipTo s a) level)]) a'
def sumP (s : ByteArray) : Nat → Int → Nat → Nat → PR
  | 0, _, a, _ => some ([], a)
  | f + 1, level, a, d => if 5 < level then unaryP (sumP s f) s a d
    else match sumP s f (level + 1) a d with
      | none => none
      | some (l, a') => loopP (sumP s f) s level d (s.size + 1) l a'

/-! ### what is bad stays bad -/
theorem bad_put {st : Par} (x : Nd) (h : st.bad = true) : (putNd st x).bad = true := by
  unfold putNd; split
  · rfl
  · exact h
theorem bad_putAll {st : Par} (l : List Int) (h : st.bad = true) : putAll l st = st := by
  cases l with
  | nil => rfl
  | cons k r => unfold putAll; rw [if_pos h]
theorem bad_prim {rec : Int → Par → Par} (hrec : ∀ l st, st.bad = true → (rec l st).bad = true) (s : ByteArray) {st : Par} (h : st.bad = true) : (primM rec s st).bad = true := by
  unfold primM
  split
  · split
    · rfl
    · simp only
      rw [hrec 1 _ (by exact h)]; rfl
  · simp only
    split
    · exact bad_put _ (by simp [h])
    · exact bad_put _ (by simp [h])
theorem bad_unary {rec : Int → Par → Par} (hrec : ∀ l st, st.bad = true → (rec l st).bad = true) (s : ByteArray) {st : Par} (h : st.bad = true) : (unaryM rec s st).bad = true := by
  unfold unaryM
  have := bad_prim hrec s (st := { st with at_ := (aheadTo s st.at_).2 }) h
  rw [bad_putAll _ this]; exact this
theorem bad_loop {rec : Int → Par → Par} (s : ByteArray) (level : Int) (n : Nat) {st : Par} (h : st.bad = true) : loopS rec s level n st = st := by
  cases n with
  | zero => rfl
  | succ n => unfold loopS; rw [if_pos h]
theorem bad_sum (s : ByteArray) (f : Nat) : ∀ level st, st.bad = true → (sumF s f level st).bad = true := by
  induction f with
  | zero => intro level st h; exact h
  | succ f ih =>
    intro level st h
    unfold sumF
    split
    · exact bad_unary ih s h
    · rw [bad_loop s level _ (ih _ _ h)]; exact ih _ _ h

/-- reading with a bound on nodes is reading without one, and the bound -/
def Fits (st st' : Par) (r : PR) : Prop :=
  match r with
  | none => st'.bad = true
  | some (l, a') => if st.out.length + l.length ≤ 24 then st' = { st with at_ := a', out := st.out ++ l } else st'.bad = true
theorem fits_put {st st' : Par} {l : List Nd} {a' : Nat} (x : Nd) (h : Fits st st' (some (l, a'))) (h0 : st.bad = false) (ho : st.out.length ≤ 24) : Fits st (putNd st' x) (some (l ++ [x], a')) := by
  unfold Fits at *
  simp only at *
  split at h
  · rename_i hl
    subst h
    unfold putNd
    by_cases h2 : 24 ≤ (st.out ++ l).length
    · rw [if_pos h2, if_neg (by simp at h2 ⊢; omega)]
    · rw [if_neg h2, if_pos (by simp at h2 ⊢; omega)]; simp
  · rename_i hl
    rw [if_neg (by simp; omega)]
    exact bad_put _ h
theorem fits_bad {st st' st'' : Par} {l l' : List Nd} {a' a'' : Nat} (h : Fits st st' (some (l, a'))) (hb : st'.bad = true) (h0 : st.bad = false) (hl : l.length ≤ l'.length) (h2 : st''.bad = true) : Fits st st'' (some (l', a'')) := by
  unfold Fits at *
  simp only at *
  split at h
  · subst h; simp [h0] at hb
  · rw [if_neg (by omega)]; exact h2
theorem fits_putAll {st : Par} (h0 : st.bad = false) (ho : st.out.length ≤ 24) (ks : List Int) : ∀ {st' : Par} {l : List Nd} {a' : Nat}, Fits st st' (some (l, a')) → Fits st (putAll ks st') (some (l ++ ks.map sgn, a')) := by
  induction ks with
  | nil => intro st' l a' h; simpa [putAll] using h
  | cons k r ih =>
    intro st' l a' h
    unfold putAll
    split
    · rename_i hb
      exact fits_bad h hb h0 (by simp) hb
    · have := ih (fits_put (sgn k) h h0 ho)
      have e : ((k, 0, noName) : Nd) = sgn k := rfl
      rw [e]
      simpa using this
def FitRec (rec : Int → Par → Par) (recP : Int → Nat → Nat → PR) : Prop := ∀ level st, st.bad = false → st.out.length ≤ 24 → Fits st (rec level st) (recP level st.at_ st.deep)
theorem fits_prim {rec : Int → Par → Par} {recP : Int → Nat → Nat → PR} (hr : FitRec rec recP) (s : ByteArray) (st : Par) (h0 : st.bad = false) (ho : st.out.length ≤ 24) : Fits st (primM rec s st) (primP recP s st.at_ st.deep) := by
  unfold primM primP
  split
  · split
    · rfl
    · have h := hr 1 { st with at_ := skipTo s st.at_ + 1, deep := st.deep + 1 } h0 ho
      simp only at h ⊢
      generalize rec 1 { st with at_ := skipTo s st.at_ + 1, deep := st.deep + 1 } = st3 at h
      generalize recP 1 (skipTo s st.at_ + 1) (st.deep + 1) = r at h
      cases r with
      | none => simp only [Fits] at h ⊢; simp [h]
      | some p =>
        obtain ⟨l, a'⟩ := p
        simp only [Fits] at h
        simp only
        split at h
        · rename_i hl
          subst h
          simp only
          split
          · rename_i hh
            unfold Fits; simp only; rw [if_pos hl]; simp [h0, hh]
          · rename_i hh
            unfold Fits; simp [h0, hh]
        · rename_i hl
          split
          · unfold Fits; simp only; rw [if_neg hl]; simp [h]
          · unfold Fits; simp [h]
  · simp only
    split
    · split
      · rename_i hh
        exact bad_put _ (by simp [hh])
      · rename_i hh
        have : Fits st { st with at_ := wordTo s (skipTo s st.at_), bad := st.bad || decide (numOf (s.extract (skipTo s st.at_) (wordTo s (skipTo s st.at_))) < 0) } (some ([], wordTo s (skipTo s st.at_))) := by
          unfold Fits; simp only; rw [if_pos (by simpa using ho)]; simp [h0]; omega
        exact fits_put _ this h0 ho
    · split
      · rename_i hh
        have : Fits st { st with at_ := wordTo s (skipTo s st.at_), bad := st.bad || !nmB (s.extract (skipTo s st.at_) (wordTo s (skipTo s st.at_))) } (some ([], wordTo s (skipTo s st.at_))) := by
          unfold Fits; simp only; rw [if_pos (by simpa using ho)]; simp [h0, hh]
        exact fits_put _ this h0 ho
      · rename_i hh
        exact bad_put _ (by simp [hh])
theorem fits_unary {rec : Int → Par → Par} {recP : Int → Nat → Nat → PR} (hr : FitRec rec recP) (s : ByteArray) (st : Par) (h0 : st.bad = false) (ho : st.out.length ≤ 24) : Fits st (unaryM rec s st) (unaryP recP s st.at_ st.deep) := by
  unfold unaryM unaryP
  have h := fits_prim hr s { st with at_ := (aheadTo s st.at_).2 } h0 ho
  simp only at h
  generalize primM rec s { st with at_ := (aheadTo s st.at_).2 } = st' at h
  generalize primP recP s (aheadTo s st.at_).2 st.deep = r at h
  cases r with
  | none => simp only [Fits] at h ⊢; rw [bad_putAll _ h]; exact h
  | some p =>
    obtain ⟨l, a'⟩ := p
    have h2 : Fits st st' (some (l, a')) := by simpa [Fits] using h
    exact fits_putAll h0 ho _ h2
theorem fits_loop {rec : Int → Par → Par} {recP : Int → Nat → Nat → PR} (hb : ∀ l st, st.bad = true → (rec l st).bad = true) (hr : FitRec rec recP) (s : ByteArray) (level : Int) {st : Par} (h0 : st.bad = false) (ho : st.out.length ≤ 24) (n : Nat) : ∀ {st' : Par} {l : List Nd} {a' : Nat}, Fits st st' (some (l, a')) → Fits st (loopS rec s level n st') (loopP recP s level st.deep n l a') := by
  induction n with
  | zero => intro st' l a' h; exact h
  | succ n ih =>
    intro st' l a' h
    unfold loopS loopP
    by_cases hbad : st'.bad = true
    · rw [if_pos hbad]
      -- too many nodes already: more come, or something is wrong
      have hlen : ¬ st.out.length + l.length ≤ 24 := by
        intro hl
        simp only [Fits] at h
        rw [if_pos hl] at h
        subst h
        simp [h0] at hbad
      split
      · exact fits_bad h hbad h0 (Nat.le_refl _) hbad
      · split
        · exact hbad
        · rename_i r a2 hr2
          have : ∀ (n : Nat) (l2 : List Nd) (a2 : Nat), l.length ≤ l2.length → Fits st st' (loopP recP s level st.deep n l2 a2) := by
            intro n
            induction n with
            | zero => intro l2 a2 hl2; exact fits_bad h hbad h0 hl2 hbad
            | succ n ih2 =>
              intro l2 a2 hl2
              unfold loopP
              split
              · exact fits_bad h hbad h0 hl2 hbad
              · split
                · exact hbad
                · exact ih2 _ _ (by simp; omega)
          exact this n _ _ (by simp)
    · rw [if_neg hbad]
      have hl : st.out.length + l.length ≤ 24 := by
        rcases Nat.lt_or_ge 24 (st.out.length + l.length) with hh | hh
        · simp only [Fits] at h
          rw [if_neg (by omega)] at h
          exact absurd h hbad
        · exact hh
      have hst : st' = { st with at_ := a', out := st.out ++ l } := by
        simp only [Fits] at h
        rw [if_pos hl] at h
        exact h
      subst hst
      simp only
      split
      · unfold Fits; simp [hl]
      · have h3 := hr (level + 1) { st with at_ := signAt s (skipTo s a') level, out := st.out ++ l } h0 (by simpa using hl)
        simp only at h3
        generalize rec (level + 1) { st with at_ := signAt s (skipTo s a') level, out := st.out ++ l } = st3 at h3
        generalize recP (level + 1) (signAt s (skipTo s a') level) st.deep = r at h3
        cases r with
        | none =>
          simp only [Fits] at h3
          simp only
          rw [bad_loop s level n (bad_put _ h3)]
          exact bad_put _ h3
        | some p =>
          obtain ⟨r, a2⟩ := p
          simp only
          apply ih
          apply fits_put _ _ h0 ho
          simp only [Fits, List.length_append] at h3 ⊢
          rw [← Nat.add_assoc]
          split at h3
          · rename_i hh; rw [if_pos hh]; rw [h3]; simp
          · rename_i hh; rw [if_neg hh]; exact h3
theorem fits_sum (s : ByteArray) (f : Nat) : FitRec (sumF s f) (sumP s f) := by
  induction f with
  | zero => intro level st h0 ho; unfold Fits; simp only [sumP, sumF]; rw [if_pos (by simpa using ho)]; simp
  | succ f ih =>
    intro level st h0 ho
    unfold sumF sumP
    split
    · exact fits_unary ih s st h0 ho
    · have h := ih (level + 1) st h0 ho
      generalize sumF s f (level + 1) st = st' at h
      generalize sumP s f (level + 1) st.at_ st.deep = r at h
      cases r with
      | none => simp only [Fits] at h; rw [bad_loop s level _ h]; exact h
      | some p => exact fits_loop (bad_sum s f) ih s level h0 ho _ h
/-- what the model reads, by reading without a bound -/
theorem getM_free (s : ByteArray) : getM s = if 60 < s.size then none else match sumP s (7 * s.size + 7) 1 0 0 with
    | none => none
    | some (l, a) => if skipTo s a < s.size then none else if 24 < l.length then none else some l := by
  unfold getM
  split
  · rfl
  · have h := fits_sum s (7 * s.size + 7) 1 par0 rfl (by simp [par0])
    have e1 : par0.at_ = 0 := rfl
    have e2 : par0.deep = 0 := rfl
    rw [e1, e2] at h
    have e3 : sumF s (7 * s.size + 7) 1 par0 = parEnd s := rfl
    rw [e3] at h
    generalize parEnd s = st at h
    generalize sumP s (7 * s.size + 7) 1 0 0 = r at h
    cases r with
    | none => simp only [Fits] at h; rw [if_pos (.inl h)]
    | some p =>
      obtain ⟨l, a⟩ := p
      simp only [Fits] at h
      have e4 : par0.out.length = 0 := rfl
      rw [e4, Nat.zero_add] at h
      simp only
      split at h
      · rename_i hl
        subst h
        simp [par0]
        by_cases hs : skipTo s a < s.size
        · simp [hs]
        · simp [hs]; omega
      · rename_i hl
        rw [if_pos (.inl h)]
        split
        · rfl
        · rw [if_pos (by omega)]
end Go.Proofs.YtnkeibahaiibpaaGreatDoor

/- The program's reader as a function: it climbs by how tightly signs bind. Plain: no program. -/
namespace Go.Proofs.YtnkeibahaiibpaaGreatDoor
open Go Go.PlainAid
set_option linter.unusedSimpArgs false
set_option linter.unusedVariables false

/-- a part of a sum -/
inductive Tree where
  | num (n : Int)
  | name (x : ByteArray)
  | ahead (k : Int) (t : Tree)
  | pair (k : Int) (l r : Tree)
def Tree.nodes : Tree → List Nd
  | .num n => [(1, n, noName)]
  | .name x => [(2, 0, x)]
  | .ahead k t => t.nodes ++ [sgn k]
  | .pair k l r => l.nodes ++ r.nodes ++ [sgn k]
/-- a part and the place behind it -/
abbrev CR := Option (Tree × Nat)

/-- the place of the next byte that is no figure -/
def figF (s : ByteArray) : Nat → Nat → Nat
  | 0, a => a
  | f + 1, a => if a < s.size ∧ figB (bt s a) = true then figF s f (a + 1) else a
def figEnd (s : ByteArray) (a : Nat) : Nat := figF s (s.size - a) a
/-- the kind of the sign between two parts that stands at a place; 0, if there is none -/
def pairAt (s : ByteArray) (k : Nat) : Nat := ((List.range' 5 9).find? (fun j => hasAt s k (sg j))).getD 0

def numberC (s : ByteArray) (a : Nat) : CR :=
  if 6 < figEnd s a - a ∨ (1 < figEnd s a - a ∧ bt s a = 48) then none else some (.num (numTo (s.extract a (figEnd s a)) (figEnd s a - a)), figEnd s a)
def singleC (rec : Int → Nat → Nat → CR) (s : ByteArray) (a d : Nat) : CR :=
  if s.size ≤ a then none
  else if bt s a = 40 then
    if d = 6 then none
    else match rec 1 (a + 1) (d + 1) with
      | none => none
      | some (t, a') => if hasAt s a' rpar then some (t, a' + 1) else none
  else if figB (bt s a) then numberC s a
  else if nmB (s.extract a (wordTo s a)) then some (.name (s.extract a (wordTo s a)), wordTo s a) else none
def aheadC (rec : Int → Nat → Nat → CR) (s : ByteArray) (d : Nat) : Nat → Nat → CR
  | 0, _ => none
  | n + 1, a => if bt s (skipTo s a) = 45 then (match aheadC rec s d n (skipTo s a + 1) with | none => none | some (t, a') => some (.ahead 3 t, a'))
    else if bt s (skipTo s a) = 33 then (match aheadC rec s d n (skipTo s a + 1) with | none => none | some (t, a') => some (.ahead 4 t, a'))
    else singleC rec s (skipTo s a) d
def loopC (rec : Int → Nat → Nat → CR) (s : ByteArray) (least : Int) (d : Nat) : Nat → Tree → Nat → CR
  | 0, _, _ => none
  | n + 1, t, a => if pairAt s (skipTo s a) = 0 ∨ lvl (pairAt s (skipTo s a)) < least then some (t, skipTo s a)
    else match rec (lvl (pairAt s (skipTo s a)) + 1) (skipTo s a + (sg (pairAt s (skipTo s a))).size) d with
      | none => none
      | some (r, a') => loopC rec s least d n (.pair (pairAt s (skipTo s a)) t r) a'
def climbF (s : ByteArray) : Nat → Int → Nat → Nat → CR
  | 0, _, _, _ => none
  | f + 1, least, a, d => match aheadC (climbF s f) s d (s.size - a + 1) a with
    | none => none
    | some (t, a') => loopC (climbF s f) s least d (s.size - a' + 1) t a'

/-! ### bytes and signs -/
theorem bt_extract (s : ByteArray) {i j k : Nat} (hj : j ≤ s.size) (h : i + k < j) : bt (s.extract i j) k = bt s (i + k) := by
  unfold bt
  have h1 : k < (s.extract i j).size := by rw [ByteArray.size_extract]; omega
  rw [dif_pos h1, dif_pos (show i + k < s.size by omega)]
  rw [ByteArray.getElem_extract]
theorem hasAt_bt {s : ByteArray} {k : Nat} {g : ByteArray} (h : hasAt s k g = true) {j : Nat} (hj : j < g.size) : bt s (k + j) = bt g j := by
  have h1 := hasAt_lt h
  unfold hasAt at h
  simp at h
  have e : s.extract k (k + g.size) = g := by
    have := h.2
    rw [Lib.toList_data, Lib.toList_data] at this
    exact ByteArray.ext (Array.toList_inj.1 this)
  rw [← bt_extract s (i := k) (j := k + g.size) h1 (by omega), e]
theorem hasAt_of {s : ByteArray} {k : Nat} {g : ByteArray} (h1 : k + g.size ≤ s.size) (h : ∀ j, j < g.size → bt s (k + j) = bt g j) : hasAt s k g = true := by
  unfold hasAt
  simp only [Bool.and_eq_true, decide_eq_true_eq, beq_iff_eq]
  refine ⟨h1, ?_⟩
  have hs : (s.extract k (k + g.size)).size = g.size := by rw [ByteArray.size_extract]; omega
  have e : s.extract k (k + g.size) = g := by
    apply ByteArray.ext
    apply Array.ext
    · exact hs
    · intro i h2 h3
      have h4 : i < g.size := h3
      have h5 := h i h4
      rw [← bt_extract s (i := k) (j := k + g.size) h1 (by omega)] at h5
      unfold bt at h5
      rw [dif_pos (by rw [hs]; exact h4), dif_pos h4] at h5
      apply UInt8.toNat_inj.1
      exact_mod_cast h5
  rw [e]
theorem lpar_at (s : ByteArray) (k : Nat) : hasAt s k lpar = decide (bt s k = 40) := by
  by_cases h : bt s k = 40
  · rw [decide_eq_true h]
    have := bt_lt h (by decide)
    exact hasAt_of (by show k + 1 ≤ s.size; omega) (fun j hj => by
      have h1 : j < 1 := hj
      have : j = 0 := by omega
      subst this; rw [Nat.add_zero, h]; decide)
  · rw [decide_eq_false h]
    cases e : hasAt s k lpar with
    | false => rfl
    | true => exact absurd ((hasAt_bt e (j := 0) (by decide)).trans (by decide)) h
theorem rpar_at (s : ByteArray) (k : Nat) : hasAt s k rpar = decide (bt s k = 41) := by
  by_cases h : bt s k = 41
  · rw [decide_eq_true h]
    have := bt_lt h (by decide)
    exact hasAt_of (by show k + 1 ≤ s.size; omega) (fun j hj => by
      have h1 : j < 1 := hj
      have : j = 0 := by omega
      subst this; rw [Nat.add_zero, h]; decide)
  · rw [decide_eq_false h]
    cases e : hasAt s k rpar with
    | false => rfl
    | true => exact absurd ((hasAt_bt e (j := 0) (by decide)).trans (by decide)) h
theorem sg_cases {j : Nat} (h : 5 ≤ j ∧ j ≤ 13) : j = 5 ∨ j = 6 ∨ j = 7 ∨ j = 8 ∨ j = 9 ∨ j = 10 ∨ j = 11 ∨ j = 12 ∨ j = 13 := by omega
/-- a sign's first byte -/
def sgb (j : Nat) : Int := bt (sg j) 0
theorem sgb_inj {i j : Nat} (hi : 5 ≤ i ∧ i ≤ 13) (hj : 5 ≤ j ∧ j ≤ 13) (h : sgb i = sgb j) : i = j := by
  rcases sg_cases hi with rfl | rfl | rfl | rfl | rfl | rfl | rfl | rfl | rfl <;> rcases sg_cases hj with rfl | rfl | rfl | rfl | rfl | rfl | rfl | rfl | rfl <;> first | rfl | (revert h; decide)
theorem sg_pos {j : Nat} (h : 5 ≤ j ∧ j ≤ 13) : 1 ≤ (sg j).size := by
  rcases sg_cases h with rfl | rfl | rfl | rfl | rfl | rfl | rfl | rfl | rfl <;> decide
theorem sgb_no {j : Nat} (h : 5 ≤ j ∧ j ≤ 13) : alnB (sgb j) = false ∧ sgb j ≠ 32 ∧ sgb j ≠ 41 := by
  rcases sg_cases h with rfl | rfl | rfl | rfl | rfl | rfl | rfl | rfl | rfl <;> decide
theorem hasAt_sgb {s : ByteArray} {k j : Nat} (h : 5 ≤ j ∧ j ≤ 13) (hh : hasAt s k (sg j) = true) : bt s k = sgb j := by
  have := hasAt_bt hh (j := 0) (sg_pos h)
  exact this
theorem pairAt_yes {s : ByteArray} {k j : Nat} (h : 5 ≤ j ∧ j ≤ 13) (hh : hasAt s k (sg j) = true) : pairAt s k = j := by
  unfold pairAt
  have : (List.range' 5 9).find? (fun j => hasAt s k (sg j)) = some j := by
    rw [List.find?_range'_eq_some]
    refine ⟨hh, by simp; omega, fun i h1 h2 => ?_⟩
    cases e : hasAt s k (sg i) with
    | false => rfl
    | true => have := sgb_inj (i := i) ⟨h1, by omega⟩ h ((hasAt_sgb ⟨h1, by omega⟩ e).symm.trans (hasAt_sgb h hh)); omega
  rw [this]; rfl
theorem pairAt_is {s : ByteArray} {k : Nat} (h : pairAt s k ≠ 0) : (5 ≤ pairAt s k ∧ pairAt s k ≤ 13) ∧ hasAt s k (sg (pairAt s k)) = true := by
  unfold pairAt at *
  cases hf : (List.range' 5 9).find? (fun j => hasAt s k (sg j)) with
  | none => rw [hf] at h; simp at h
  | some j =>
    have h1 := List.find?_some hf
    have h2 := List.mem_of_find?_eq_some hf
    simp at h2
    exact ⟨by simp; omega, h1⟩
theorem findSign_pair (s : ByteArray) (k : Nat) (level : Int) : findSign s k level = if pairAt s k ≠ 0 ∧ lvl (pairAt s k) = level then pairAt s k else 0 := by
  split
  · rename_i h
    have hp := pairAt_is h.1
    refine findSign_yes hp.1 (by unfold isSign; simp [h.2, hp.2]) (fun i h1 h2 => ?_)
    unfold isSign
    cases e : hasAt s k (sg i) with
    | false => simp
    | true => have := pairAt_yes (j := i) ⟨h1, by omega⟩ e; omega
  · rename_i h
    refine findSign_no (fun i h1 h2 => ?_)
    unfold isSign
    cases e : hasAt s k (sg i) with
    | false => simp
    | true =>
      have := pairAt_yes (j := i) ⟨h1, by omega⟩ e
      simp only [Bool.and_true, beq_eq_false_iff_ne]
      intro hl
      exact h ⟨by omega, by rw [this]; exact hl⟩
theorem lvl_range (k : Int) : 1 ≤ lvl k ∧ lvl k ≤ 5 := by
  unfold lvl
  repeat' split
  all_goals omega
theorem pair_lt {s : ByteArray} {k : Nat} (h : pairAt s k ≠ 0) : k + (sg (pairAt s k)).size ≤ s.size ∧ 1 ≤ (sg (pairAt s k)).size ∧ alnB (bt s k) = false ∧ bt s k ≠ 32 ∧ k < s.size := by
  have hp := pairAt_is h
  have h1 := hasAt_lt hp.2
  have h2 := sg_pos hp.1
  have h3 := sgb_no hp.1
  have h4 := hasAt_sgb hp.1 hp.2
  rw [h4]
  exact ⟨h1, h2, h3.1, h3.2.1, by omega⟩
end Go.Proofs.YtnkeibahaiibpaaGreatDoor

/- Climbing reads what reading level by level does. Plain. -/
namespace Go.Proofs.YtnkeibahaiibpaaGreatDoor
open Go Go.PlainAid
set_option linter.unusedSimpArgs false
set_option linter.unusedVariables false

/-! ### reading goes on -/
def AdvP (s : ByteArray) (rec : Int → Nat → Nat → PR) : Prop := ∀ lev a d l a', rec lev a d = some (l, a') → a ≤ a' ∧ (a ≤ s.size → a' ≤ s.size)
theorem advP_prim {s : ByteArray} {rec : Int → Nat → Nat → PR} (hr : AdvP s rec) {a d : Nat} {l : List Nd} {a' : Nat} (h : primP rec s a d = some (l, a')) : a ≤ a' ∧ (a ≤ s.size → a' ≤ s.size) := by
  have h1 := skipTo_mono s a
  unfold primP at h
  split at h
  · rename_i hh
    have h2 := hasAt_lt hh
    have e : lpar.size = 1 := rfl
    split at h
    · cases h
    · split at h
      · cases h
      · rename_i l2 a2 hr2
        have h3 := hr _ _ _ _ _ hr2
        split at h
        · cases h
          have h4 := skipTo_mono s a2
          have h5 := takeAt_mono s (skipTo s a2) rpar
          exact ⟨by omega, fun ha => (takeAt_le (skipTo_le (h3.2 (by omega))).2).2⟩
        · cases h
  · have h2 := wordF_le s (s.size - skipTo s a) (skipTo s a)
    have e : wordTo s (skipTo s a) = wordF s (s.size - skipTo s a) (skipTo s a) := rfl
    rw [← e] at h2
    have h3 : a ≤ s.size → wordTo s (skipTo s a) ≤ s.size := fun ha => h2.2 (skipTo_le ha).2
    split at h
    · split at h
      · cases h
      · cases h; exact ⟨by omega, h3⟩
    · split at h
      · cases h; exact ⟨by omega, h3⟩
      · cases h
theorem advP_unary {s : ByteArray} {rec : Int → Nat → Nat → PR} (hr : AdvP s rec) {a d : Nat} {l : List Nd} {a' : Nat} (h : unaryP rec s a d = some (l, a')) : a ≤ a' ∧ (a ≤ s.size → a' ≤ s.size) := by
  unfold unaryP at h
  split at h
  · cases h
  · rename_i l2 a2 h2
    cases h
    have h3 := advP_prim hr h2
    have h4 := aheadF_le s (s.size - a + 1) a
    have e : (aheadTo s a).2 = (aheadF s (s.size - a + 1) a).2 := rfl
    rw [e] at h3
    exact ⟨by omega, fun ha => h3.2 (h4.2 ha)⟩
theorem advP_loop {s : ByteArray} {rec : Int → Nat → Nat → PR} (hr : AdvP s rec) (level : Int) (d n : Nat) : ∀ {l : List Nd} {a : Nat} {l' : List Nd} {a' : Nat}, loopP rec s level d n l a = some (l', a') → a ≤ a' ∧ (a ≤ s.size → a' ≤ s.size) := by
  induction n with
  | zero => intro l a l' a' h; cases h; exact ⟨Nat.le_refl _, id⟩
  | succ n ih =>
    intro l a l' a' h
    have h1 := signAt_le s a level
    unfold loopP at h
    split at h
    · cases h; exact h1
    · split at h
      · cases h
      · rename_i r a2 h2
        have h3 := hr _ _ _ _ _ h2
        have h4 := ih h
        exact ⟨by omega, fun ha => h4.2 (h3.2 (h1.2 ha))⟩
theorem advP_sum (s : ByteArray) (f : Nat) : AdvP s (sumP s f) := by
  induction f with
  | zero => intro lev a d l a' h; cases h; exact ⟨Nat.le_refl _, id⟩
  | succ f ih =>
    intro lev a d l a' h
    unfold sumP at h
    split at h
    · exact advP_unary ih h
    · split at h
      · cases h
      · rename_i l2 a2 h2
        have h3 := ih _ _ _ _ _ h2
        have h4 := advP_loop ih _ _ _ h
        exact ⟨by omega, fun ha => h4.2 (h3.2 ha)⟩

/-! ### the fuel does not matter, as long as there is enough -/
def AgreeP (s : ByteArray) (a : Nat) (r1 r2 : Int → Nat → Nat → PR) : Prop := ∀ lev b d, a < b → b ≤ s.size → 1 ≤ lev → lev ≤ 6 → r1 lev b d = r2 lev b d
theorem agreeP_prim {s : ByteArray} {a : Nat} {r1 r2 : Int → Nat → Nat → PR} (h : AgreeP s a r1 r2) (d : Nat) {a1 : Nat} (ha : a ≤ a1) : primP r1 s a1 d = primP r2 s a1 d := by
  unfold primP
  split
  · rename_i hh
    have h2 := hasAt_lt hh
    have e : lpar.size = 1 := rfl
    have h1 := skipTo_mono s a1
    rw [h 1 (skipTo s a1 + 1) (d + 1) (by omega) (by omega) (by omega) (by omega)]
  · rfl
theorem agreeP_unary {s : ByteArray} {a : Nat} {r1 r2 : Int → Nat → Nat → PR} (h : AgreeP s a r1 r2) (d : Nat) : unaryP r1 s a d = unaryP r2 s a d := by
  unfold unaryP
  have h4 := aheadF_le s (s.size - a + 1) a
  have e : (aheadTo s a).2 = (aheadF s (s.size - a + 1) a).2 := rfl
  rw [← e] at h4
  rw [agreeP_prim h d h4.1]
theorem agreeP_loop {s : ByteArray} {a : Nat} {r1 r2 : Int → Nat → Nat → PR} (h : AgreeP s a r1 r2) (hr : AdvP s r1) (level : Int) (h1 : 1 ≤ level ∧ level ≤ 5) (d : Nat) (n : Nat) : ∀ (l : List Nd) (b : Nat), a ≤ b → b ≤ s.size → loopP r1 s level d n l b = loopP r2 s level d n l b := by
  induction n with
  | zero => intro l b _ _; rfl
  | succ n ih =>
    intro l b hb hs
    unfold loopP
    split
    · rfl
    · rename_i hf
      have h2 := findSign_lt hf
      have h3 := skipTo_mono s b
      have e : signAt s (skipTo s b) level = skipTo s b + (sg (findSign s (skipTo s b) level)).size := rfl
      have h4 := h (level + 1) (signAt s (skipTo s b) level) d (by omega) (by omega) (by omega) (by omega)
      rw [← h4]
      split
      · rfl
      · rename_i r a2 hr2
        have h5 := hr _ _ _ _ _ hr2
        exact ih _ _ (by omega) (h5.2 (by omega))
theorem fuelP (s : ByteArray) (f : Nat) : ∀ (f' : Nat) (lev : Int) (a d : Nat), a ≤ s.size → 1 ≤ lev → lev ≤ 6 → ((7 * (s.size - a) + 7 : Nat) : Int) ≤ f + lev → ((7 * (s.size - a) + 7 : Nat) : Int) ≤ f' + lev → sumP s f lev a d = sumP s f' lev a d := by
  induction f with
  | zero => intro f' lev a d ha h1 h6 hf hf'; omega
  | succ f ih =>
    intro f' lev a d ha h1 h6 hf hf'
    match f', hf' with
    | 0, hf' => omega
    | f' + 1, hf' =>
      have hag : AgreeP s a (sumP s f) (sumP s f') := fun lv b dd hb hs l1 l6 => ih f' lv b dd hs l1 l6 (by omega) (by omega)
      unfold sumP
      split
      · exact agreeP_unary hag d
      · rw [ih f' (lev + 1) a d ha (by omega) (by omega) (by omega) (by omega)]
        split
        · rfl
        · rename_i l2 a2 h2
          have h3 := advP_sum s f' _ _ _ _ _ h2
          exact agreeP_loop hag (advP_sum s f) lev ⟨h1, by omega⟩ d _ _ _ h3.1 (h3.2 ha)
/-- reading a sum of a level, by as much fuel as it may want -/
def PP (s : ByteArray) (lev : Int) (a d : Nat) : PR := sumP s (7 * (s.size - a) + 7) lev a d
theorem sumP_PP (s : ByteArray) {f : Nat} {lev : Int} {a d : Nat} (ha : a ≤ s.size) (h1 : 1 ≤ lev) (h6 : lev ≤ 6) (hf : ((7 * (s.size - a) + 7 : Nat) : Int) ≤ f + lev) : sumP s f lev a d = PP s lev a d :=
  fuelP s f _ lev a d ha h1 h6 hf (by omega)
theorem advPP (s : ByteArray) : AdvP s (PP s) := fun lev a d l a' h => advP_sum s _ lev a d l a' h
theorem PP_high (s : ByteArray) {a d : Nat} (ha : a ≤ s.size) : PP s 6 a d = unaryP (PP s) s a d := by
  unfold PP
  show sumP s (7 * (s.size - a) + 6 + 1) 6 a d = _
  unfold sumP
  rw [if_pos (by decide)]
  exact agreeP_unary (fun lv b dd hb hs l1 l6 => sumP_PP s hs l1 l6 (by omega)) d
theorem PP_low (s : ByteArray) {lev : Int} {a d : Nat} (ha : a ≤ s.size) (h1 : 1 ≤ lev) (h5 : lev ≤ 5) : PP s lev a d = match PP s (lev + 1) a d with | none => none | some (l, a') => loopP (PP s) s lev d (s.size + 1) l a' := by
  show sumP s (7 * (s.size - a) + 6 + 1) lev a d = _
  unfold sumP
  rw [if_neg (by omega), sumP_PP s ha (show 1 ≤ lev + 1 by omega) (by omega) (by omega)]
  cases hP : PP s (lev + 1) a d with
  | none => rfl
  | some p =>
    obtain ⟨l2, a2⟩ := p
    have h3 := advPP s _ _ _ _ _ hP
    simp only
    exact agreeP_loop (r1 := sumP s (7 * (s.size - a) + 6)) (fun lv b dd hb hs l1 l6 => sumP_PP s hs l1 l6 (by omega)) (advP_sum s _) lev ⟨h1, h5⟩ d _ _ _ h3.1 (h3.2 ha)
/-- the loop's fuel does not matter -/
theorem fuelLoop (s : ByteArray) (lev : Int) (h1 : 1 ≤ lev ∧ lev ≤ 5) (d : Nat) (n : Nat) : ∀ (m : Nat) (l : List Nd) (a : Nat), a ≤ s.size → s.size - a < n → s.size - a < m → loopP (PP s) s lev d n l a = loopP (PP s) s lev d m l a := by
  induction n with
  | zero => intro m l a ha hn hm; omega
  | succ n ih =>
    intro m l a ha hn hm
    match m, hm with
    | 0, hm => omega
    | m + 1, hm =>
      unfold loopP
      split
      · rfl
      · rename_i hf
        have h2 := findSign_lt hf
        have h3 := skipTo_mono s a
        have e : signAt s (skipTo s a) lev = skipTo s a + (sg (findSign s (skipTo s a) lev)).size := rfl
        split
        · rfl
        · rename_i r a2 hr
          have h4 := advPP s _ _ _ _ _ hr
          exact ih m _ _ (h4.2 (by omega)) (by omega) (by omega)
end Go.Proofs.YtnkeibahaiibpaaGreatDoor

/- The law's marks in texts. -/
namespace Go.Proofs.YtnkeibahaiibpaaGreatDoor
open Go Go.RowKit Go.PlainAid
set_option linter.unusedSimpArgs false
set_option linter.unusedVariables false

def mtF : Nat → Int → ByteArray → ByteArray
  | 0, _, out => out
  | f + 1, k, out => if 0 < k then mtF f (k / 10) (dig (k % 10) ++ out) else out
/-- a mark's text -/
def mtx (k : Int) : ByteArray := ⟨#[109]⟩ ++ mtF 12 k ⟨#[]⟩
theorem mtF_zero (f : Nat) {k : Int} (out : ByteArray) (h : k ≤ 0) : mtF f k out = out := by
  cases f with
  | zero => rfl
  | succ f => unfold mtF; rw [if_neg (by omega)]

set_option maxHeartbeats 800000 in
set_option maxRecDepth 100000 in
theorem markText_any (k : Int) (w : World) (h0 : 0 < k) (h1 : k < 1000000000000) : Calls Tryz.prog 63 #[.int .i64 k] w fun e w' => e = .returned (.string (mtx k)) ∧ Below w.heap.size w w' := by
  obtain ⟨M, hM⟩ : ∃ M, mtx k = M := ⟨_, rfl⟩
  have HM : Hid (mtx k = M) := hM
  rw [hM]
  clear hM
  go_enter Tryz.func63, Tryz.ntmps63
  go_wp2_with fail
  go_loopw [0, 3] (fun v o wr => ∃ (q : Int) (f : Nat) (out : ByteArray), v = .int .i64 q ∧ o = .string out ∧ 0 ≤ q ∧ q < 10 ^ f ∧ f + out.size ≤ 12 ∧ Hid (mtF 12 k ⟨#[]⟩ = mtF f q out) ∧ Below w.heap.size w wr) (fun v _ _ => (intOf v).toNat)
  case atStart => exact ⟨k, 12, ⟨#[]⟩, rfl, rfl, by omega, by simpa using h1, by decide, rfl, Below.refl _ _⟩
  case round =>
    obtain ⟨q, f, out, rfl, rfl, hq0, hq1, hf, HF, hbel⟩ := hrel
    have hqq : q < 1000000000000 := by
      have : (10 : Int) ^ f ≤ 10 ^ 12 := by exact_mod_cast Nat.pow_le_pow_right (by decide : 0 < 10) (show f ≤ 12 by omega)
      have e : (10 : Int) ^ 12 = 1000000000000 := by decide
      omega
    by_cases hlt : 0 < q
    · obtain ⟨g, rfl⟩ : ∃ g, f = g + 1 := ⟨f - 1, by
        cases f with
        | zero => simp at hq1; omega
        | succ f => rfl⟩
      obtain ⟨d, hd⟩ : ∃ d, q / 10 = d := ⟨_, rfl⟩
      obtain ⟨r, hr⟩ : ∃ r, q % 10 = r := ⟨_, rfl⟩
      have t1 : q.tdiv 10 = d := by rw [Int.tdiv_eq_ediv_of_nonneg hq0]; exact hd
      have t2 : q.tmod 10 = r := by rw [Int.tmod_eq_emod_of_nonneg hq0]; exact hr
      have hcv := conv_dig r (by omega) (by omega)
      have HN : Hid (mtF 12 k ⟨#[]⟩ = mtF g d (dig r ++ out)) := by
        show mtF 12 k ⟨#[]⟩ = _
        rw [HF.out, mtF, if_pos hlt, hd, hr]
      have hd1 : d < 10 ^ g := by
        rw [Int.pow_succ] at hq1
        rw [← hd]
        exact Int.ediv_lt_of_lt_mul (by decide) hq1
      have HD : Hid (d < 10 ^ g) := hd1
      have hdz : (dig r).size = 1 := rfl
      have hz9 : (dig r).size + out.size ≤ 9223372036854775807 := by omega
      have hz10 : (dig r ++ out).size = 1 + out.size := by rw [ByteArray.size_append, hdz]
      have hm1 : 0 ≤ r := by omega
      have hm2 : r < 10 := by omega
      have hd2 : 0 ≤ d := by omega
      have hd3 : d < q := by omega
      have p1 : IntKind.i64.wrap d = d := IntWalk.i64_in _ ⟨by omega, by omega⟩
      have p2 : IntKind.i64.wrap (48 + r) = 48 + r := IntWalk.i64_in _ ⟨by omega, by omega⟩
      have p3 : IntKind.u8.wrap (48 + r) = 48 + r := IntWalk.u8_in _ ⟨by omega, by omega⟩
      have p4 : IntKind.i64.wrap r = r := IntWalk.i64_in _ ⟨by omega, by omega⟩
      clear hd hr hq1 hd1 HF
      go_wp2_with fail
      go_roundw
      case rel => exact ⟨d, g, dig r ++ out, rfl, rfl, hd2, HD.out, by omega, HN, hbel.alloc hbel.size _⟩
      case measure => simp [intOf]; omega
    · have HE : Hid (⟨#[109]⟩ ++ out = M) := by
        show (⟨#[109]⟩ : ByteArray) ++ out = M
        rw [← HM.out]; unfold mtx; rw [HF.out, mtF_zero f out (by omega)]
      have e1 : (⟨#[109]⟩ : ByteArray).size = 1 := rfl
      clear hq1
      go_wp2_with fail
      go_ret
      exact ⟨ret_str HE.out, hbel⟩

end Go.Proofs.YtnkeibahaiibpaaGreatDoor
