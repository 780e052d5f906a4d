/- A blank ahead of a text and one behind it change nothing of what is read. Plain. -/
import Derived.Test.YtcajjngjojegfaaGreatDoorBunC
import Derived.Test.YtcajjngjojegfaaGreatDoorBunD
namespace Go.Proofs.YtcajjngjojegfaaGreatDoor
open Go Go.PlainAid
set_option linter.unusedSimpArgs false
set_option linter.unusedVariables false

/-- u is s between two blanks -/
structure Pad (s u : ByteArray) : Prop where
  size : u.size = s.size + 2
  body : ∀ k, k < s.size → bt u (k + 1) = bt s k
  blank : bt u (s.size + 1) = 32
  past : bt u (s.size + 2) = bt s s.size
  none40 : bt s s.size ≠ 40
  none41 : bt s s.size ≠ 41
  cut : ∀ i j, i ≤ j → j ≤ s.size → u.extract (i + 1) (j + 1) = s.extract i j
/-- a place of s, in u, behind blanks -/
def E (s : ByteArray) (a : Nat) : Nat := if a = s.size then s.size + 2 else a + 1
theorem E_lt {s : ByteArray} {a : Nat} (h : a < s.size) : E s a = a + 1 := by unfold E; rw [if_neg (by omega)]
theorem E_end (s : ByteArray) : E s s.size = s.size + 2 := by unfold E; rw [if_pos rfl]
theorem Pad.at {s u : ByteArray} (h : Pad s u) {k : Nat} (hk : k ≤ s.size) : bt u (E s k) = bt s k := by
  by_cases e : k = s.size
  · subst e; rw [E_end]; exact h.past
  · rw [E_lt (by omega)]; exact h.body k (by omega)
theorem Pad.skip {s u : ByteArray} (h : Pad s u) : ∀ (n a : Nat), s.size - a ≤ n → a ≤ s.size → skipTo u (a + 1) = E s (skipTo s a) := by
  intro n
  induction n with
  | zero =>
    intro a hn ha
    have : a = s.size := by omega
    subst this
    rw [skipTo_stop (s := s) (by omega), E_end, skipTo_step (by have := h.size; omega) h.blank, skipTo_stop (by have := h.size; omega)]
  | succ n ih =>
    intro a hn ha
    by_cases e : a = s.size
    · subst e
      rw [skipTo_stop (s := s) (by omega), E_end, skipTo_step (by have := h.size; omega) h.blank, skipTo_stop (by have := h.size; omega)]
    · have hb := h.body a (by omega)
      by_cases hs : bt s a = 32
      · rw [skipTo_step (s := s) (by omega) hs, skipTo_step (s := u) (by have := h.size; omega) (hb.trans hs)]
        exact ih (a + 1) (by omega) (by omega)
      · rw [skipTo_stop (s := s) (fun hh => hs hh.2), skipTo_stop (s := u) (fun hh => hs (hb.symm.trans hh.2)), E_lt (by omega)]
theorem Pad.skipE {s u : ByteArray} (h : Pad s u) {a : Nat} (ha : a ≤ s.size) : skipTo u (E s a) = E s (skipTo s a) := by
  by_cases e : a = s.size
  · subst e
    rw [skipTo_stop (s := s) (by omega), E_end, skipTo_stop (by have := h.size; omega)]
  · rw [E_lt (by omega)]; exact h.skip _ a (Nat.le_refl _) ha
theorem Pad.word {s u : ByteArray} (h : Pad s u) : ∀ (n a : Nat), s.size - a ≤ n → a ≤ s.size → wordTo u (a + 1) = wordTo s a + 1 := by
  intro n
  induction n with
  | zero =>
    intro a hn ha
    have : a = s.size := by omega
    subst this
    rw [wordTo_stop (s := s) (by omega), wordTo_stop (s := u) (fun hh => by rw [h.blank] at hh; exact absurd hh.2 (by decide))]
  | succ n ih =>
    intro a hn ha
    by_cases e : a = s.size
    · subst e
      rw [wordTo_stop (s := s) (by omega), wordTo_stop (s := u) (fun hh => by rw [h.blank] at hh; exact absurd hh.2 (by decide))]
    · have hb := h.body a (by omega)
      by_cases hs : alnB (bt s a) = true
      · rw [wordTo_step (s := s) (by omega) hs, wordTo_step (s := u) (by have := h.size; omega) (by rw [hb]; exact hs)]
        exact ih (a + 1) (by omega) (by omega)
      · rw [wordTo_stop (s := s) (fun hh => hs hh.2), wordTo_stop (s := u) (fun hh => hs (by rw [← hb]; exact hh.2))]
theorem Pad.fig {s u : ByteArray} (h : Pad s u) : ∀ (n a : Nat), s.size - a ≤ n → a ≤ s.size → figEnd u (a + 1) = figEnd s a + 1 := by
  intro n
  induction n with
  | zero =>
    intro a hn ha
    have : a = s.size := by omega
    subst this
    rw [figEnd_stop (s := s) (by omega), figEnd_stop (s := u) (fun hh => by rw [h.blank] at hh; exact absurd hh.2 (by decide))]
  | succ n ih =>
    intro a hn ha
    by_cases e : a = s.size
    · subst e
      rw [figEnd_stop (s := s) (by omega), figEnd_stop (s := u) (fun hh => by rw [h.blank] at hh; exact absurd hh.2 (by decide))]
    · have hb := h.body a (by omega)
      by_cases hs : figB (bt s a) = true
      · rw [figEnd_step (s := s) (by omega) hs, figEnd_step (s := u) (by have := h.size; omega) (by rw [hb]; exact hs)]
        exact ih (a + 1) (by omega) (by omega)
      · rw [figEnd_stop (s := s) (fun hh => hs hh.2), figEnd_stop (s := u) (fun hh => hs (by rw [← hb]; exact hh.2))]
theorem sg_noblank {j : Nat} (h : 5 ≤ j ∧ j ≤ 13) : ∀ i, i < (sg j).size → bt (sg j) i ≠ 32 := by
  intro i hi
  have h2 := sg_size j
  have hi' : i = 0 ∨ i = 1 := by omega
  rcases sg_cases h with rfl | rfl | rfl | rfl | rfl | rfl | rfl | rfl | rfl <;> rcases hi' with rfl | rfl <;> decide
theorem Pad.has {s u : ByteArray} (h : Pad s u) {k j : Nat} (hk : k < s.size) (hj : 5 ≤ j ∧ j ≤ 13) : hasAt u (k + 1) (sg j) = hasAt s k (sg j) := by
  cases e : hasAt s k (sg j) with
  | true =>
    have hlt := hasAt_lt e
    refine hasAt_of (by have := h.size; omega) (fun i hi => ?_)
    rw [show k + 1 + i = k + i + 1 from by omega, h.body (k + i) (by omega)]
    exact hasAt_bt e hi
  | false =>
    cases e' : hasAt u (k + 1) (sg j) with
    | false => rfl
    | true =>
      exfalso
      have hlt := hasAt_lt e'
      by_cases hfit : k + (sg j).size ≤ s.size
      · have : hasAt s k (sg j) = true := hasAt_of hfit (fun i hi => by
          rw [← h.body (k + i) (by omega), show k + i + 1 = k + 1 + i from by omega]
          exact hasAt_bt e' hi)
        rw [this] at e; cases e
      · have h2 := hasAt_bt e' (j := s.size - k) (by omega)
        rw [show k + 1 + (s.size - k) = s.size + 1 from by omega, h.blank] at h2
        exact sg_noblank hj (s.size - k) (by omega) h2.symm
theorem Pad.pair {s u : ByteArray} (h : Pad s u) {k : Nat} (hk : k ≤ s.size) : pairAt u (E s k) = pairAt s k := by
  by_cases e : k = s.size
  · subst e
    have h1 : pairAt s s.size = 0 := Classical.byContradiction fun hh => by have := (pair_lt hh).2.2.2.2; omega
    have h2 : pairAt u (E s s.size) = 0 := Classical.byContradiction fun hh => by have := (pair_lt hh).2.2.2.2; rw [E_end, h.size] at this; omega
    rw [h1, h2]
  · rw [E_lt (by omega)]
    by_cases hp : pairAt s k = 0
    · rw [hp]
      refine Classical.byContradiction fun hh => ?_
      obtain ⟨h1, h2⟩ := pairAt_is hh
      rw [h.has (by omega) h1] at h2
      rw [pairAt_yes h1 h2] at hp
      omega
    · obtain ⟨h1, h2⟩ := pairAt_is hp
      rw [← h.has (by omega) h1] at h2
      exact pairAt_yes h1 h2

def mapE (s : ByteArray) (r : CR) : CR := match r with | none => none | some (t, a) => some (t, E s a)
def map1 (r : CR) : CR := match r with | none => none | some (t, a) => some (t, a + 1)
/-- reading from behind a place on -/
def Rel (s u : ByteArray) (a0 : Nat) : Prop := ∀ lev b d, a0 < b → b ≤ s.size → CC u lev (b + 1) d = mapE s (CC s lev b d)
theorem Pad.number {s u : ByteArray} (h : Pad s u) {a : Nat} (ha : a < s.size) : numberC u (a + 1) = map1 (numberC s a) := by
  have hf := h.fig _ a (Nat.le_refl _) (by omega)
  have hle := figEnd_le (show a ≤ s.size by omega)
  unfold numberC
  rw [hf, h.body a ha, h.cut a (figEnd s a) hle.1 hle.2, show figEnd s a + 1 - (a + 1) = figEnd s a - a from by omega]
  split <;> rfl
theorem Pad.single {s u : ByteArray} (h : Pad s u) {a0 a d : Nat} (hr : Rel s u a0) (h0 : a0 ≤ a) (ha : a ≤ s.size) : singleC (CC u) u (E s a) d = map1 (singleC (CC s) s a d) := by
  by_cases e : a = s.size
  · subst e
    unfold singleC
    rw [if_pos (Nat.le_refl _), if_pos (by rw [E_end, h.size]; omega)]; rfl
  have hlt : a < s.size := by omega
  have hb := h.body a hlt
  rw [E_lt hlt]
  unfold singleC
  rw [if_neg (show ¬ u.size ≤ a + 1 by have := h.size; omega), if_neg (show ¬ s.size ≤ a by omega), hb]
  by_cases h40 : bt s a = 40
  · rw [if_pos h40, if_pos h40]
    by_cases hd : d = 6
    · rw [if_pos hd, if_pos hd]; rfl
    rw [if_neg hd, if_neg hd, hr 1 (a + 1) (d + 1) (by omega) (by omega)]
    cases hc : CC s 1 (a + 1) (d + 1) with
    | none => rfl
    | some q =>
      obtain ⟨t, a'⟩ := q
      have hadv := (advCC s _ _ _ _ _ hc).2 (by omega)
      simp only [mapE]
      rw [rpar_at, rpar_at, h.at hadv]
      by_cases h41 : bt s a' = 41
      · have hne : a' ≠ s.size := fun e => by rw [e] at h41; exact h.none41 h41
        rw [if_pos (by simpa using h41), if_pos (by simpa using h41), E_lt (by omega)]; rfl
      · rw [if_neg (by simpa using h41), if_neg (by simpa using h41)]; rfl
  rw [if_neg h40, if_neg h40]
  by_cases hf : figB (bt s a) = true
  · rw [if_pos hf, if_pos hf]; exact h.number hlt
  rw [if_neg hf, if_neg hf, h.word _ a (Nat.le_refl _) ha, h.cut a (wordTo s a) (wordTo_le ha).1 (wordTo_le ha).2]
  split <;> rfl
theorem Pad.ahead {s u : ByteArray} (h : Pad s u) {a0 d : Nat} (hr : Rel s u a0) (n : Nat) : ∀ a, a0 ≤ a → a ≤ s.size → aheadC (CC u) u d n (a + 1) = map1 (aheadC (CC s) s d n a) := by
  induction n with
  | zero => intro a _ _; rfl
  | succ n ih =>
    intro a h0 ha
    have hk := skipTo_le ha
    unfold aheadC
    rw [h.skip _ a (Nat.le_refl _) ha, h.at hk.2]
    by_cases h45 : bt s (skipTo s a) = 45
    · have hlt := bt_lt h45 (by decide)
      rw [if_pos h45, if_pos h45, E_lt hlt, ih (skipTo s a + 1) (by omega) (by omega)]
      cases aheadC (CC s) s d n (skipTo s a + 1) with
      | none => rfl
      | some q => rfl
    rw [if_neg h45, if_neg h45]
    by_cases h33 : bt s (skipTo s a) = 33
    · have hlt := bt_lt h33 (by decide)
      rw [if_pos h33, if_pos h33, E_lt hlt, ih (skipTo s a + 1) (by omega) (by omega)]
      cases aheadC (CC s) s d n (skipTo s a + 1) with
      | none => rfl
      | some q => rfl
    rw [if_neg h33, if_neg h33]
    exact h.single hr (by omega) hk.2
theorem Pad.loop {s u : ByteArray} (h : Pad s u) {a0 d : Nat} (least : Int) (hr : Rel s u a0) (n : Nat) : ∀ (t : Tree) (a b : Nat), a0 ≤ a → a ≤ s.size → (b = a + 1 ∨ b = E s a) → loopC (CC u) u least d n t b = mapE s (loopC (CC s) s least d n t a) := by
  induction n with
  | zero => intro t a b _ _ _; rfl
  | succ n ih =>
    intro t a b h0 ha hb
    have hk := skipTo_le ha
    have hsk : skipTo u b = E s (skipTo s a) := by
      rcases hb with rfl | rfl
      · exact h.skip _ a (Nat.le_refl _) ha
      · exact h.skipE ha
    unfold loopC
    rw [hsk, h.pair hk.2]
    by_cases hp : pairAt s (skipTo s a) = 0 ∨ lvl (pairAt s (skipTo s a)) < least
    · rw [if_pos hp, if_pos hp]; rfl
    rw [if_neg hp, if_neg hp]
    have hpl := pair_lt (fun e => hp (.inl e))
    rw [E_lt hpl.2.2.2.2, show skipTo s a + 1 + (sg (pairAt s (skipTo s a))).size = skipTo s a + (sg (pairAt s (skipTo s a))).size + 1 from by omega,
      hr _ (skipTo s a + (sg (pairAt s (skipTo s a))).size) d (by omega) (by omega)]
    cases hc : CC s (lvl (pairAt s (skipTo s a)) + 1) (skipTo s a + (sg (pairAt s (skipTo s a))).size) d with
    | none => rfl
    | some q =>
      obtain ⟨r, a'⟩ := q
      have hadv := advCC s _ _ _ _ _ hc
      simp only [mapE]
      exact ih _ a' _ (by omega) (hadv.2 (by omega)) (.inr rfl)
theorem ahead_fuel {rec : Int → Nat → Nat → CR} {s : ByteArray} {d : Nat} (n : Nat) : ∀ (m a : Nat), s.size - a < n → s.size - a < m → aheadC rec s d n a = aheadC rec s d m a := by
  induction n with
  | zero => intro m a h; omega
  | succ n ih =>
    intro m a h1 h2
    cases m with
    | zero => omega
    | succ m =>
      unfold aheadC
      by_cases h45 : bt s (skipTo s a) = 45
      · have hlt := bt_lt h45 (by decide)
        have := skipTo_mono s a
        rw [if_pos h45, if_pos h45, ih m (skipTo s a + 1) (by omega) (by omega)]
      rw [if_neg h45, if_neg h45]
      by_cases h33 : bt s (skipTo s a) = 33
      · have hlt := bt_lt h33 (by decide)
        have := skipTo_mono s a
        rw [if_pos h33, if_pos h33, ih m (skipTo s a + 1) (by omega) (by omega)]
      rw [if_neg h33, if_neg h33]
theorem Pad.climb {s u : ByteArray} (h : Pad s u) : ∀ (n a : Nat) (lev : Int) (d : Nat), s.size - a < n → a ≤ s.size → CC u lev (a + 1) d = mapE s (CC s lev a d) := by
  intro n
  induction n with
  | zero => intro a lev d h; omega
  | succ n ih =>
    intro a lev d hn ha
    have hr : Rel s u a := fun lev b d hb hbs => ih b lev d (by omega) hbs
    rw [CC_eq u, CC_eq s]
    rw [show u.size - (a + 1) + 1 = s.size - a + 2 from by have := h.size; omega, h.ahead hr _ a (Nat.le_refl _) ha, ahead_fuel (s := s) (s.size - a + 1) (s.size - a + 2) a (by omega) (by omega)]
    cases hc : aheadC (CC s) s d (s.size - a + 2) a with
    | none => rfl
    | some q =>
      obtain ⟨t, a'⟩ := q
      have hadv := advC_ahead (advCC s) d _ hc
      simp only [map1]
      rw [show u.size - (a' + 1) + 1 = s.size - a' + 2 from by have := h.size; have := hadv.2 ha; omega, h.loop lev hr _ t a' (a' + 1) hadv.1 (hadv.2 ha) (.inl rfl), fuelLoopC s lev d (s.size - a' + 1) (s.size - a' + 2) t a' (by omega) (by omega)]
theorem CC_start {s : ByteArray} {lev : Int} {d : Nat} (h0 : bt s 0 = 32) (h1 : 0 < s.size) : CC s lev 0 d = CC s lev 1 d := by
  have hs := skipTo_step h1 h0
  rw [CC_eq s lev 0, CC_eq s lev 1]
  have e : aheadC (CC s) s d (s.size - 0 + 1) 0 = aheadC (CC s) s d (s.size - 1 + 1) 1 := by
    rw [← ahead_fuel (s := s) (d := d) (rec := CC s) (s.size - 0 + 1) (s.size - 1 + 1) 1 (by omega) (by omega)]
    unfold aheadC
    rw [hs]
  rw [e]
/-- a text that is read is read between two blanks, if these have room -/
theorem getM_pad {s u : ByteArray} (h : Pad s u) (h0 : bt u 0 = 32) (hs : s.size ≤ 58) {l : List Nd} (hl : getM s = some l) : getM u = some l := by
  rw [← readC_getM] at hl ⊢
  unfold readC at hl ⊢
  rw [if_neg (by omega)] at hl
  rw [if_neg (by have := h.size; omega), CC_start h0 (by have := h.size; omega), h.climb (s.size + 1) 0 1 0 (by omega) (by omega)]
  cases hc : CC s 1 0 0 with
  | none => rw [hc] at hl; cases hl
  | some q =>
    obtain ⟨t, a⟩ := q
    rw [hc] at hl
    simp only [mapE] at hl ⊢
    have hadv := (advCC s _ _ _ _ _ hc).2 (by omega)
    by_cases hlt : a < s.size
    · rw [if_pos hlt] at hl; cases hl
    · rw [if_neg hlt] at hl
      have : a = s.size := by omega
      subst this
      rw [if_neg (by rw [E_end, h.size]; omega)]
      exact hl
end Go.Proofs.YtcajjngjojegfaaGreatDoor
