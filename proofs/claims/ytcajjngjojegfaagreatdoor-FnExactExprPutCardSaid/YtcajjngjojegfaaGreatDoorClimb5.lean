/- Climbing reads what reading level by level does: the program's reader is the model's. Plain. -/
import Derived.Test.YtcajjngjojegfaaGreatDoorClimb4
namespace Go.Proofs.YtcajjngjojegfaaGreatDoor
open Go Go.PlainAid
set_option linter.unusedSimpArgs false
set_option linter.unusedVariables false

/-- where nothing can go on nothing does -/
theorem dead_seq {s : ByteArray} (d j : Nat) {l : List Nd} {a : Nat} (h : alnB (bt s (skipTo s a)) = true) : settle s (seqP s d j l a) = none := by
  have h0 : pairAt s (skipTo s a) = 0 := by
    by_cases e : pairAt s (skipTo s a) = 0
    · exact e
    · have := (pair_lt e).2.2.1; rw [h] at this; cases this
  obtain ⟨a', h1, h2⟩ := seq_low s d j (l := l) (a := a) (.inl h0)
  rw [h1]
  simp only [settle]
  rw [h2, if_pos h]
theorem dead_loop {s : ByteArray} (least : Int) (d : Nat) {t : Tree} {a : Nat} (h : alnB (bt s (skipTo s a)) = true) : settle s (asP (loopC (CC s) s least d (s.size - a + 1) t a)) = none := by
  have h0 : pairAt s (skipTo s a) = 0 := by
    by_cases e : pairAt s (skipTo s a) = 0
    · exact e
    · have := (pair_lt e).2.2.1; rw [h] at this; cases this
  unfold loopC
  rw [if_pos (.inl h0)]
  simp only [asP, settle]
  rw [skipTo_idem, if_pos h]
def thenP (k : List Nd → Nat → PR) : PR → PR
  | none => none
  | some (l, a) => k l a
def thenC (k : Tree → Nat → CR) : CR → CR
  | none => none
  | some (t, a) => k t a
/-- loops behind what comes to the same come to the same -/
theorem same_then {s : ByteArray} {d j : Nat} {b : Nat} (hM : ∀ (t : Tree) (a : Nat), b ≤ a → a ≤ s.size → settle s (seqP s d j t.nodes a) = settle s (asP (loopC (CC s) s (6 - j) d (s.size - a + 1) t a)))
    {x : PR} {y : CR} (hx : ∀ l a, x = some (l, a) → b ≤ a ∧ a ≤ s.size) (f : List Nd → List Nd) (g : Tree → Tree) (hfg : ∀ t, (g t).nodes = f t.nodes) (h : settle s x = settle s (asP y)) :
    settle s (thenP (fun l a => seqP s d j (f l) a) x) = settle s (asP (thenC (fun t a => loopC (CC s) s (6 - j) d (s.size - a + 1) (g t) a) y)) := by
  cases x with
  | none =>
    cases y with
    | none => rfl
    | some q =>
      obtain ⟨t, a⟩ := q
      simp only [settle, asP] at h
      split at h
      · rename_i hh
        simp only [thenP, thenC]
        rw [dead_loop _ _ hh]; rfl
      · cases h
  | some p =>
    obtain ⟨l, a⟩ := p
    have ha := hx l a rfl
    cases y with
    | none =>
      simp only [settle, asP] at h
      split at h
      · rename_i hh
        simp only [thenP, thenC]
        rw [dead_seq _ _ hh]; rfl
      · cases h
    | some q =>
      obtain ⟨t, a2⟩ := q
      simp only [settle, asP] at h
      simp only [thenP, thenC]
      split at h
      · rename_i hh
        split at h
        · rename_i h2
          rw [dead_seq _ _ hh, dead_loop _ _ h2]
        · cases h
      · split at h
        · cases h
        · simp only [Option.some.injEq, Prod.mk.injEq] at h
          rw [h.1, ← hfg, hM (g t) a ha.1 ha.2, loopC_skip s _ d (g t) h.2]
/-- a sign that binds tightly enough is taken, and the loops go on behind it -/
theorem seq_sign {s : ByteArray} {d : Nat} {l : List Nd} {a : Nat} (ha : a ≤ s.size) (hp : pairAt s (skipTo s a) ≠ 0) (i : Nat) : ∀ (j : Nat), j ≤ 5 → (6 : Int) - j = lvl (pairAt s (skipTo s a)) → j + i ≤ 5 →
    seqP s d (j + i) l a = match PP s (lvl (pairAt s (skipTo s a)) + 1) (skipTo s a + (sg (pairAt s (skipTo s a))).size) d with
      | none => none
      | some (r, a2) => seqP s d (j + i) (l ++ r ++ [sgn (pairAt s (skipTo s a))]) a2 := by
  have hlt := pair_lt hp
  have h1 := skipTo_le ha
  induction i with
  | zero =>
    intro j hj hv _
    have hr := lvl_range (pairAt s (skipTo s a))
    match j, hj, hv with
    | 0, _, hv => omega
    | j + 1, hj, hv =>
      have hv' : lvl (pairAt s (skipTo s a)) = 5 - j := by omega
      have hlow : Low s a (6 - j) := .inr (by omega)
      obtain ⟨a1, h2, h3⟩ := seq_low s d j (l := l) hlow
      show seqP s d (j + 1) l a = _
      have e0 : seqP s d (j + 1) l a = loopP (PP s) s (5 - j) d (s.size + 1) l a := by
        conv => lhs; unfold seqP
        rw [h2]
        exact loop_skip s d h3 _
      rw [e0]
      unfold loopP
      have hf : findSign s (skipTo s a) (5 - j) = pairAt s (skipTo s a) := by
        rw [findSign_pair, if_pos ⟨hp, hv'⟩]
      have hsg : signAt s (skipTo s a) (5 - j) = skipTo s a + (sg (pairAt s (skipTo s a))).size := by unfold signAt; rw [hf]
      rw [hf, if_neg hp, hsg, hv']
      cases hP : PP s (5 - (j : Int) + 1) (skipTo s a + (sg (pairAt s (skipTo s a))).size) d with
      | none => rfl
      | some q =>
        obtain ⟨r, a2⟩ := q
        have h4 := advPP s _ _ _ _ _ hP
        have h5 : a2 ≤ s.size := h4.2 (by omega)
        have h6 := low_end s _ _ hlt.1 (Nat.le_refl _) _ _ _ _ (by omega) (by omega) hP
        rw [show (5 : Int) - j + 1 = 6 - j from by omega] at h6
        obtain ⟨a3, h7, h8⟩ := seq_low s d j (l := l ++ r ++ [sgn (pairAt s (skipTo s a))]) h6
        simp only
        have e1 : seqP s d (j + 1) (l ++ r ++ [sgn (pairAt s (skipTo s a))]) a2 = loopP (PP s) s (5 - j) d (s.size + 1) (l ++ r ++ [sgn (pairAt s (skipTo s a))]) a2 := by
          conv => lhs; unfold seqP
          rw [h7]
          exact loop_skip s d h8 _
        show loopP (PP s) s (5 - j) d s.size _ a2 = seqP s d (j + 1) _ a2
        rw [e1]
        exact fuelLoop s _ (by omega) d _ _ _ _ h5 (by omega) (by omega)
  | succ i ih =>
    intro j hj hv hji
    have h2 := ih j hj hv (by omega)
    show seqP s d (j + i + 1) l a = _
    have e0 : ∀ (l : List Nd) (a : Nat), seqP s d (j + i + 1) l a = match seqP s d (j + i) l a with | none => none | some (l', a') => loopP (PP s) s (5 - ((j + i : Nat) : Int)) d (s.size + 1) l' a' := fun l a => rfl
    rw [e0, h2]
    cases PP s (lvl (pairAt s (skipTo s a)) + 1) (skipTo s a + (sg (pairAt s (skipTo s a))).size) d with
    | none => rfl
    | some q => rfl
theorem same_loop {s : ByteArray} {d : Nat} (hd : d ≤ 6) {n : Nat} (hE : ∀ lev b, s.size - b < n → b ≤ s.size → (1 : Int) ≤ lev → lev ≤ 6 → settle s (PP s lev b d) = settle s (asP (CC s lev b d))) (j : Nat) (hj : j ≤ 5) :
    ∀ (m : Nat) (t : Tree) (a : Nat), m ≤ n → s.size - a ≤ m → a ≤ s.size → settle s (seqP s d j t.nodes a) = settle s (asP (loopC (CC s) s (6 - j) d (s.size - a + 1) t a)) := by
  intro m
  induction m with
  | zero =>
    intro t a _ hm ha
    have hae : a = s.size := by omega
    have h0 : pairAt s (skipTo s a) = 0 := by
      by_cases e : pairAt s (skipTo s a) = 0
      · exact e
      · have := (pair_lt e).2.2.2.2; have := (skipTo_le ha).1; omega
    obtain ⟨a', h1, h2⟩ := seq_low s d j (l := t.nodes) (a := a) (.inl h0)
    rw [h1]
    unfold loopC
    rw [if_pos (.inl h0)]
    simp only [asP, settle]
    rw [h2, skipTo_idem]
  | succ m ih =>
    intro t a hmn hm ha
    have h1 := skipTo_le ha
    by_cases hl : pairAt s (skipTo s a) = 0 ∨ lvl (pairAt s (skipTo s a)) < 6 - j
    · obtain ⟨a', h1, h2⟩ := seq_low s d j (l := t.nodes) (a := a) hl
      rw [h1]
      unfold loopC
      rw [if_pos hl]
      simp only [asP, settle]
      rw [h2, skipTo_idem]
    · have hp : pairAt s (skipTo s a) ≠ 0 := fun e => hl (.inl e)
      have hv : 6 - (j : Int) ≤ lvl (pairAt s (skipTo s a)) := by
        rcases Int.lt_or_le (lvl (pairAt s (skipTo s a))) (6 - j) with h | h
        · exact absurd (.inr h) hl
        · exact h
      have hr := lvl_range (pairAt s (skipTo s a))
      have hlt := pair_lt hp
      obtain ⟨jv, hjv⟩ : ∃ jv : Nat, (6 : Int) - jv = lvl (pairAt s (skipTo s a)) := ⟨(6 - lvl (pairAt s (skipTo s a))).toNat, by omega⟩
      obtain ⟨i, rfl⟩ : ∃ i, j = jv + i := ⟨j - jv, by omega⟩
      rw [seq_sign ha hp i jv (by omega) hjv hj]
      have e1 : loopC (CC s) s (6 - ((jv + i : Nat) : Int)) d (s.size - a + 1) t a = match CC s (lvl (pairAt s (skipTo s a)) + 1) (skipTo s a + (sg (pairAt s (skipTo s a))).size) d with | none => none | some (r, a') => loopC (CC s) s (6 - ((jv + i : Nat) : Int)) d (s.size - a' + 1) (.pair (pairAt s (skipTo s a)) t r) a' := by
        conv => lhs; unfold loopC
        rw [if_neg hl]
        cases hC : CC s (lvl (pairAt s (skipTo s a)) + 1) (skipTo s a + (sg (pairAt s (skipTo s a))).size) d with
        | none => rfl
        | some q =>
          obtain ⟨r, a'⟩ := q
          have h4 := advCC s _ _ _ _ _ hC
          simp only
          exact fuelLoopC s _ d _ _ _ _ (by omega) (by omega)
      rw [e1]
      have h2 := hE (lvl (pairAt s (skipTo s a)) + 1) (skipTo s a + (sg (pairAt s (skipTo s a))).size) (by omega) (by omega) (by omega) (by omega)
      change settle s (thenP (fun r a2 => seqP s d (jv + i) (t.nodes ++ r ++ [sgn (pairAt s (skipTo s a))]) a2) (PP s (lvl (pairAt s (skipTo s a)) + 1) (skipTo s a + (sg (pairAt s (skipTo s a))).size) d)) = settle s (asP (thenC (fun r a' => loopC (CC s) s (6 - ((jv + i : Nat) : Int)) d (s.size - a' + 1) (.pair (pairAt s (skipTo s a)) t r) a') (CC s (lvl (pairAt s (skipTo s a)) + 1) (skipTo s a + (sg (pairAt s (skipTo s a))).size) d)))
      refine same_then (b := skipTo s a + (sg (pairAt s (skipTo s a))).size) (fun t' a' hb hs => ih t' a' (by omega) (by omega) hs) (fun l a' hx => ?_) (fun r => t.nodes ++ r ++ [sgn (pairAt s (skipTo s a))]) (fun r => .pair (pairAt s (skipTo s a)) t r) (fun r => rfl) h2
      have h4 := advPP s _ _ _ _ _ hx
      exact ⟨h4.1, h4.2 (by omega)⟩
/-- CLIMBING IS READING LEVEL BY LEVEL. -/
theorem same_all (s : ByteArray) : ∀ (n : Nat) (lev : Int) (a d : Nat), s.size - a < n → a ≤ s.size → 1 ≤ lev → lev ≤ 6 → d ≤ 6 → settle s (PP s lev a d) = settle s (asP (CC s lev a d)) := by
  intro n
  induction n with
  | zero => intro lev a d hn; omega
  | succ n ih =>
    intro lev a d hn ha h1 h6 hd
    have hS : Same s a := fun lv b dd hb hs l1 l6 hdd => ih lv b dd (by omega) hs l1 l6 hdd
    obtain ⟨j, rfl⟩ : ∃ j : Nat, lev = 6 - j := ⟨(6 - lev).toNat, by omega⟩
    have hj : j ≤ 5 := by omega
    rw [PP_seq s ha j hj, CC_eq, PP_high s ha]
    change settle s (thenP (fun l a' => seqP s d j l a') (unaryP (PP s) s a d)) = settle s (asP (thenC (fun t a' => loopC (CC s) s (6 - j) d (s.size - a' + 1) t a') (aheadC (CC s) s d (s.size - a + 1) a)))
    refine same_then (b := a) (fun t' a' hb hs => same_loop hd (n := n) (fun lv b hb2 hs2 l1 l6 => ih lv b d hb2 hs2 l1 l6 hd) j hj n t' a' (Nat.le_refl _) (by omega) hs) (fun l a' hx => ?_) id id (fun t => rfl) (same_unary hS hd ha)
    have h4 := advP_unary (advPP s) hx
    exact ⟨h4.1, h4.2 ha⟩
/-- what the program reads of a text -/
def readC (s : ByteArray) : Option (List Nd) :=
  if 60 < s.size then none else match CC s 1 0 0 with
    | none => none
    | some (t, a) => if a < s.size then none else if 24 < t.nodes.length then none else some t.nodes
theorem readC_getM (s : ByteArray) : readC s = getM s := by
  rw [getM_free]
  unfold readC
  split
  · rfl
  · have e : sumP s (7 * s.size + 7) 1 0 0 = PP s 1 0 0 := rfl
    rw [e]
    have h := same_all s (s.size + 1) 1 0 0 (by omega) (by omega) (by decide) (by decide) (by decide)
    cases hC : CC s 1 0 0 with
    | none =>
      rw [hC] at h
      cases hP : PP s 1 0 0 with
      | none => rfl
      | some q =>
        obtain ⟨l, a⟩ := q
        rw [hP] at h
        simp only [settle, asP] at h
        split at h
        · rename_i hh
          have h2 := aln_no hh
          have h3 : skipTo s a < s.size := by
            rcases Nat.lt_or_ge (skipTo s a) s.size with h | h
            · exact h
            · exact absurd (bt_end s h) h2.2.2.2
          simp only
          rw [if_pos h3]
        · cases h
    | some p =>
      obtain ⟨t, a⟩ := p
      have h4 := CC_end hC
      rw [hC] at h
      cases hP : PP s 1 0 0 with
      | none =>
        rw [hP] at h
        simp only [settle, asP] at h
        rw [h4] at h
        split at h
        · rename_i hh
          have h2 := aln_no hh
          have h3 : a < s.size := by
            rcases Nat.lt_or_ge a s.size with h | h
            · exact h
            · exact absurd (bt_end s h) h2.2.2.2
          simp only
          rw [if_pos h3]
        · cases h
      | some q =>
        obtain ⟨l, a2⟩ := q
        rw [hP] at h
        simp only [settle, asP] at h
        rw [h4] at h
        simp only
        split at h
        · rename_i hh
          have h2 := aln_no hh
          have h3 : skipTo s a2 < s.size := by
            rcases Nat.lt_or_ge (skipTo s a2) s.size with h | h
            · exact h
            · exact absurd (bt_end s h) h2.2.2.2
          rw [if_pos h3]
          split at h
          · rename_i hh2
            have h2 := aln_no hh2
            have h3 : a < s.size := by
              rcases Nat.lt_or_ge a s.size with h | h
              · exact h
              · exact absurd (bt_end s h) h2.2.2.2
            rw [if_pos h3]
          · cases h
        · split at h
          · cases h
          · simp only [Option.some.injEq, Prod.mk.injEq] at h
            rw [h.1, h.2]
end Go.Proofs.YtcajjngjojegfaaGreatDoor
