/- Climbing reads what reading level by level does: the program's reader is the model's. Plain. -/
import Derived.Test.YtchemhjcknkbgaaGreatDoorBunY13
import Derived.Test.YtchemhjcknkbgaaGreatDoorBunY0
import Derived.Deep.QuietTactic
import Derived.BigQuiet
import Derived.Test.YtchemhjcknkbgaaGreatDoorBunY14
import Derived.Test.YtchemhjcknkbgaaGreatDoorBunY5
import Derived.Deep.RegionHeld3
namespace Go.Proofs.YtchemhjcknkbgaaGreatDoor
open Go Go.PlainAid
set_option linter.unusedSimpArgs false
set_option linter.unusedVariables false

/-- where nothing can go on nothing does -/
theorem dead_seq {s : ByteArray} (d j : Nat) {l : List Nd} {a : Nat} (h : alnB (bt s (skipTo s a)) = true) : settle s (seqP s d j l a) = none := by
  have h0 : pairAt s (skipTo s a) = 0 := by
    by_cases e : pairAt s (skipTo s a) = 0
    · exact e
    · have := (pair_lt e).2.2.1; rw [h] at this; cases this
  obtain ⟨a', h1, h2⟩ := seq_low s d j (l := l) (a := a) (.inl h0)
  rw [h1]
  simp only [settle]
  rw [h2, if_pos h]
theorem dead_loop {s : ByteArray} (least : Int) (d : Nat) {t : Tree} {a : Nat} (h : alnB (bt s (skipTo s a)) = true) : settle s (asP (loopC (CC s) s least d (s.size - a + 1) t a)) = none := by
  have h0 : pairAt s (skipTo s a) = 0 := by
    by_cases e : pairAt s (skipTo s a) = 0
    · exact e
    · have := (pair_lt e).2.2.1; rw [h] at this; cases this
  unfold loopC
  rw [if_pos (.inl h0)]
  simp only [asP, settle]
  rw [skipTo_idem, if_pos h]
def thenP (k : List Nd → Nat → PR) : PR → PR
  | none => none
  | some (l, a) => k l a
def thenC (k : Tree → Nat → CR) : CR → CR
  | none => none
  | some (t, a) => k t a
/-- loops behind what comes to the same come to the same -/
theorem same_then {s : ByteArray} {d j : Nat} {b : Nat} (hM : ∀ (t : Tree) (a : Nat), b ≤ a → a ≤ s.size → settle s (seqP s d j t.nodes a) = settle s (asP (loopC (CC s) s (6 - j) d (s.size - a + 1) t a)))
    {x : PR} {y : CR} (hx : ∀ l a, x = some (l, a) → b ≤ a ∧ a ≤ s.size) (f : List Nd → List Nd) (g : Tree → Tree) (hfg : ∀ t, (g t).nodes = f t.nodes) (h : settle s x = settle s (asP y)) :
    settle s (thenP (fun l a => seqP s d j (f l) a) x) = settle s (asP (thenC (fun t a => loopC (CC s) s (6 - j) d (s.size - a + 1) (g t) a) y)) := by
  cases x with
  | none =>
    cases y with
    | none => rfl
    | some q =>
      obtain ⟨t, a⟩ := q
      simp only [settle, asP] at h
      split at h
      · rename_i hh
        simp only [thenP, thenC]
        rw [dead_loop _ _ hh]; rfl
      · cases h
  | some p =>
    obtain ⟨l, a⟩ := p
    have ha := hx l a rfl
    cases y with
    | none =>
      simp only [settle, asP] at h
      split at h
      · rename_i hh
        simp only [thenP, thenC]
        rw [dead_seq _ _ hh]; rfl
      · cases h
    | some q =>
      obtain ⟨t, a2⟩ := q
      simp only [settle, asP] at h
      simp only [thenP, thenC]
      split at h
      · rename_i hh
        split at h
        · rename_i h2
          rw [dead_seq _ _ hh, dead_loop _ _ h2]
        · cases h
      · split at h
        · cases h
        · simp only [Option.some.injEq, Prod.mk.injEq] at h
          rw [h.1, ← hfg, hM (g t) a ha.1 ha.2, loopC_skip s _ d (g t) h.2]
/-- a sign that binds tightly enough is taken, and the loops go on behind it -/
theorem seq_sign {s : ByteArray} {d : Nat} {l : List Nd} {a : Nat} (ha : a ≤ s.size) (hp : pairAt s (skipTo s a) ≠ 0) (i : Nat) : ∀ (j : Nat), j ≤ 5 → (6 : Int) - j = lvl (pairAt s (skipTo s a)) → j + i ≤ 5 →
    seqP s d (j + i) l a = match PP s (lvl (pairAt s (skipTo s a)) + 1) (skipTo s a + (sg (pairAt s (skipTo s a))).size) d with
      | none => none
      | some (r, a2) => seqP s d (j + i) (l ++ r ++ [sgn (pairAt s (skipTo s a))]) a2 := by
  have hlt := pair_lt hp
  have h1 := skipTo_le ha
  induction i with
  | zero =>
    intro j hj hv _
    have hr := lvl_range (pairAt s (skipTo s a))
    match j, hj, hv with
    | 0, _, hv => omega
    | j + 1, hj, hv =>
      have hv' : lvl (pairAt s (skipTo s a)) = 5 - j := by omega
      have hlow : Low s a (6 - j) := .inr (by omega)
      obtain ⟨a1, h2, h3⟩ := seq_low s d j (l := l) hlow
      show seqP s d (j + 1) l a = _
      have e0 : seqP s d (j + 1) l a = loopP (PP s) s (5 - j) d (s.size + 1) l a := by
        conv => lhs; unfold seqP
        rw [h2]
        exact loop_skip s d h3 _
      rw [e0]
      unfold loopP
      have hf : findSign s (skipTo s a) (5 - j) = pairAt s (skipTo s a) := by
        rw [findSign_pair, if_pos ⟨hp, hv'⟩]
      have hsg : signAt s (skipTo s a) (5 - j) = skipTo s a + (sg (pairAt s (skipTo s a))).size := by unfold signAt; rw [hf]
      rw [hf, if_neg hp, hsg, hv']
      cases hP : PP s (5 - (j : Int) + 1) (skipTo s a + (sg (pairAt s (skipTo s a))).size) d with
      | none => rfl
      | some q =>
        obtain ⟨r, a2⟩ := q
        have h4 := advPP s _ _ _ _ _ hP
        have h5 : a2 ≤ s.size := h4.2 (by omega)
        have h6 := low_end s _ _ hlt.1 (Nat.le_refl _) _ _ _ _ (by omega) (by omega) hP
        rw [show (5 : Int) - j + 1 = 6 - j from by omega] at h6
        obtain ⟨a3, h7, h8⟩ := seq_low s d j (l := l ++ r ++ [sgn (pairAt s (skipTo s a))]) h6
        simp only
        have e1 : seqP s d (j + 1) (l ++ r ++ [sgn (pairAt s (skipTo s a))]) a2 = loopP (PP s) s (5 - j) d (s.size + 1) (l ++ r ++ [sgn (pairAt s (skipTo s a))]) a2 := by
          conv => lhs; unfold seqP
          rw [h7]
          exact loop_skip s d h8 _
        show loopP (PP s) s (5 - j) d s.size _ a2 = seqP s d (j + 1) _ a2
        rw [e1]
        exact fuelLoop s _ (by omega) d _ _ _ _ h5 (by omega) (by omega)
  | succ i ih =>
    intro j hj hv hji
    have h2 := ih j hj hv (by omega)
    show seqP s d (j + i + 1) l a = _
    have e0 : ∀ (l : List Nd) (a : Nat), seqP s d (j + i + 1) l a = match seqP s d (j + i) l a with | none => none | some (l', a') => loopP (PP s) s (5 - ((j + i : Nat) : Int)) d (s.size + 1) l' a' := fun l a => rfl
    rw [e0, h2]
    cases PP s (lvl (pairAt s (skipTo s a)) + 1) (skipTo s a + (sg (pairAt s (skipTo s a))).size) d with
    | none => rfl
    | some q => rfl
theorem same_loop {s : ByteArray} {d : Nat} (hd : d ≤ 6) {n : Nat} (hE : ∀ lev b, s.size - b < n → b ≤ s.size → (1 : Int) ≤ lev → lev ≤ 6 → settle s (PP s lev b d) = settle s (asP (CC s lev b d))) (j : Nat) (hj : j ≤ 5) :
    ∀ (m : Nat) (t : Tree) (a : Nat), m ≤ n → s.size - a ≤ m → a ≤ s.size → settle s (seqP s d j t.nodes a) = settle s (asP (loopC (CC s) s (6 - j) d (s.size - a + 1) t a)) := by
  intro m
  induction m with
  | zero =>
    intro t a _ hm ha
    have hae : a = s.size := by omega
    have h0 : pairAt s (skipTo s a) = 0 := by
      by_cases e : pairAt s (skipTo s a) = 0
      · exact e
      · have := (pair_lt e).2.2.2.2; have := (skipTo_le ha).1; omega
    obtain ⟨a', h1, h2⟩ := seq_low s d j (l := t.nodes) (a := a) (.inl h0)
    rw [h1]
    unfold loopC
    rw [if_pos (.inl h0)]
    simp only [asP, settle]
    rw [h2, skipTo_idem]
  | succ m ih =>
    intro t a hmn hm ha
    have h1 := skipTo_le ha
    by_cases hl : pairAt s (skipTo s a) = 0 ∨ lvl (pairAt s (skipTo s a)) < 6 - j
    · obtain ⟨a', h1, h2⟩ := seq_low s d j (l := t.nodes) (a := a) hl
      rw [h1]
      unfold loopC
      rw [if_pos hl]
      simp only [asP, settle]
      rw [h2, skipTo_idem]
    · have hp : pairAt s (skipTo s a) ≠ 0 := fun e => hl (.inl e)
      have hv : 6 - (j : Int) ≤ lvl (pairAt s (skipTo s a)) := by
        rcases Int.lt_or_le (lvl (pairAt s (skipTo s a))) (6 - j) with h | h
        · exact absurd (.inr h) hl
        · exact h
      have hr := lvl_range (pairAt s (skipTo s a))
      have hlt := pair_lt hp
      obtain ⟨jv, hjv⟩ : ∃ jv : Nat, (6 : Int) - jv = lvl (pairAt s (skipTo s a)) := ⟨(6 - lvl (pairAt s (skipTo s a))).toNat, by omega⟩
      obtain ⟨i, rfl⟩ : ∃ i, j = jv + i := ⟨j - jv, by omega⟩
      rw [seq_sign ha hp i jv (by omega) hjv hj]
      have e1 : loopC (CC s) s (6 - ((jv + i : Nat) : Int)) d (s.size - a + 1) t a = match CC s (lvl (pairAt s (skipTo s a)) + 1) (skipTo s a + (sg (pairAt s (skipTo s a))).size) d with | none => none | some (r, a') => loopC (CC s) s (6 - ((jv + i : Nat) : Int)) d (s.size - a' + 1) (.pair (pairAt s (skipTo s a)) t r) a' := by
        conv => lhs; unfold loopC
        rw [if_neg hl]
        cases hC : CC s (lvl (pairAt s (skipTo s a)) + 1) (skipTo s a + (sg (pairAt s (skipTo s a))).size) d with
        | none => rfl
        | some q =>
          obtain ⟨r, a'⟩ := q
          have h4 := advCC s _ _ _ _ _ hC
          simp only
          exact fuelLoopC s _ d _ _ _ _ (by omega) (by omega)
      rw [e1]
      have h2 := hE (lvl (pairAt s (skipTo s a)) + 1) (skipTo s a + (sg (pairAt s (skipTo s a))).size) (by omega) (by omega) (by omega) (by omega)
      change settle s (thenP (fun r a2 => seqP s d (jv + i) (t.nodes ++ r ++ [sgn (pairAt s (skipTo s a))]) a2) (PP s (lvl (pairAt s (skipTo s a)) + 1) (skipTo s a + (sg (pairAt s (skipTo s a))).size) d)) = settle s (asP (thenC (fun r a' => loopC (CC s) s (6 - ((jv + i : Nat) : Int)) d (s.size - a' + 1) (.pair (pairAt s (skipTo s a)) t r) a') (CC s (lvl (pairAt s (skipTo s a)) + 1) (skipTo s a + (sg (pairAt s (skipTo s a))).size) d)))
      refine same_then (b := skipTo s a + (sg (pairAt s (skipTo s a))).size) (fun t' a' hb hs => ih t' a' (by omega) (by omega) hs) (fun l a' hx => ?_) (fun r => t.nodes ++ r ++ [sgn (pairAt s (skipTo s a))]) (fun r => .pair (pairAt s (skipTo s a)) t r) (fun r => rfl) h2
      have h4 := advPP s _ _ _ _ _ hx
      exact ⟨h4.1, h4.2 (by omega)⟩
/-- CLIMBING IS READING LEVEL BY LEVEL. -/
theorem same_all (s : ByteArray) : ∀ (n : Nat) (lev : Int) (a d : Nat), s.size - a < n → a ≤ s.size → 1 ≤ lev → lev ≤ 6 → d ≤ 6 → settle s (PP s lev a d) = settle s (asP (CC s lev a d)) := by
  intro n
  induction n with
  | zero => intro lev a d hn; omega
  | succ n ih =>
    intro lev a d hn ha h1 h6 hd
    have hS : Same s a := fun lv b dd hb hs l1 l6 hdd => ih lv b dd (by omega) hs l1 l6 hdd
    obtain ⟨j, rfl⟩ : ∃ j : Nat, lev = 6 - j := ⟨(6 - lev).toNat, by omega⟩
    have hj : j ≤ 5 := by omega
    rw [PP_seq s ha j hj, CC_eq, PP_high s ha]
    change settle s (thenP (fun l a' => seqP s d j l a') (unaryP (PP s) s a d)) = settle s (asP (thenC (fun t a' => loopC (CC s) s (6 - j) d (s.size - a' + 1) t a') (aheadC (CC s) s d (s.size - a + 1) a)))
    refine same_then (b := a) (fun t' a' hb hs => same_loop hd (n := n) (fun lv b hb2 hs2 l1 l6 => ih lv b d hb2 hs2 l1 l6 hd) j hj n t' a' (Nat.le_refl _) (by omega) hs) (fun l a' hx => ?_) id id (fun t => rfl) (same_unary hS hd ha)
    have h4 := advP_unary (advPP s) hx
    exact ⟨h4.1, h4.2 ha⟩
/-- what the program reads of a text -/
def readC (s : ByteArray) : Option (List Nd) :=
  if 60 < s.size then none else match CC s 1 0 0 with
    | none => none
    | some (t, a) => if a < s.size then none else if 24 < t.nodes.length then none else some t.nodes
theorem readC_getM (s : ByteArray) : readC s = getM s := by
  rw [getM_free]
  unfold readC
  split
  · rfl
  · have e : sumP s (7 * s.size + 7) 1 0 0 = PP s 1 0 0 := rfl
    rw [e]
    have h := same_all s (s.size + 1) 1 0 0 (by omega) (by omega) (by decide) (by decide) (by decide)
    cases hC : CC s 1 0 0 with
    | none =>
      rw [hC] at h
      cases hP : PP s 1 0 0 with
      | none => rfl
      | some q =>
        obtain ⟨l, a⟩ := q
        rw [hP] at h
        simp only [settle, asP] at h
        split at h
        · rename_i hh
          have h2 := aln_no hh
          have h3 : skipTo s a < s.size := by
            rcases Nat.lt_or_ge (skipTo s a) s.size with h | h
            · exact h
            · exact absurd (bt_end s h) h2.2.2.2
          simp only
          rw [if_pos h3]
        · cases h
    | some p =>
      obtain ⟨t, a⟩ := p
      have h4 := CC_end hC
      rw [hC] at h
      cases hP : PP s 1 0 0 with
      | none =>
        rw [hP] at h
        simp only [settle, asP] at h
        rw [h4] at h
        split at h
        · rename_i hh
          have h2 := aln_no hh
          have h3 : a < s.size := by
            rcases Nat.lt_or_ge a s.size with h | h
            · exact h
            · exact absurd (bt_end s h) h2.2.2.2
          simp only
          rw [if_pos h3]
        · cases h
      | some q =>
        obtain ⟨l, a2⟩ := q
        rw [hP] at h
        simp only [settle, asP] at h
        rw [h4] at h
        simp only
        split at h
        · rename_i hh
          have h2 := aln_no hh
          have h3 : skipTo s a2 < s.size := by
            rcases Nat.lt_or_ge (skipTo s a2) s.size with h | h
            · exact h
            · exact absurd (bt_end s h) h2.2.2.2
          rw [if_pos h3]
          split at h
          · rename_i hh2
            have h2 := aln_no hh2
            have h3 : a < s.size := by
              rcases Nat.lt_or_ge a s.size with h | h
              · exact h
              · exact absurd (bt_end s h) h2.2.2.2
            rw [if_pos h3]
          · cases h
        · split at h
          · cases h
          · simp only [Option.some.injEq, Prod.mk.injEq] at h
            rw [h.1, h.2]
end Go.Proofs.YtchemhjcknkbgaaGreatDoor

/- The program's reader: what is left of a text, and how many parentheses are open; blanks. -/
namespace Go.Proofs.YtchemhjcknkbgaaGreatDoor
open Go Go.RowKit Go.PlainAid
set_option linter.unusedSimpArgs false
set_option linter.unusedVariables false

/-- what is left of a text from a place on -/
def tl (s : ByteArray) (a : Nat) : ByteArray := s.extract a s.size
theorem tl_size (s : ByteArray) (a : Nat) : (tl s a).size = s.size - a := by unfold tl; rw [ByteArray.size_extract]; omega
theorem tl_zero (s : ByteArray) : tl s 0 = s := by
  unfold tl
  exact ByteArray.extract_zero_size
theorem extract_extract' (s : ByteArray) (a b i j : Nat) (hb : b ≤ s.size) (hj : a + j ≤ b) : (s.extract a b).extract i j = s.extract (a + i) (a + j) := by
  apply ByteArray.ext
  apply Array.ext
  · show ((s.extract a b).extract i j).size = (s.extract (a + i) (a + j)).size
    rw [ByteArray.size_extract, ByteArray.size_extract, ByteArray.size_extract]; omega
  · intro k h1 h2
    have h1' : k < ((s.extract a b).extract i j).size := h1
    have h2' : k < (s.extract (a + i) (a + j)).size := h2
    show ((s.extract a b).extract i j)[k] = (s.extract (a + i) (a + j))[k]
    rw [ByteArray.getElem_extract, ByteArray.getElem_extract, ByteArray.getElem_extract]
    congr 1
    omega
theorem tl_tl (s : ByteArray) {a n : Nat} (h : a + n ≤ s.size) : (tl s a).extract n (s.size - a) = tl s (a + n) := by
  unfold tl
  rw [extract_extract' s a s.size n (s.size - a) (Nat.le_refl _) (by omega)]
  congr 1
  omega
theorem tl_bt (s : ByteArray) (a k : Nat) : bt (tl s a) k = bt s (a + k) := by
  rcases Nat.lt_or_ge (a + k) s.size with h | h
  · exact bt_extract s (Nat.le_refl _) h
  · rw [bt_end s h, bt_end _ (by rw [tl_size]; omega)]

theorem ret_txt {a b : ByteArray} (h : a = b) : Ending.returned (.string a) = .returned (.string b) := by rw [h]
theorem empty_of {x : ByteArray} (h : x.size = 0) : x = ⟨#[]⟩ := by
  apply ByteArray.ext
  apply Array.eq_empty_of_size_eq_zero
  exact h

set_option maxHeartbeats 400000 in
theorem trimLeftByte_any (s : ByteArray) (a : Nat) (w : World) (hs : s.size ≤ 1048576) (ha : a ≤ s.size) : Calls Tryz.prog 250 #[.string (tl s a), .int .u8 32] w fun e w' => e = .returned (.string (tl s (skipTo s a))) ∧ w' = w := by
  go_enter Tryz.func250, Tryz.ntmps250
  go_wp2
  go_loop [0] (fun v => ∃ k : Nat, k ≤ s.size ∧ v = .string (tl s k) ∧ Hid (skipTo s k = skipTo s a)) (fun v => match v with | .string x => x.size | _ => 0)
  case atStart => exact ⟨a, ha, rfl, rfl⟩
  case round =>
    obtain ⟨k, hk, rfl, HK⟩ := hrel
    have hsz := tl_size s k
    have hb := get_bt (tl s k)
    have hb0 := tl_bt s k 0
    rw [Nat.add_zero] at hb0
    by_cases hlt : k < s.size
    · have hpos : 0 < (tl s k).size := by omega
      by_cases h32 : bt s k = 32
      · have HK1 : Hid (skipTo s (k + 1) = skipTo s a) := by
          show skipTo s (k + 1) = _
          rw [← skipTo_step hlt h32]; exact HK.out
        have ht : Hid ((tl s k).extract 1 (s.size - k) = tl s (k + 1)) := tl_tl s (a := k) (n := 1) (by omega)
        rw [h32] at hb0
        generalize tl s k = x at *
        go_wp2
        go_round
        case rel => exact ⟨k + 1, by omega, by rw [← ht.out, ← hsz], HK1.out⟩
        case measure => simp; omega
      · have hne : (bt (tl s k) 0 == 32) = false := by rw [hb0]; simp [h32]
        have HD : Hid (tl s k = tl s (skipTo s a)) := by
          show tl s k = _
          rw [← HK.out, skipTo_stop (fun h => h32 h.2)]
        generalize tl s k = x at *
        go_wp2
        go_ret
        exact ⟨ret_txt HD.out, rfl⟩
    · have hz : (tl s k).size = 0 := by omega
      have HD : Hid (tl s k = tl s (skipTo s a)) := by
        show tl s k = _
        rw [← HK.out, skipTo_stop (by omega)]
      generalize tl s k = x at *
      go_wp2
      go_ret
      exact ⟨ret_txt HD.out, rfl⟩
set_option maxRecDepth 100000 in
theorem trimLeft_any (s : ByteArray) (a : Nat) (w : World) (hs : s.size ≤ 1048576) (ha : a ≤ s.size) : Calls Tryz.prog 231 #[.string (tl s a), .string ⟨#[32]⟩] w fun e w' => e = .returned (.string (tl s (skipTo s a))) ∧ w' = w := by
  by_cases h0 : (tl s a).size = 0
  · have hD : tl s (skipTo s a) = tl s a := by rw [skipTo_stop (by rw [tl_size] at h0; omega)]
    rw [hD, empty_of h0]
    go_enter Tryz.func231, Tryz.ntmps231
    go_wp2
    go_ret
    exact ⟨rfl, rfl⟩
  · have HT := fun w => trimLeftByte_any s a w hs ha
    obtain ⟨x, hx⟩ : ∃ x, tl s a = x := ⟨_, rfl⟩
    rw [hx] at h0 HT ⊢
    have HT' : Hid (∀ w, Calls Tryz.prog 250 #[.string x, .int .u8 32] w fun e w' => e = .returned (.string (tl s (skipTo s a))) ∧ w' = w) := HT
    clear HT hx
    have hl : ¬ x.toList = [] := by
      intro h
      rw [Lib.toList_data] at h
      apply h0
      show x.data.size = 0
      rw [← Array.length_toList, h]; rfl
    have he : x.toList.isEmpty = false := by simpa using hl
    have hb := get_bt ⟨#[32]⟩
    have hb2 : bt ⟨#[32]⟩ 0 = 32 := by decide
    go_enter Tryz.func231, Tryz.ntmps231
    go_wp2_with (go_at_call 250; refine (HT'.out _).mono ?_; rintro e w' ⟨rfl, rfl⟩)
    go_ret
    exact ⟨rfl, rfl⟩

/-- the reader in memory -/
structure RdI (w : World) (p : Nat) (s : ByteArray) (a d : Nat) : Prop where
  c0 : w.cell? ⟨p, 0, none⟩ = some (.string (tl s a))
  c1 : w.cell? ⟨p, 1, none⟩ = some (.int .i64 d)
  fz : ∀ j, w.frozen? ⟨p, j, none⟩ = false
theorem RdI.lt {w : World} {p : Nat} {s : ByteArray} {a d : Nat} (h : RdI w p s a d) : p < w.heap.size := World.block_lt_of_cell? w _ h.c0
theorem RdI.at {w : World} {p : Nat} {s : ByteArray} {a d : Nat} (h : RdI w p s a d) (b : Nat) : RdI (w.setCell ⟨p, 0, none⟩ (.string (tl s b))) p s b d :=
  ⟨World.cell?_setCell_same _ _ _ h.c0, by rw [World.cell?_setCell_other _ _ _ _ (by intro hh; injection hh with _ h2; omega)]; exact h.c1, fun j => by simpa using h.fz j⟩
theorem RdI.op {w : World} {p : Nat} {s : ByteArray} {a d : Nat} (h : RdI w p s a d) (e : Nat) : RdI (w.setCell ⟨p, 1, none⟩ (.int .i64 e)) p s a e :=
  ⟨by rw [World.cell?_setCell_other _ _ _ _ (by intro hh; injection hh with _ h2; omega)]; exact h.c0, World.cell?_setCell_same _ _ _ h.c1, fun j => by simpa using h.fz j⟩
theorem RdI.drewN {w : World} {p : Nat} {s : ByteArray} {a d : Nat} (h : RdI w p s a d) (n : Nat) : RdI (w.drewN n) p s a d := ⟨h.c0, h.c1, h.fz⟩
theorem skip_rd (p : Nat) (s : ByteArray) (a d n : Nat) (w : World) (h : RdI w p s a d) (hs : s.size ≤ 1048576) (ha : a + n ≤ s.size) :
    Calls Tryz.prog 184 #[.pointer (some ⟨p, 0, none⟩), .int .i64 n] w fun e w' => e = .returned (.tuple #[]) ∧ w' = w.setCell ⟨p, 0, none⟩ (.string (tl s (a + n))) := by
  obtain ⟨c0, c1, fz⟩ := h
  have f0 := fz 0
  have hsz := tl_size s a
  have ht : Hid ((tl s a).extract n (s.size - a) = tl s (a + n)) := tl_tl s ha
  generalize tl s a = x at *
  clear fz
  go_enter Tryz.func184, Tryz.ntmps184
  go_wp2
  go_end0
  exact ⟨rfl, by rw [← ht.out, ← hsz]⟩
theorem skipBlanks_rd (p : Nat) (s : ByteArray) (a d : Nat) (w : World) (h : RdI w p s a d) (hs : s.size ≤ 1048576) (ha : a ≤ s.size) :
    Calls Tryz.prog 210 #[.pointer (some ⟨p, 0, none⟩)] w fun e w' => e = .returned (.tuple #[]) ∧ w' = w.setCell ⟨p, 0, none⟩ (.string (tl s (skipTo s a))) := by
  obtain ⟨c0, c1, fz⟩ := h
  have f0 := fz 0
  have HT : Hid (∀ w, Calls Tryz.prog 231 #[.string (tl s a), .string ⟨#[32]⟩] w fun e w' => e = .returned (.string (tl s (skipTo s a))) ∧ w' = w) := fun w => trimLeft_any s a w hs ha
  generalize tl s a = x at *
  clear fz
  go_enter Tryz.func210, Tryz.ntmps210
  go_wp2_with (go_at_call 231; refine (HT.out _).mono ?_; rintro e w' ⟨rfl, hw'⟩; rw [hw']; clear hw' w')
  go_end0
  exact ⟨rfl, rfl⟩
end Go.Proofs.YtchemhjcknkbgaaGreatDoor

/- The program's reader: signs, words. -/
namespace Go.Proofs.YtchemhjcknkbgaaGreatDoor
open Go Go.RowKit Go.PlainAid
set_option linter.unusedSimpArgs false
set_option linter.unusedVariables false

theorem slitePrefix_any (s g : ByteArray) (a : Nat) (w : World) (hs : s.size ≤ 1048576) (hg : g.size ≤ 1048576) (ha : a ≤ s.size) : Calls Tryz.prog 232 #[.string (tl s a), .string g] w fun e w' => e = .returned (.bool (hasAt s a g)) ∧ w' = w := by
  have hsz := tl_size s a
  by_cases hl : g.size ≤ s.size - a
  · have HE : Hid (((tl s a).extract 0 g.size).toList = (s.extract a (a + g.size)).toList) := by
      show ((tl s a).extract 0 g.size).toList = _
      unfold tl
      rw [extract_extract' s a s.size 0 g.size (Nat.le_refl _) (by omega), Nat.add_zero]
    have HH : Hid (hasAt s a g = ((s.extract a (a + g.size)).toList == g.toList)) := by
      show hasAt s a g = _
      unfold hasAt
      rw [decide_eq_true (by omega), Bool.true_and]
    generalize tl s a = x at *
    go_enter Tryz.func232, Tryz.ntmps232
    go_wp2
    go_ret
    exact ⟨ret_bool (by rw [HH.out, HE.out]), rfl⟩
  · have HH : hasAt s a g = false := by
      unfold hasAt
      rw [decide_eq_false (by omega), Bool.false_and]
    rw [HH]
    generalize tl s a = x at *
    go_enter Tryz.func232, Tryz.ntmps232
    go_wp2
    go_ret
    exact ⟨rfl, rfl⟩
theorem hasPrefix_any (s g : ByteArray) (a : Nat) (w : World) (hs : s.size ≤ 1048576) (hg : g.size ≤ 1048576) (ha : a ≤ s.size) : Calls Tryz.prog 211 #[.string (tl s a), .string g] w fun e w' => e = .returned (.bool (hasAt s a g)) ∧ w' = w := by
  go_enter Tryz.func211, Tryz.ntmps211
  go_wp2_with (go_at_call 232; refine (slitePrefix_any _ _ _ _ hs hg ha).mono ?_; rintro e w' ⟨rfl, rfl⟩)
  go_ret
  exact ⟨rfl, rfl⟩

/-- how a sign is written, those ahead too -/
def sgI (k : Nat) : ByteArray := if k = 3 then ⟨#[45]⟩ else if k = 4 then ⟨#[33]⟩ else sg k
/-- how tightly it binds -/
def tgI (k : Nat) : Int := if k = 3 ∨ k = 4 then 6 else if 5 ≤ k then lvl k else 0
/-- the program's table of signs, in memory -/
def Signs (w : World) : Prop := ∀ k, k < 14 → w.cell? ⟨0, k * 2, none⟩ = some (.string (sgI k)) ∧ w.cell? ⟨0, k * 2 + 1, none⟩ = some (.int .i64 (tgI k))
theorem Signs.lt {w : World} (h : Signs w) : 0 < w.heap.size := World.block_lt_of_cell? w _ (h 0 (by omega)).1
theorem Signs.mv {p : Nat} {w w' : World} (h : Signs w) (hp : p ≠ 0) (hm : Mv p w w') : Signs w' := fun k hk => by
  have hb := hm.block 0 h.lt (Ne.symm hp)
  exact ⟨(World.cell?_of_block (w := w) hb).trans (h k hk).1, (World.cell?_of_block (w := w) hb).trans (h k hk).2⟩
theorem sgI_size (k : Nat) : (sgI k).size ≤ 2 := by
  unfold sgI
  split
  · decide
  · split
    · decide
    · exact sg_size k

theorem pairAt_none {s : ByteArray} {a : Nat} (h : ∀ j, 5 ≤ j → j < 14 → hasAt s a (sg j) = false) : pairAt s a = 0 := by
  by_cases e : pairAt s a = 0
  · exact e
  · have := pairAt_is e
    rw [h _ this.1.1 (by omega)] at this
    cases this.2

set_option maxHeartbeats 800000 in
theorem nextPair_rd (p : Nat) (s : ByteArray) (a d : Nat) (w : World) (hp : p ≠ 0) (h : RdI w p s a d) (hg : Signs w) (hs : s.size ≤ 1048576) (ha : a ≤ s.size) :
    Calls Tryz.prog 183 #[.pointer (some ⟨p, 0, none⟩)] w fun e w' => e = .returned (.tuple #[.int .i64 (pairAt s (skipTo s a)), .bool (!(pairAt s (skipTo s a) == 0))]) ∧ RdI w' p s (skipTo s a) d ∧ Mv p w w' := by
  have H : Hid (RdI w p s a d) := h
  have HG : Hid (Signs w) := hg
  have hsk := (skipTo_le ha).2
  obtain ⟨b, hb⟩ : ∃ b, skipTo s a = b := ⟨_, rfl⟩
  rw [hb] at hsk ⊢
  have HB : Hid (skipTo s a = b) := hb
  clear h hg hb
  go_enter Tryz.func183, Tryz.ntmps183
  go_wp2_with fail
  refine (skipBlanks_rd p s a d w H.out hs ha).mono ?_
  rintro e w1 ⟨rfl, hw1⟩
  rw [HB.out] at hw1
  have H1 : Hid (RdI w1 p s b d) := by rw [hw1]; exact H.out.at b
  have M1 : Hid (Mv p w w1) := by rw [hw1]; exact (Mv.refl p w).cell _ _
  have G1 : Hid (Signs w1) := HG.out.mv hp M1.out
  clear hw1
  go_wp2_with fail
  go_loopw [4] (fun i wr => ∃ k : Nat, 5 ≤ k ∧ k ≤ 14 ∧ i = .int .i64 k ∧ Hid (∀ j, 5 ≤ j → j < k → hasAt s b (sg j) = false) ∧ Hid (RdI wr p s b d) ∧ Hid (Mv p w wr)) (fun i _ => 14 - (intOf i).toNat)
  case atStart => exact ⟨5, by omega, by omega, rfl, fun j h1 h2 => by omega, H1.out, M1.out⟩
  case round =>
    obtain ⟨k, hk5, hk14, rfl, HN, HR, HM⟩ := hrel
    by_cases hlt : k < 14
    · have c0 := HR.out.c0
      obtain ⟨g0, g1⟩ := HG.out.mv hp HM.out k hlt
      have hsg : sgI k = sg k := by unfold sgI; rw [if_neg (by omega), if_neg (by omega)]
      rw [hsg] at g0
      have hsz : (sg k).size ≤ 1048576 := by have := sg_size k; omega
      have HP : Hid (∀ w, Calls Tryz.prog 211 #[.string (tl s b), .string (sg k)] w fun e w' => e = .returned (.bool (hasAt s b (sg k))) ∧ w' = w) := fun w => hasPrefix_any s (sg k) b w hs hsz hsk
      have HKK : Hid (hasAt s b (sg k) = true → pairAt s b = k) := fun h => pairAt_yes ⟨hk5, by omega⟩ h
      clear hsg g1 hsz
      cases hh : hasAt s b (sg k)
      · rw [hh] at HP
        go_wp2_with fail
        go_quiet ((go_at_call 211; exact Calls.quiet_of_same (HP.out _)))
        go_wp2_with fail
        go_roundw
        case rel => exact ⟨k + 1, by omega, by omega, by go_num, fun j h1 h2 => by
            rcases Nat.lt_or_ge j k with h3 | h3
            · exact HN.out j h1 h3
            · have : j = k := by omega
              subst this; exact hh, HR.out.drewN _, HM.out.drewN _⟩
        case measure => simp [intOf]; omega
      · rw [hh] at HP
        have hpk := HKK.out hh
        go_wp2_with fail
        go_quiet ((go_at_call 211; exact Calls.quiet_of_same (HP.out _)))
        go_wp2_with fail
        go_ret2
        exact ⟨by rw [hpk]; simp; omega, HR.out.drewN _, HM.out.drewN _⟩
    · have hpk : pairAt s b = 0 := pairAt_none (fun j h1 h2 => HN.out j h1 (by omega))
      go_wp2_with fail
      go_ret2
      exact ⟨by rw [hpk]; rfl, HR.out, HM.out⟩
end Go.Proofs.YtchemhjcknkbgaaGreatDoor

/- The law's marks in texts. -/
namespace Go.Proofs.YtchemhjcknkbgaaGreatDoor
open Go Go.RowKit Go.PlainAid
set_option linter.unusedSimpArgs false
set_option linter.unusedVariables false

def mtF : Nat → Int → ByteArray → ByteArray
  | 0, _, out => out
  | f + 1, k, out => if 0 < k then mtF f (k / 10) (dig (k % 10) ++ out) else out
/-- a mark's text -/
def mtx (k : Int) : ByteArray := ⟨#[109]⟩ ++ mtF 12 k ⟨#[]⟩
theorem mtF_zero (f : Nat) {k : Int} (out : ByteArray) (h : k ≤ 0) : mtF f k out = out := by
  cases f with
  | zero => rfl
  | succ f => unfold mtF; rw [if_neg (by omega)]

set_option maxHeartbeats 800000 in
set_option maxRecDepth 100000 in
theorem markText_any (k : Int) (w : World) (h0 : 0 < k) (h1 : k < 1000000000000) : Calls Tryz.prog 49 #[.int .i64 k] w fun e w' => e = .returned (.string (mtx k)) ∧ Below w.heap.size w w' := by
  obtain ⟨M, hM⟩ : ∃ M, mtx k = M := ⟨_, rfl⟩
  have HM : Hid (mtx k = M) := hM
  rw [hM]
  clear hM
  go_enter Tryz.func49, Tryz.ntmps49
  go_wp2_with fail
  go_loopw [0, 3] (fun v o wr => ∃ (q : Int) (f : Nat) (out : ByteArray), v = .int .i64 q ∧ o = .string out ∧ 0 ≤ q ∧ q < 10 ^ f ∧ f + out.size ≤ 12 ∧ Hid (mtF 12 k ⟨#[]⟩ = mtF f q out) ∧ Below w.heap.size w wr) (fun v _ _ => (intOf v).toNat)
  case atStart => exact ⟨k, 12, ⟨#[]⟩, rfl, rfl, by omega, by simpa using h1, by decide, rfl, Below.refl _ _⟩
  case round =>
    obtain ⟨q, f, out, rfl, rfl, hq0, hq1, hf, HF, hbel⟩ := hrel
    have hqq : q < 1000000000000 := by
      have : (10 : Int) ^ f ≤ 10 ^ 12 := by exact_mod_cast Nat.pow_le_pow_right (by decide : 0 < 10) (show f ≤ 12 by omega)
      have e : (10 : Int) ^ 12 = 1000000000000 := by decide
      omega
    by_cases hlt : 0 < q
    · obtain ⟨g, rfl⟩ : ∃ g, f = g + 1 := ⟨f - 1, by
        cases f with
        | zero => simp at hq1; omega
        | succ f => rfl⟩
      obtain ⟨d, hd⟩ : ∃ d, q / 10 = d := ⟨_, rfl⟩
      obtain ⟨r, hr⟩ : ∃ r, q % 10 = r := ⟨_, rfl⟩
      have t1 : q.tdiv 10 = d := by rw [Int.tdiv_eq_ediv_of_nonneg hq0]; exact hd
      have t2 : q.tmod 10 = r := by rw [Int.tmod_eq_emod_of_nonneg hq0]; exact hr
      have hcv := conv_dig r (by omega) (by omega)
      have HN : Hid (mtF 12 k ⟨#[]⟩ = mtF g d (dig r ++ out)) := by
        show mtF 12 k ⟨#[]⟩ = _
        rw [HF.out, mtF, if_pos hlt, hd, hr]
      have hd1 : d < 10 ^ g := by
        rw [Int.pow_succ] at hq1
        rw [← hd]
        exact Int.ediv_lt_of_lt_mul (by decide) hq1
      have HD : Hid (d < 10 ^ g) := hd1
      have hdz : (dig r).size = 1 := rfl
      have hz9 : (dig r).size + out.size ≤ 9223372036854775807 := by omega
      have hz10 : (dig r ++ out).size = 1 + out.size := by rw [ByteArray.size_append, hdz]
      have hm1 : 0 ≤ r := by omega
      have hm2 : r < 10 := by omega
      have hd2 : 0 ≤ d := by omega
      have hd3 : d < q := by omega
      have p1 : IntKind.i64.wrap d = d := IntWalk.i64_in _ ⟨by omega, by omega⟩
      have p2 : IntKind.i64.wrap (48 + r) = 48 + r := IntWalk.i64_in _ ⟨by omega, by omega⟩
      have p3 : IntKind.u8.wrap (48 + r) = 48 + r := IntWalk.u8_in _ ⟨by omega, by omega⟩
      have p4 : IntKind.i64.wrap r = r := IntWalk.i64_in _ ⟨by omega, by omega⟩
      clear hd hr hq1 hd1 HF
      go_wp2_with fail
      go_roundw
      case rel => exact ⟨d, g, dig r ++ out, rfl, rfl, hd2, HD.out, by omega, HN, hbel.alloc hbel.size _⟩
      case measure => simp [intOf]; omega
    · have HE : Hid (⟨#[109]⟩ ++ out = M) := by
        show (⟨#[109]⟩ : ByteArray) ++ out = M
        rw [← HM.out]; unfold mtx; rw [HF.out, mtF_zero f out (by omega)]
      have e1 : (⟨#[109]⟩ : ByteArray).size = 1 := rfl
      clear hq1
      go_wp2_with fail
      go_ret
      exact ⟨ret_str HE.out, hbel⟩

end Go.Proofs.YtchemhjcknkbgaaGreatDoor

/- The law's marks in lists of plain structs, and what is held of texts and numbers. -/
namespace Go.Proofs.YtchemhjcknkbgaaGreatDoor
open Go Go.RowKit Go.PlainAid
set_option linter.unusedSimpArgs false
set_option linter.unusedVariables false

set_option maxHeartbeats 1600000 in
set_option maxRecDepth 100000 in
theorem markStringS_kp (b n cap : Nat) (k : Int) (w : World) (h : Open b (n) w) (hl : n ≤ 100000000) (hk0 : 0 < k) (hk1 : k ≤ 10000000000) :
    Calls Tryz.prog 12 #[.slice (some ⟨b, 0, none⟩) n cap, .int .i64 k] w fun e w' => e = .returned (.int .i64 (k + n)) ∧ Mv b w w' ∧ Keep b w w' ∧ ∀ i : Nat, i < n → w'.cell? ⟨b, i, none⟩ = some (.string (mtx (k + i))) := by
  have HO := hidOf h
  clear h
  go_enter Tryz.func12, Tryz.ntmps12
  go_wp2_with fail
  go_loopw [1, 5] (fun q i wr => ∃ m : Nat, m ≤ n ∧ i = .int .i64 m ∧ q = .int .i64 (k + m) ∧ Hid (Open b (n) wr) ∧ Mv b w wr ∧ Hid (Keep b w wr) ∧ Hid (∀ i : Nat, i < m → wr.cell? ⟨b, i, none⟩ = some (.string (mtx (k + i))))) (fun _ i _ => n - (intOf i).toNat)
  case atStart => exact ⟨0, Nat.zero_le _, rfl, by simp, HO, Mv.refl _ _, Keep.refl _ _, fun i hi => absurd hi (Nat.not_lt_zero _)⟩
  case round =>
    obtain ⟨m, hm, rfl, rfl, HC, hbel, HKP, HK⟩ := hrel
    have p0 : IntKind.i64.wrap (k + m + 1) = k + m + 1 := IntWalk.i64_in _ ⟨by omega, by omega⟩
    by_cases hlt : m < n
    · have hbs := HC.out.1
      have HMT0 : Hid (∀ w, Calls Tryz.prog 49 #[.int .i64 (k + m)] w fun e w' => e = .returned (.string (mtx (k + m))) ∧ Below w.heap.size w w') := fun w => markText_any _ w (by omega) (by omega)
      go_wp2_with fail
      refine (HMT0.out wr).mono ?_
      rintro e w0 ⟨rfl, b0⟩
      have HO0 := hidOf (HC.out.below b0)
      have HM0 : Hid (Mv b w w0) := hbel.trans (Mv.of_below b0)
      have HKP0 : Hid (Keep b w w0) := HKP.out.trans (Keep.below b0)
      have HK0 : Hid (∀ i : Nat, i < m → w0.cell? ⟨b, i, none⟩ = some (.string (mtx (k + i)))) := fun i hi => (b0.cell (p := ⟨b, i, none⟩) HC.out.1).trans (HK.out i hi)
      have hbs0 := HO0.out.1
      clear b0
      obtain ⟨⟨x0, c0⟩, f0⟩ := HO0.out.2 (m) (by omega)
      go_wp2_with fail
      go_roundw
      case rel => exact ⟨m + 1, by omega, by go_num, congrArg (Value.int IntKind.i64) (by push_cast; omega), (HO0.out.set _ _ (by omega)), (HM0.out.cell _ _), (HKP0.out.trans (Keep.cell _ _ _ _)), by
          intro i hi
          by_cases e : i = m
          · subst e; exact World.cell?_setCell_same _ _ _ c0
          · rw [setCell_ne _ _ _ _ _ (fun h => e h.symm)]; exact HK0.out i (by omega)⟩
      case measure => simp [intOf]; omega
    · have : m = n := by omega
      subst this
      go_wp2_with fail
      go_ret
      exact ⟨rfl, hbel, HKP.out, HK.out⟩

set_option maxHeartbeats 1600000 in
set_option maxRecDepth 100000 in
theorem heldStringS_any (b n cap : Nat) (k : Int) (w : World) (h : n = 0 ∨ (b < w.heap.size ∧ ∀ i : Nat, i < n → w.cell? ⟨b, i, none⟩ = some (.string (mtx (k + i))))) (a : Option Addr) (ha : n = 0 ∨ a = some ⟨b, 0, none⟩) (hl : n ≤ 100000000) (hk0 : 0 < k) (hk1 : k ≤ 10000000000) :
    Calls Tryz.prog 13 #[.slice a n cap, .int .i64 k] w fun e w' => e = .returned (.int .i64 (k + n)) ∧ Below w.heap.size w w' := by
  go_enter Tryz.func13, Tryz.ntmps13
  go_wp2_with fail
  go_loopw [1, 5] (fun q i wr => ∃ m : Nat, m ≤ n ∧ i = .int .i64 m ∧ q = .int .i64 (k + m) ∧ Below w.heap.size w wr) (fun _ i _ => n - (intOf i).toNat)
  case atStart => exact ⟨0, Nat.zero_le _, rfl, by simp, Below.refl _ _⟩
  case round =>
    obtain ⟨m, hm, rfl, rfl, hbel⟩ := hrel
    have p0 : IntKind.i64.wrap (k + m + 1) = k + m + 1 := IntWalk.i64_in _ ⟨by omega, by omega⟩
    by_cases hlt : m < n
    · rcases h with h0 | ⟨hb, hc⟩
      · omega
      rcases ha with h0 | rfl
      · omega
      have c0 := (hbel.cell (p := ⟨b, m, none⟩) hb).trans (hc m hlt)
      have hbr : b < wr.heap.size := by have := hbel.size; omega
      have HMT : Hid (∀ w, Calls Tryz.prog 49 #[.int .i64 (k + m)] w fun e w' => e = .returned (.string (mtx (k + m))) ∧ Below w.heap.size w w') := fun w => markText_any _ w (by omega) (by omega)
      clear hc
      generalize mtx (k + (m : Int)) = mt at *
      go_wp2_with fail
      go_region_held3 (fun w' => w'.cell? ⟨b, m, none⟩ = some (.string mt)) (simp [go_sem, *])
        (first | (go_at_call 49; refine (HMT.out _).mono ?_; rintro e w' ⟨rfl, hb1⟩; replace hb1 := undrew hb1; obtain ⟨hc1, hf1⟩ := bcell hb1))
      go_wp2_with fail
      go_roundw
      case rel => exact ⟨m + 1, by omega, by go_num, congrArg (Value.int IntKind.i64) (by push_cast; omega), hbel.trans (hb1.mono hbel.size)⟩
      case measure => simp [intOf]; omega
    · have : m = n := by omega
      subst this
      go_wp2_with fail
      go_ret
      exact ⟨rfl, hbel⟩
end Go.Proofs.YtchemhjcknkbgaaGreatDoor
