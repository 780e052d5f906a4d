/- Climbing: its fuel; signs ahead; a single part. Plain. -/
import Derived.Test.YtnkeibahaiibpaaGreatDoorBunY15
import Derived.Test.YtnkeibahaiibpaaGreatDoorBunY12
namespace Go.Proofs.YtnkeibahaiibpaaGreatDoor
open Go Go.PlainAid
set_option linter.unusedSimpArgs false
set_option linter.unusedVariables false

theorem figF_le (s : ByteArray) (f : Nat) : ∀ a, a ≤ figF s f a ∧ (a ≤ s.size → figF s f a ≤ s.size) := by
  induction f with
  | zero => intro a; exact ⟨Nat.le_refl _, id⟩
  | succ f ih =>
    intro a
    unfold figF
    split
    · rename_i h; have := ih (a + 1); exact ⟨by omega, fun _ => this.2 (by omega)⟩
    · exact ⟨Nat.le_refl _, id⟩
def AdvC (s : ByteArray) (rec : Int → Nat → Nat → CR) : Prop := ∀ lev a d t a', rec lev a d = some (t, a') → a ≤ a' ∧ (a ≤ s.size → a' ≤ s.size)
theorem advC_single {s : ByteArray} {rec : Int → Nat → Nat → CR} (hr : AdvC s rec) {a d : Nat} {t : Tree} {a' : Nat} (h : singleC rec s a d = some (t, a')) : a ≤ a' ∧ (a ≤ s.size → a' ≤ s.size) := by
  unfold singleC at h
  split at h
  · cases h
  · split at h
    · rename_i hh
      split at h
      · cases h
      · split at h
        · cases h
        · rename_i t2 a2 hr2
          have h3 := hr _ _ _ _ _ hr2
          split at h
          · rename_i hp
            cases h
            have h4 := hasAt_lt hp
            have e : rpar.size = 1 := rfl
            exact ⟨by omega, fun _ => by omega⟩
          · cases h
    · split at h
      · unfold numberC at h
        split at h
        · cases h
        · cases h
          exact figF_le s _ a
      · split at h
        · cases h
          exact wordF_le s _ a
        · cases h
theorem advC_ahead {s : ByteArray} {rec : Int → Nat → Nat → CR} (hr : AdvC s rec) (d n : Nat) : ∀ {a : Nat} {t : Tree} {a' : Nat}, aheadC rec s d n a = some (t, a') → a ≤ a' ∧ (a ≤ s.size → a' ≤ s.size) := by
  induction n with
  | zero => intro a t a' h; cases h
  | succ n ih =>
    intro a t a' h
    have h1 := skipTo_mono s a
    unfold aheadC at h
    split at h
    · rename_i hb
      have h2 := bt_lt hb (by decide)
      split at h
      · cases h
      · rename_i t2 a2 h3
        cases h
        have := ih h3
        exact ⟨by omega, fun _ => this.2 (by omega)⟩
    · split at h
      · rename_i hb
        have h2 := bt_lt hb (by decide)
        split at h
        · cases h
        · rename_i t2 a2 h3
          cases h
          have := ih h3
          exact ⟨by omega, fun _ => this.2 (by omega)⟩
      · have := advC_single hr h
        exact ⟨by omega, fun ha => this.2 (skipTo_le ha).2⟩
theorem advC_loop {s : ByteArray} {rec : Int → Nat → Nat → CR} (hr : AdvC s rec) (least : Int) (d n : Nat) : ∀ {t : Tree} {a : Nat} {t' : Tree} {a' : Nat}, loopC rec s least d n t a = some (t', a') → a ≤ a' ∧ (a ≤ s.size → a' ≤ s.size) := by
  induction n with
  | zero => intro t a t' a' h; cases h
  | succ n ih =>
    intro t a t' a' h
    have h1 := skipTo_mono s a
    unfold loopC at h
    split at h
    · cases h; exact ⟨h1, fun ha => (skipTo_le ha).2⟩
    · rename_i hk
      have hk0 : pairAt s (skipTo s a) ≠ 0 := fun e => hk (.inl e)
      have h2 := pair_lt hk0
      split at h
      · cases h
      · rename_i r a2 h3
        have h4 := hr _ _ _ _ _ h3
        have h5 := ih h
        exact ⟨by omega, fun ha => h5.2 (h4.2 (by omega))⟩
theorem advC_climb (s : ByteArray) (f : Nat) : AdvC s (climbF s f) := by
  induction f with
  | zero => intro lev a d t a' h; cases h
  | succ f ih =>
    intro lev a d t a' h
    unfold climbF at h
    split at h
    · cases h
    · rename_i t2 a2 h2
      have h3 := advC_ahead ih _ _ h2
      have h4 := advC_loop ih _ _ _ h
      exact ⟨by omega, fun ha => h4.2 (h3.2 ha)⟩

def AgreeC (s : ByteArray) (a : Nat) (r1 r2 : Int → Nat → Nat → CR) : Prop := ∀ lev b d, a < b → b ≤ s.size → r1 lev b d = r2 lev b d
theorem agreeC_single {s : ByteArray} {a : Nat} {r1 r2 : Int → Nat → Nat → CR} (h : AgreeC s a r1 r2) (d : Nat) {a1 : Nat} (ha : a ≤ a1) : singleC r1 s a1 d = singleC r2 s a1 d := by
  unfold singleC
  split
  · rfl
  · split
    · rw [h 1 (a1 + 1) (d + 1) (by omega) (by omega)]
    · rfl
theorem agreeC_ahead {s : ByteArray} {a : Nat} {r1 r2 : Int → Nat → Nat → CR} (h : AgreeC s a r1 r2) (d n : Nat) : ∀ {a1 : Nat}, a ≤ a1 → aheadC r1 s d n a1 = aheadC r2 s d n a1 := by
  induction n with
  | zero => intro a1 _; rfl
  | succ n ih =>
    intro a1 ha
    have h1 := skipTo_mono s a1
    unfold aheadC
    rw [ih (show a ≤ skipTo s a1 + 1 by omega), agreeC_single h d (show a ≤ skipTo s a1 by omega)]
theorem agreeC_loop {s : ByteArray} {a : Nat} {r1 r2 : Int → Nat → Nat → CR} (h : AgreeC s a r1 r2) (hr : AdvC s r1) (least : Int) (d n : Nat) : ∀ (t : Tree) (b : Nat), a ≤ b → loopC r1 s least d n t b = loopC r2 s least d n t b := by
  induction n with
  | zero => intro t b _; rfl
  | succ n ih =>
    intro t b hb
    have h1 := skipTo_mono s b
    unfold loopC
    split
    · rfl
    · rename_i hk
      have hk0 : pairAt s (skipTo s b) ≠ 0 := fun e => hk (.inl e)
      have h2 := pair_lt hk0
      rw [← h (lvl (pairAt s (skipTo s b)) + 1) (skipTo s b + (sg (pairAt s (skipTo s b))).size) d (by omega) (by omega)]
      split
      · rfl
      · rename_i r a2 hr2
        have h5 := hr _ _ _ _ _ hr2
        exact ih _ _ (by omega)
theorem fuelC (s : ByteArray) (f : Nat) : ∀ (f' : Nat) (lev : Int) (a d : Nat), s.size - a < f → s.size - a < f' → climbF s f lev a d = climbF s f' lev a d := by
  induction f with
  | zero => intro f' lev a d hf; omega
  | succ f ih =>
    intro f' lev a d hf hf'
    match f', hf' with
    | 0, hf' => omega
    | f' + 1, hf' =>
      have hag : AgreeC s a (climbF s f) (climbF s f') := fun lv b dd hb hs => ih f' lv b dd (by omega) (by omega)
      unfold climbF
      rw [agreeC_ahead hag d _ (Nat.le_refl a)]
      split
      · rfl
      · rename_i t2 a2 h2
        have h3 := advC_ahead (advC_climb s f') _ _ h2
        exact agreeC_loop hag (advC_climb s f) lev d _ _ _ h3.1
/-- climbing, by as much fuel as it may want -/
def CC (s : ByteArray) (least : Int) (a d : Nat) : CR := climbF s (s.size - a + 1) least a d
theorem advCC (s : ByteArray) : AdvC s (CC s) := fun lev a d t a' h => advC_climb s _ lev a d t a' h
theorem CC_eq (s : ByteArray) (least : Int) (a d : Nat) : CC s least a d = match aheadC (CC s) s d (s.size - a + 1) a with | none => none | some (t, a') => loopC (CC s) s least d (s.size - a' + 1) t a' := by
  have hag : AgreeC s a (climbF s (s.size - a)) (CC s) := fun lv b dd hb hs => fuelC s _ _ lv b dd (by omega) (by omega)
  show climbF s (s.size - a + 1) least a d = _
  unfold climbF
  rw [agreeC_ahead hag d _ (Nat.le_refl a)]
  cases hP : aheadC (CC s) s d (s.size - a + 1) a with
  | none => rfl
  | some p =>
    obtain ⟨t2, a2⟩ := p
    have h3 := advC_ahead (advCC s) _ _ hP
    simp only
    exact agreeC_loop hag (advC_climb s _) least d _ _ _ h3.1
theorem fuelLoopC (s : ByteArray) (least : Int) (d n : Nat) : ∀ (m : Nat) (t : Tree) (a : Nat), s.size - a < n → s.size - a < m → loopC (CC s) s least d n t a = loopC (CC s) s least d m t a := by
  induction n with
  | zero => intro m t a hn hm; omega
  | succ n ih =>
    intro m t a hn hm
    match m, hm with
    | 0, hm => omega
    | m + 1, hm =>
      have h1 := skipTo_mono s a
      unfold loopC
      split
      · rfl
      · rename_i hk
        have hk0 : pairAt s (skipTo s a) ≠ 0 := fun e => hk (.inl e)
        have h2 := pair_lt hk0
        split
        · rfl
        · rename_i r a2 hr
          have h4 := advCC s _ _ _ _ _ hr
          exact ih m _ _ (by omega) (by omega)
/-- the loop looks only at what follows blanks -/
theorem loopC_skip (s : ByteArray) (least : Int) (d : Nat) (t : Tree) {a b : Nat} (h : skipTo s a = skipTo s b) : loopC (CC s) s least d (s.size - a + 1) t a = loopC (CC s) s least d (s.size - b + 1) t b := by
  rw [fuelLoopC s least d (s.size - a + 1) (s.size + 1) t a (by omega) (by omega), fuelLoopC s least d (s.size - b + 1) (s.size + 1) t b (by omega) (by omega)]
  unfold loopC
  rw [h]

/-! ### what comes out, but for what cannot go on -/
def settle (s : ByteArray) : PR → PR
  | none => none
  | some (l, a) => if alnB (bt s (skipTo s a)) then none else some (l, skipTo s a)
def asP : CR → PR
  | none => none
  | some (t, a) => some (t.nodes, a)
def appP (e : List Nd) : PR → PR
  | none => none
  | some (l, a) => some (l ++ e, a)
theorem settle_app {s : ByteArray} {x y : PR} (e : List Nd) (h : settle s x = settle s y) : settle s (appP e x) = settle s (appP e y) := by
  cases x with
  | none =>
    cases y with
    | none => rfl
    | some q =>
      obtain ⟨l, a⟩ := q
      simp only [settle, appP] at h ⊢
      split at h
      · rename_i hh; rw [if_pos hh]
      · cases h
  | some p =>
    obtain ⟨l, a⟩ := p
    cases y with
    | none =>
      simp only [settle, appP] at h ⊢
      split at h
      · rename_i hh; rw [if_pos hh]
      · cases h
    | some q =>
      obtain ⟨l2, a2⟩ := q
      simp only [settle, appP] at h ⊢
      split at h
      · rename_i hh
        split at h
        · rename_i h2; rw [if_pos hh, if_pos h2]
        · cases h
      · rename_i hh
        split at h
        · cases h
        · rename_i h2
          simp only [Option.some.injEq, Prod.mk.injEq] at h
          rw [if_neg hh, if_neg h2, h.1, h.2]

def wrapT : List Int → Tree → Tree
  | [], t => t
  | k :: r, t => .ahead k (wrapT r t)
theorem wrapT_nodes (ks : List Int) (t : Tree) : (wrapT ks t).nodes = t.nodes ++ ks.reverse.map sgn := by
  induction ks with
  | nil => simp [wrapT]
  | cons k r ih => simp [wrapT, Tree.nodes, ih]
theorem ahead_is (rec : Int → Nat → Nat → CR) (s : ByteArray) (d f : Nat) : ∀ a, s.size - a < f → aheadC rec s d f a = match singleC rec s (aheadF s f a).2 d with | none => none | some (t, a') => some (wrapT (aheadF s f a).1 t, a') := by
  induction f with
  | zero => intro a h; omega
  | succ f ih =>
    intro a h
    have h1 := skipTo_mono s a
    unfold aheadC aheadF
    split
    · rename_i hb
      have h2 := bt_lt hb (by decide)
      rw [ih _ (by omega)]
      simp only
      cases singleC rec s (aheadF s f (skipTo s a + 1)).2 d with
      | none => rfl
      | some p => rfl
    · split
      · rename_i hb
        have h2 := bt_lt hb (by decide)
        rw [ih _ (by omega)]
        simp only
        cases singleC rec s (aheadF s f (skipTo s a + 1)).2 d with
        | none => rfl
        | some p => rfl
      · simp only
        cases singleC rec s (skipTo s a) d with
        | none => rfl
        | some p => rfl
theorem aheadF_skip (s : ByteArray) (f : Nat) : ∀ a, s.size - a < f → skipTo s (aheadF s f a).2 = (aheadF s f a).2 := by
  induction f with
  | zero => intro a h; omega
  | succ f ih =>
    intro a h
    have h1 := skipTo_mono s a
    unfold aheadF
    split
    · rename_i hb
      have h2 := bt_lt hb (by decide)
      exact ih _ (by omega)
    · split
      · rename_i hb
        have h2 := bt_lt hb (by decide)
        exact ih _ (by omega)
      · exact skipTo_idem s a
end Go.Proofs.YtnkeibahaiibpaaGreatDoor

/- Climbing reads what reading level by level does: a single part, signs ahead, loops, all. Plain. -/
namespace Go.Proofs.YtnkeibahaiibpaaGreatDoor
open Go Go.PlainAid
set_option linter.unusedSimpArgs false
set_option linter.unusedVariables false

/-- both read the same at all places behind a -/
def Same (s : ByteArray) (a : Nat) : Prop := ∀ lev b d, a < b → b ≤ s.size → 1 ≤ lev → lev ≤ 6 → d ≤ 6 → settle s (PP s lev b d) = settle s (asP (CC s lev b d))

theorem loopC_end {s : ByteArray} {least : Int} {d n : Nat} : ∀ {t : Tree} {a : Nat} {t' : Tree} {a' : Nat}, loopC (CC s) s least d n t a = some (t', a') → skipTo s a' = a' := by
  induction n with
  | zero => intro t a t' a' h; cases h
  | succ n ih =>
    intro t a t' a' h
    unfold loopC at h
    split at h
    · cases h; exact skipTo_idem s a
    · split at h
      · cases h
      · exact ih h
theorem CC_end {s : ByteArray} {least : Int} {a d : Nat} {t : Tree} {a' : Nat} (h : CC s least a d = some (t, a')) : skipTo s a' = a' := by
  rw [CC_eq] at h
  split at h
  · cases h
  · exact loopC_end h
theorem aln_figure {n : Int} (h : figB n = true) : alnB n = true := by unfold alnB; simp [h]
theorem aln_no {n : Int} (h : alnB n = true) : n ≠ 32 ∧ n ≠ 40 ∧ n ≠ 41 ∧ n ≠ 0 := by
  unfold alnB letB figB at h
  simp at h
  omega
/-- figures are the head of a word -/
theorem fig_word (s : ByteArray) (f : Nat) : ∀ a, s.size - a ≤ f → figF s f a ≤ wordF s f a ∧ (∀ j, a ≤ j → j < figF s f a → figB (bt s j) = true) ∧ (figF s f a < wordF s f a → figB (bt s (figF s f a)) = false ∧ alnB (bt s (figF s f a)) = true) := by
  induction f with
  | zero => intro a _; exact ⟨Nat.le_refl _, fun j h1 h2 => by simp [figF] at h2; omega, fun h => by simp [figF, wordF] at h⟩
  | succ f ih =>
    intro a ha
    unfold figF wordF
    by_cases h : a < s.size ∧ figB (bt s a) = true
    · rw [if_pos h, if_pos ⟨h.1, aln_figure h.2⟩]
      obtain ⟨i1, i2, i3⟩ := ih (a + 1) (by omega)
      refine ⟨i1, fun j h1 h2 => ?_, i3⟩
      by_cases e : j = a
      · subst e; exact h.2
      · exact i2 j (by omega) h2
    · rw [if_neg h]
      refine ⟨?_, fun j h1 h2 => by omega, fun h2 => ?_⟩
      · split
        · have := (wordF_le s f (a + 1)).1; omega
        · omega
      · by_cases e : a < s.size ∧ alnB (bt s a) = true
        · refine ⟨?_, e.2⟩
          cases hf : figB (bt s a) with
          | false => rfl
          | true => exact absurd ⟨e.1, hf⟩ h
        · rw [if_neg e] at h2; omega
theorem figTo_all {w : ByteArray} : ∀ n, (∀ j, j < n → figB (bt w j) = true) → figTo w n = true := by
  intro n
  induction n with
  | zero => intro _; rfl
  | succ n ih => intro h; simp [figTo, ih (fun j hj => h j (by omega)), h n (by omega)]
theorem same_prim {s : ByteArray} {a : Nat} (hS : Same s a) {d : Nat} (hd : d ≤ 6) {a1 : Nat} (ha : a ≤ a1) (hs : a1 ≤ s.size) : settle s (primP (PP s) s a1 d) = settle s (asP (singleC (CC s) s (skipTo s a1) d)) := by
  have h1 := skipTo_le hs
  unfold primP singleC
  generalize skipTo s a1 = b at h1
  by_cases hb : s.size ≤ b
  · have hb0 : bt s b = 0 := bt_end s hb
    rw [if_pos hb, if_neg (by rw [lpar_at, hb0]; decide), if_neg (by rw [hb0]; decide)]
    have hw : wordTo s b = b := wordTo_stop (by omega)
    rw [hw]
    have he : nmB (s.extract b b) = false := by
      have : (s.extract b b).size = 0 := by rw [ByteArray.size_extract]; omega
      unfold nmB; rw [this]; rfl
    rw [he]; rfl
  rw [if_neg hb]
  by_cases h40 : bt s b = 40
  · rw [if_pos (by rw [lpar_at, h40]; decide), if_pos h40]
    by_cases h6 : d = 6
    · rw [if_pos (by omega), if_pos h6]; rfl
    rw [if_neg (by omega), if_neg h6]
    have h2 := hS 1 (b + 1) (d + 1) (by omega) (by omega) (by omega) (by omega) (by omega)
    cases hP : PP s 1 (b + 1) (d + 1) with
    | none =>
      cases hC : CC s 1 (b + 1) (d + 1) with
      | none => rfl
      | some q =>
        obtain ⟨t, a2⟩ := q
        rw [hP, hC] at h2
        simp only [settle, asP] at h2
        have h3 := CC_end hC
        rw [h3] at h2
        split at h2
        · rename_i hh
          have := aln_no hh
          simp only
          rw [if_neg (by rw [rpar_at]; simp; omega)]; rfl
        · cases h2
    | some p =>
      obtain ⟨l, a2⟩ := p
      simp only
      cases hC : CC s 1 (b + 1) (d + 1) with
      | none =>
        rw [hP, hC] at h2
        simp only [settle, asP] at h2
        split at h2
        · rename_i hh
          have := aln_no hh
          rw [if_neg (by rw [rpar_at]; simp; omega)]; rfl
        · cases h2
      | some q =>
        obtain ⟨t, a3⟩ := q
        rw [hP, hC] at h2
        simp only [settle, asP] at h2
        have h3 := CC_end hC
        rw [h3] at h2
        simp only
        split at h2
        · rename_i hh
          have := aln_no hh
          rw [if_neg (by rw [rpar_at]; simp; omega)]
          split at h2
          · rename_i hh2
            have := aln_no hh2
            rw [if_neg (by rw [rpar_at]; simp; omega)]; rfl
          · cases h2
        · split at h2
          · cases h2
          · simp only [Option.some.injEq, Prod.mk.injEq] at h2
            rw [h2.2]
            by_cases hp : hasAt s a3 rpar = true
            · rw [if_pos hp, if_pos hp]
              have : takeAt s a3 rpar = a3 + 1 := by unfold takeAt; rw [if_pos hp]; rfl
              rw [this, h2.1]; rfl
            · rw [if_neg hp, if_neg hp]; rfl
  rw [if_neg (by rw [lpar_at]; simp [h40]), if_neg h40]
  by_cases hf : figB (bt s b) = true
  · rw [if_pos hf, if_pos hf]
    obtain ⟨f1, f2, f3⟩ := fig_word s (s.size - b) b (Nat.le_refl _)
    have f4 := figF_le s (s.size - b) b
    have f5 := wordF_le s (s.size - b) b
    have e1 : figF s (s.size - b) b = figEnd s b := rfl
    have e2 : wordF s (s.size - b) b = wordTo s b := rfl
    rw [e1] at f1 f2 f3 f4
    rw [e2] at f1 f3 f5
    have hpos : b < figEnd s b := by
      rcases Nat.lt_or_ge b (figEnd s b) with h | h
      · exact h
      · have : figEnd s b = b := by omega
        rw [this] at f3
        by_cases e : b < wordTo s b
        · have := (f3 e).1; rw [hf] at this; cases this
        · have h2 : wordTo s b = wordTo s (b + 1) := wordTo_step (by omega) (aln_figure hf)
          have h3 := (wordF_le s (s.size - (b + 1)) (b + 1)).1
          have e3 : wordF s (s.size - (b + 1)) (b + 1) = wordTo s (b + 1) := rfl
          omega
    by_cases hlt : figEnd s b < wordTo s b
    · obtain ⟨g1, g2⟩ := f3 hlt
      have hno : numOf (s.extract b (wordTo s b)) = -1 := by
        unfold numOf
        rw [if_neg]
        unfold numOk
        have hsz : (s.extract b (wordTo s b)).size = wordTo s b - b := by rw [ByteArray.size_extract]; have := f5.2 h1.2; omega
        rw [figTo_no (k := figEnd s b - b) _ (by rw [hsz]; omega) (by
          rw [bt_extract s (f5.2 h1.2) (by omega), show b + (figEnd s b - b) = figEnd s b from by omega]; exact g1)]
        simp
      rw [hno, if_pos (by decide)]
      unfold numberC
      split
      · rfl
      · simp only [asP, settle]
        have hns := (aln_no g2).1
        rw [skipTo_stop (fun hh => hns hh.2), if_pos g2]
    · have heq : figEnd s b = wordTo s b := by omega
      have hsz : (s.extract b (wordTo s b)).size = wordTo s b - b := by rw [ByteArray.size_extract]; have := f5.2 h1.2; omega
      have hfig : figTo (s.extract b (wordTo s b)) (wordTo s b - b) = true := figTo_all _ (fun j hj => by
        rw [bt_extract s (f5.2 h1.2) (by omega)]; exact f2 _ (by omega) (by omega))
      have hb0 : bt (s.extract b (wordTo s b)) 0 = bt s b := by rw [bt_extract s (f5.2 h1.2) (by omega)]; rfl
      unfold numberC
      rw [heq]
      by_cases hc : 6 < wordTo s b - b ∨ (1 < wordTo s b - b ∧ bt s b = 48)
      · rw [if_pos hc]
        have hno : numOf (s.extract b (wordTo s b)) = -1 := by
          unfold numOf; rw [if_neg]
          unfold numOk; rw [hsz, hb0]; simp; omega
        rw [hno, if_pos (by decide)]; rfl
      · rw [if_neg hc]
        have hok : numOk (s.extract b (wordTo s b)) = true := by
          unfold numOk; rw [hsz, hb0, hfig]; simp; omega
        have hval : numOf (s.extract b (wordTo s b)) = numTo (s.extract b (wordTo s b)) (wordTo s b - b) := by
          unfold numOf; rw [if_pos hok, hsz]
        have hnn := (numTo_le hfig (by omega)).1
        rw [hval, if_neg (by omega)]; rfl
  · rw [if_neg hf, if_neg hf]
    by_cases hn : nmB (s.extract b (wordTo s b)) = true
    · rw [if_pos hn, if_pos hn]; rfl
    · rw [if_neg hn, if_neg hn]; rfl
theorem unary_app (rec : Int → Nat → Nat → PR) (s : ByteArray) (a d : Nat) : unaryP rec s a d = appP ((aheadF s (s.size - a + 1) a).1.reverse.map sgn) (primP rec s (aheadF s (s.size - a + 1) a).2 d) := by
  unfold unaryP
  have e : aheadTo s a = aheadF s (s.size - a + 1) a := rfl
  rw [e]
  cases primP rec s (aheadF s (s.size - a + 1) a).2 d <;> rfl
theorem same_unary {s : ByteArray} {a : Nat} (hS : Same s a) {d : Nat} (hd : d ≤ 6) (ha : a ≤ s.size) : settle s (unaryP (PP s) s a d) = settle s (asP (aheadC (CC s) s d (s.size - a + 1) a)) := by
  have h4 := aheadF_le s (s.size - a + 1) a
  have h5 := aheadF_skip s (s.size - a + 1) a (by omega)
  have h6 := same_prim hS hd h4.1 (h4.2 ha)
  rw [h5] at h6
  rw [ahead_is _ _ _ _ _ (by omega), unary_app, settle_app ((aheadF s (s.size - a + 1) a).1.reverse.map sgn) h6]
  cases singleC (CC s) s (aheadF s (s.size - a + 1) a).2 d with
  | none => rfl
  | some p => obtain ⟨t, a'⟩ := p; simp only [asP, appP, wrapT_nodes]

/-! ### levels, one behind the other -/
/-- what the loops of the levels 5 .. 6 - j read behind nodes -/
def seqP (s : ByteArray) (d : Nat) : Nat → List Nd → Nat → PR
  | 0, l, a => some (l, a)
  | j + 1, l, a => match seqP s d j l a with
    | none => none
    | some (l', a') => loopP (PP s) s (5 - j) d (s.size + 1) l' a'
theorem adv_seq (s : ByteArray) (d j : Nat) : ∀ {l : List Nd} {a : Nat} {l' : List Nd} {a' : Nat}, seqP s d j l a = some (l', a') → a ≤ a' ∧ (a ≤ s.size → a' ≤ s.size) := by
  induction j with
  | zero => intro l a l' a' h; cases h; exact ⟨Nat.le_refl _, id⟩
  | succ j ih =>
    intro l a l' a' h
    unfold seqP at h
    split at h
    · cases h
    · rename_i l2 a2 h2
      have h3 := ih h2
      have h4 := advP_loop (advPP s) _ _ _ h
      exact ⟨by omega, fun ha => h4.2 (h3.2 ha)⟩
theorem PP_seq (s : ByteArray) {a d : Nat} (ha : a ≤ s.size) (j : Nat) (hj : j ≤ 5) : PP s (6 - j) a d = match PP s 6 a d with | none => none | some (l, a') => seqP s d j l a' := by
  induction j with
  | zero =>
    show PP s (6 - (0 : Nat)) a d = _
    have e : (6 - ((0 : Nat) : Int)) = 6 := by decide
    rw [e]
    cases PP s 6 a d with
    | none => rfl
    | some p => rfl
  | succ j ih =>
    have e : (6 : Int) - ((j + 1 : Nat) : Int) = 5 - j := by omega
    rw [e, PP_low s ha (by omega) (by omega)]
    have e2 : (5 : Int) - j + 1 = 6 - j := by omega
    rw [e2, ih (by omega)]
    cases PP s 6 a d with
    | none => rfl
    | some p => rfl
/-- no sign stands there that binds so tightly -/
def Low (s : ByteArray) (a : Nat) (lev : Int) : Prop := pairAt s (skipTo s a) = 0 ∨ lvl (pairAt s (skipTo s a)) < lev
theorem low_skip {s : ByteArray} {a b : Nat} {lev : Int} (h : skipTo s a = skipTo s b) (hl : Low s a lev) : Low s b lev := by unfold Low at *; rw [← h]; exact hl
theorem low_find {s : ByteArray} {a : Nat} {lev : Int} (h : Low s a lev) : findSign s (skipTo s a) lev = 0 := by
  rw [findSign_pair, if_neg]
  rintro ⟨h1, h2⟩
  rcases h with h | h
  · exact h1 h
  · omega
theorem sign0 (s : ByteArray) {a : Nat} {lev : Int} (h : findSign s (skipTo s a) lev = 0) : signAt s (skipTo s a) lev = skipTo s a := by
  unfold signAt; rw [h]; rfl
theorem loop_low (s : ByteArray) (d : Nat) {lev : Int} {l : List Nd} {a : Nat} (h : Low s a lev) (n : Nat) : loopP (PP s) s lev d (n + 1) l a = some (l, skipTo s a) := by
  unfold loopP
  rw [if_pos (low_find h), sign0 s (low_find h)]
theorem seq_low (s : ByteArray) (d j : Nat) : ∀ {l : List Nd} {a : Nat}, Low s a (6 - j) → ∃ a', seqP s d j l a = some (l, a') ∧ skipTo s a' = skipTo s a := by
  induction j with
  | zero => intro l a _; exact ⟨a, rfl, rfl⟩
  | succ j ih =>
    intro l a h
    have h1 : Low s a (6 - j) := by
      rcases h with h | h
      · exact .inl h
      · exact .inr (by omega)
    obtain ⟨a', h2, h3⟩ := ih (l := l) h1
    have h4 : Low s a' (5 - j) := low_skip h3.symm (by
      rcases h with h | h
      · exact .inl h
      · exact .inr (by omega))
    refine ⟨skipTo s a', ?_, by rw [skipTo_idem, h3]⟩
    unfold seqP
    rw [h2]
    exact loop_low s d h4 _
theorem loop_skip (s : ByteArray) (d : Nat) {lev : Int} {l : List Nd} {a b : Nat} (h : skipTo s a = skipTo s b) (n : Nat) : loopP (PP s) s lev d (n + 1) l a = loopP (PP s) s lev d (n + 1) l b := by
  unfold loopP; rw [h]
theorem low_loop {s : ByteArray} {a0 : Nat} (hZ : ∀ lev b d l a', a0 < b → b ≤ s.size → 1 ≤ lev → lev ≤ 6 → PP s lev b d = some (l, a') → Low s a' lev) {lev : Int} (h1 : 1 ≤ lev) (h5 : lev ≤ 5) (d n : Nat) : ∀ {l : List Nd} {a : Nat} {l' : List Nd} {a' : Nat}, a0 ≤ a → a ≤ s.size → s.size - a < n → Low s a (lev + 1) → loopP (PP s) s lev d n l a = some (l', a') → Low s a' lev := by
  induction n with
  | zero => intro l a l' a' _ _ hn; omega
  | succ n ih =>
    intro l a l' a' ha hs hn hl h
    have h2 := skipTo_mono s a
    unfold loopP at h
    split at h
    · rename_i hf
      cases h
      rw [sign0 s hf]
      refine low_skip (a := a) (by rw [skipTo_idem]) ?_
      rw [findSign_pair] at hf
      rcases hl with hl | hl
      · exact .inl hl
      · by_cases hp : pairAt s (skipTo s a) = 0
        · exact .inl hp
        · right
          by_cases hq : lvl (pairAt s (skipTo s a)) = lev
          · rw [if_pos ⟨hp, hq⟩] at hf; exact absurd hf hp
          · omega
    · rename_i hf
      have h3 := findSign_lt hf
      have e : signAt s (skipTo s a) lev = skipTo s a + (sg (findSign s (skipTo s a) lev)).size := rfl
      split at h
      · cases h
      · rename_i r a2 hr
        have h4 := advPP s _ _ _ _ _ hr
        exact ih (by omega) (h4.2 (by omega)) (by omega) (hZ _ _ _ _ _ (by omega) (by omega) (by omega) (by omega) hr) h
theorem low_end (s : ByteArray) : ∀ (n a : Nat), a ≤ s.size → s.size - a ≤ n → ∀ (lev : Int) (d : Nat) (l : List Nd) (a' : Nat), 1 ≤ lev → lev ≤ 6 → PP s lev a d = some (l, a') → Low s a' lev := by
  intro n
  induction n with
  | zero =>
    intro a ha hn
    have hZ : ∀ lev b d l a', a < b → b ≤ s.size → (1 : Int) ≤ lev → lev ≤ 6 → PP s lev b d = some (l, a') → Low s a' lev := fun lev b d l a' h1 h2 => by omega
    have main : ∀ (j : Nat), j ≤ 5 → ∀ (d : Nat) (l : List Nd) (a' : Nat), PP s (6 - j) a d = some (l, a') → Low s a' (6 - j) := by
      intro j
      induction j with
      | zero => intro _ d l a' _; exact .inr (by have := lvl_range (pairAt s (skipTo s a')); omega)
      | succ j ih =>
        intro hj d l a' h
        have e : (6 : Int) - ((j + 1 : Nat) : Int) = 5 - j := by omega
        rw [e, PP_low s ha (by omega) (by omega), show (5 : Int) - j + 1 = 6 - j from by omega] at h
        rw [e]
        split at h
        · cases h
        · rename_i l2 a2 h2
          have h3 := advPP s _ _ _ _ _ h2
          exact low_loop hZ (by omega) (by omega) d _ h3.1 (h3.2 ha) (by omega) (by rw [show (5 : Int) - j + 1 = 6 - j from by omega]; exact ih (by omega) d l2 a2 h2) h
    intro lev d l a' h1 h6 h
    have := main (6 - lev).toNat (by omega) d l a' (by rw [show (6 : Int) - ((6 - lev).toNat : Int) = lev from by omega]; exact h)
    rw [show (6 : Int) - ((6 - lev).toNat : Int) = lev from by omega] at this
    exact this
  | succ n ihn =>
    intro a ha hn
    have hZ : ∀ lev b d l a', a < b → b ≤ s.size → (1 : Int) ≤ lev → lev ≤ 6 → PP s lev b d = some (l, a') → Low s a' lev := fun lev b d l a' h1 h2 h3 h4 h5 => ihn b h2 (by omega) lev d l a' h3 h4 h5
    have main : ∀ (j : Nat), j ≤ 5 → ∀ (d : Nat) (l : List Nd) (a' : Nat), PP s (6 - j) a d = some (l, a') → Low s a' (6 - j) := by
      intro j
      induction j with
      | zero => intro _ d l a' _; exact .inr (by have := lvl_range (pairAt s (skipTo s a')); omega)
      | succ j ih =>
        intro hj d l a' h
        have e : (6 : Int) - ((j + 1 : Nat) : Int) = 5 - j := by omega
        rw [e, PP_low s ha (by omega) (by omega), show (5 : Int) - j + 1 = 6 - j from by omega] at h
        rw [e]
        split at h
        · cases h
        · rename_i l2 a2 h2
          have h3 := advPP s _ _ _ _ _ h2
          exact low_loop hZ (by omega) (by omega) d _ h3.1 (h3.2 ha) (by omega) (by rw [show (5 : Int) - j + 1 = 6 - j from by omega]; exact ih (by omega) d l2 a2 h2) h
    intro lev d l a' h1 h6 h
    have := main (6 - lev).toNat (by omega) d l a' (by rw [show (6 : Int) - ((6 - lev).toNat : Int) = lev from by omega]; exact h)
    rw [show (6 : Int) - ((6 - lev).toNat : Int) = lev from by omega] at this
    exact this
end Go.Proofs.YtnkeibahaiibpaaGreatDoor

/- slices.Equal at nodes. -/
namespace Go.Proofs.YtnkeibahaiibpaaGreatDoor
open Go.RowKit Go.PlainAid
set_option linter.unusedSimpArgs false
set_option linter.unusedVariables false

set_option maxHeartbeats 800000 in
set_option maxRecDepth 100000 in
theorem eqNds_any (B : Nat) (a a' : Option Addr) (n n' cap cap' : Nat) (l l' : List Nd) (w : World) (hn : n ≤ 1048576) (hn' : n' ≤ 1048576) (hz : IsNds B w a n l) (hz' : IsNds B w a' n' l') :
    Calls Tryz.prog 233 #[.slice a n cap, .slice a' n' cap'] w fun e w' => e = .returned (.bool (decide (l = l'))) ∧ Below w.heap.size w w' := by
  obtain ⟨hlen, hcells⟩ := hz
  obtain ⟨hlen', hcells'⟩ := hz'
  obtain ⟨D, hD⟩ : ∃ D, decide (l = l') = D := ⟨_, rfl⟩
  have HD : Hid (decide (l = l') = D) := hD
  rw [hD]; clear hD
  by_cases hnn : n = n'
  · subst hnn
    go_enter Tryz.func233, Tryz.ntmps233
    go_wp2_with fail
    go_loopw [13] (fun i wr => ∃ k : Nat, k ≤ n ∧ i = .int .i64 k ∧ Hid (l.take k = l'.take k) ∧ Below w.heap.size w wr) (fun i _ => n - (intOf i).toNat)
    case atStart => exact ⟨0, Nat.zero_le _, rfl, by show _ = _; simp, Below.refl _ _⟩
    case round =>
      obtain ⟨k, hk, rfl, hdone, hbel⟩ := hrel
      by_cases hlt : k < n
      · rcases hcells with h0 | ⟨b, off, rfl, hb, hc⟩
        · omega
        rcases hcells' with h0 | ⟨b', off', rfl, hb', hc'⟩
        · omega
        have hkl : k < l.length := by omega
        have hkl' : k < l'.length := by omega
        obtain ⟨x0, x1, x2, hx⟩ : ∃ x0 x1 x2, l[k] = (x0, x1, x2) := ⟨_, _, _, rfl⟩
        obtain ⟨y0, y1, y2, hy⟩ : ∃ y0 y1 y2, l'[k] = (y0, y1, y2) := ⟨_, _, _, rfl⟩
        have hcx := hc k hkl
        have hcy := hc' k hkl'
        rw [hx] at hcx
        rw [hy] at hcy
        have hbw := World.block_lt_of_cell? w _ hcx.1
        have hbw' := World.block_lt_of_cell? w _ hcy.1
        have p0 := (hbel.cell (p := ⟨b, off + k * 3, none⟩) hbw).trans hcx.1
        have p1 := (hbel.cell (p := ⟨b, off + k * 3 + 1, none⟩) hbw).trans hcx.2.1
        have p2 := (hbel.cell (p := ⟨b, off + k * 3 + 1 + 1, none⟩) hbw).trans hcx.2.2
        have q0 := (hbel.cell (p := ⟨b', off' + k * 3, none⟩) hbw').trans hcy.1
        have q1 := (hbel.cell (p := ⟨b', off' + k * 3 + 1, none⟩) hbw').trans hcy.2.1
        have q2 := (hbel.cell (p := ⟨b', off' + k * 3 + 1 + 1, none⟩) hbw').trans hcy.2.2
        simp only at p0 p1 p2 q0 q1 q2
        have HT : Hid (l.take (k + 1) = l.take k ++ [(x0, x1, x2)] ∧ l'.take (k + 1) = l'.take k ++ [(y0, y1, y2)]) :=
          ⟨by rw [List.take_succ_eq_append_getElem hkl, hx], by rw [List.take_succ_eq_append_getElem hkl', hy]⟩
        clear hc hc' hcx hcy hx hy
        by_cases hxy : x0 = y0 ∧ x1 = y1 ∧ x2 = y2
        · obtain ⟨rfl, rfl, rfl⟩ := hxy
          go_wp2_with fail
          go_quiet (fail)
          go_wp2_with fail
          go_roundw
          case rel => exact ⟨k + 1, by omega, by go_num, by show _ = _; rw [HT.out.1, HT.out.2, hdone.out], drewN hbel _⟩
          case measure => simp [intOf]; omega
        · have HN : Hid (D = false) := by
            show D = false
            rw [← HD.out]; simp; intro h
            have h1 := HT.out.1
            have h2 := HT.out.2
            rw [h] at h1
            rw [h1] at h2
            have h3 := List.append_inj_right' h2 rfl
            simp at h3
            exact hxy h3
          by_cases h0 : x0 = y0
          · subst h0
            by_cases h1 : x1 = y1
            · subst h1
              have h2 : ¬ x2 = y2 := fun e => hxy ⟨rfl, rfl, e⟩
              have e2' : (x2.toList == y2.toList) = false := by
                simp only [beq_eq_false_iff_ne, ne_eq]
                intro e; exact h2 (by rw [Lib.toList_data, Lib.toList_data] at e; exact ByteArray.ext (Array.toList_inj.1 e))
              clear hxy h2
              go_wp2_with fail
              go_quiet (fail)
              go_wp2_with fail
              go_ret
              exact ⟨ret_bool HN.out.symm, drewN hbel _⟩
            · have e1 : (x1 == y1) = false := by simp [h1]
              clear hxy h1
              go_wp2_with fail
              go_quiet (fail)
              go_wp2_with fail
              go_ret
              exact ⟨ret_bool HN.out.symm, drewN hbel _⟩
          · have e0 : (x0 == y0) = false := by simp [h0]
            clear hxy h0
            go_wp2_with fail
            go_quiet (fail)
            go_wp2_with fail
            go_ret
            exact ⟨ret_bool HN.out.symm, drewN hbel _⟩
      · have : k = n := by omega
        subst this
        have HN : Hid (D = true) := by
          show D = true
          rw [← HD.out]
          have := hdone.out
          rw [List.take_of_length_le (by omega), List.take_of_length_le (by omega)] at this
          simp [this]
        go_wp2_with fail
        go_ret
        exact ⟨ret_bool HN.out.symm, hbel⟩
  · have hne : ((n : Int) != n') = true := by simp; omega
    have HN : Hid (D = false) := by
      show D = false
      rw [← HD.out]; simp; intro h; rw [h] at hlen; omega
    go_enter Tryz.func233, Tryz.ntmps233
    go_wp2_with fail
    go_ret
    exact ⟨ret_bool HN.out.symm, Below.refl _ _⟩
end Go.Proofs.YtnkeibahaiibpaaGreatDoor
