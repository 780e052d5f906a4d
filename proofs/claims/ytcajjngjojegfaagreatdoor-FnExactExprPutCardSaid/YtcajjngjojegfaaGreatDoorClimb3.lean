/- Climbing: its fuel; signs ahead; a single part. Plain. -/
import Derived.Test.YtcajjngjojegfaaGreatDoorClimb2
namespace Go.Proofs.YtcajjngjojegfaaGreatDoor
open Go Go.PlainAid
set_option linter.unusedSimpArgs false
set_option linter.unusedVariables false

theorem figF_le (s : ByteArray) (f : Nat) : ∀ a, a ≤ figF s f a ∧ (a ≤ s.size → figF s f a ≤ s.size) := by
  induction f with
  | zero => intro a; exact ⟨Nat.le_refl _, id⟩
  | succ f ih =>
    intro a
    unfold figF
    split
    · rename_i h; have := ih (a + 1); exact ⟨by omega, fun _ => this.2 (by omega)⟩
    · exact ⟨Nat.le_refl _, id⟩
def AdvC (s : ByteArray) (rec : Int → Nat → Nat → CR) : Prop := ∀ lev a d t a', rec lev a d = some (t, a') → a ≤ a' ∧ (a ≤ s.size → a' ≤ s.size)
theorem advC_single {s : ByteArray} {rec : Int → Nat → Nat → CR} (hr : AdvC s rec) {a d : Nat} {t : Tree} {a' : Nat} (h : singleC rec s a d = some (t, a')) : a ≤ a' ∧ (a ≤ s.size → a' ≤ s.size) := by
  unfold singleC at h
  split at h
  · cases h
  · split at h
    · rename_i hh
      split at h
      · cases h
      · split at h
        · cases h
        · rename_i t2 a2 hr2
          have h3 := hr _ _ _ _ _ hr2
          split at h
          · rename_i hp
            cases h
            have h4 := hasAt_lt hp
            have e : rpar.size = 1 := rfl
            exact ⟨by omega, fun _ => by omega⟩
          · cases h
    · split at h
      · unfold numberC at h
        split at h
        · cases h
        · cases h
          exact figF_le s _ a
      · split at h
        · cases h
          exact wordF_le s _ a
        · cases h
theorem advC_ahead {s : ByteArray} {rec : Int → Nat → Nat → CR} (hr : AdvC s rec) (d n : Nat) : ∀ {a : Nat} {t : Tree} {a' : Nat}, aheadC rec s d n a = some (t, a') → a ≤ a' ∧ (a ≤ s.size → a' ≤ s.size) := by
  induction n with
  | zero => intro a t a' h; cases h
  | succ n ih =>
    intro a t a' h
    have h1 := skipTo_mono s a
    unfold aheadC at h
    split at h
    · rename_i hb
      have h2 := bt_lt hb (by decide)
      split at h
      · cases h
      · rename_i t2 a2 h3
        cases h
        have := ih h3
        exact ⟨by omega, fun _ => this.2 (by omega)⟩
    · split at h
      · rename_i hb
        have h2 := bt_lt hb (by decide)
        split at h
        · cases h
        · rename_i t2 a2 h3
          cases h
          have := ih h3
          exact ⟨by omega, fun _ => this.2 (by omega)⟩
      · have := advC_single hr h
        exact ⟨by omega, fun ha => this.2 (skipTo_le ha).2⟩
theorem advC_loop {s : ByteArray} {rec : Int → Nat → Nat → CR} (hr : AdvC s rec) (least : Int) (d n : Nat) : ∀ {t : Tree} {a : Nat} {t' : Tree} {a' : Nat}, loopC rec s least d n t a = some (t', a') → a ≤ a' ∧ (a ≤ s.size → a' ≤ s.size) := by
  induction n with
  | zero => intro t a t' a' h; cases h
  | succ n ih =>
    intro t a t' a' h
    have h1 := skipTo_mono s a
    unfold loopC at h
    split at h
    · cases h; exact ⟨h1, fun ha => (skipTo_le ha).2⟩
    · rename_i hk
      have hk0 : pairAt s (skipTo s a) ≠ 0 := fun e => hk (.inl e)
      have h2 := pair_lt hk0
      split at h
      · cases h
      · rename_i r a2 h3
        have h4 := hr _ _ _ _ _ h3
        have h5 := ih h
        exact ⟨by omega, fun ha => h5.2 (h4.2 (by omega))⟩
theorem advC_climb (s : ByteArray) (f : Nat) : AdvC s (climbF s f) := by
  induction f with
  | zero => intro lev a d t a' h; cases h
  | succ f ih =>
    intro lev a d t a' h
    unfold climbF at h
    split at h
    · cases h
    · rename_i t2 a2 h2
      have h3 := advC_ahead ih _ _ h2
      have h4 := advC_loop ih _ _ _ h
      exact ⟨by omega, fun ha => h4.2 (h3.2 ha)⟩

def AgreeC (s : ByteArray) (a : Nat) (r1 r2 : Int → Nat → Nat → CR) : Prop := ∀ lev b d, a < b → b ≤ s.size → r1 lev b d = r2 lev b d
theorem agreeC_single {s : ByteArray} {a : Nat} {r1 r2 : Int → Nat → Nat → CR} (h : AgreeC s a r1 r2) (d : Nat) {a1 : Nat} (ha : a ≤ a1) : singleC r1 s a1 d = singleC r2 s a1 d := by
  unfold singleC
  split
  · rfl
  · split
    · rw [h 1 (a1 + 1) (d + 1) (by omega) (by omega)]
    · rfl
theorem agreeC_ahead {s : ByteArray} {a : Nat} {r1 r2 : Int → Nat → Nat → CR} (h : AgreeC s a r1 r2) (d n : Nat) : ∀ {a1 : Nat}, a ≤ a1 → aheadC r1 s d n a1 = aheadC r2 s d n a1 := by
  induction n with
  | zero => intro a1 _; rfl
  | succ n ih =>
    intro a1 ha
    have h1 := skipTo_mono s a1
    unfold aheadC
    rw [ih (show a ≤ skipTo s a1 + 1 by omega), agreeC_single h d (show a ≤ skipTo s a1 by omega)]
theorem agreeC_loop {s : ByteArray} {a : Nat} {r1 r2 : Int → Nat → Nat → CR} (h : AgreeC s a r1 r2) (hr : AdvC s r1) (least : Int) (d n : Nat) : ∀ (t : Tree) (b : Nat), a ≤ b → loopC r1 s least d n t b = loopC r2 s least d n t b := by
  induction n with
  | zero => intro t b _; rfl
  | succ n ih =>
    intro t b hb
    have h1 := skipTo_mono s b
    unfold loopC
    split
    · rfl
    · rename_i hk
      have hk0 : pairAt s (skipTo s b) ≠ 0 := fun e => hk (.inl e)
      have h2 := pair_lt hk0
      rw [← h (lvl (pairAt s (skipTo s b)) + 1) (skipTo s b + (sg (pairAt s (skipTo s b))).size) d (by omega) (by omega)]
      split
      · rfl
      · rename_i r a2 hr2
        have h5 := hr _ _ _ _ _ hr2
        exact ih _ _ (by omega)
theorem fuelC (s : ByteArray) (f : Nat) : ∀ (f' : Nat) (lev : Int) (a d : Nat), s.size - a < f → s.size - a < f' → climbF s f lev a d = climbF s f' lev a d := by
  induction f with
  | zero => intro f' lev a d hf; omega
  | succ f ih =>
    intro f' lev a d hf hf'
    match f', hf' with
    | 0, hf' => omega
    | f' + 1, hf' =>
      have hag : AgreeC s a (climbF s f) (climbF s f') := fun lv b dd hb hs => ih f' lv b dd (by omega) (by omega)
      unfold climbF
      rw [agreeC_ahead hag d _ (Nat.le_refl a)]
      split
      · rfl
      · rename_i t2 a2 h2
        have h3 := advC_ahead (advC_climb s f') _ _ h2
        exact agreeC_loop hag (advC_climb s f) lev d _ _ _ h3.1
/-- climbing, by as much fuel as it may want -/
def CC (s : ByteArray) (least : Int) (a d : Nat) : CR := climbF s (s.size - a + 1) least a d
theorem advCC (s : ByteArray) : AdvC s (CC s) := fun lev a d t a' h => advC_climb s _ lev a d t a' h
theorem CC_eq (s : ByteArray) (least : Int) (a d : Nat) : CC s least a d = match aheadC (CC s) s d (s.size - a + 1) a with | none => none | some (t, a') => loopC (CC s) s least d (s.size - a' + 1) t a' := by
  have hag : AgreeC s a (climbF s (s.size - a)) (CC s) := fun lv b dd hb hs => fuelC s _ _ lv b dd (by omega) (by omega)
  show climbF s (s.size - a + 1) least a d = _
  unfold climbF
  rw [agreeC_ahead hag d _ (Nat.le_refl a)]
  cases hP : aheadC (CC s) s d (s.size - a + 1) a with
  | none => rfl
  | some p =>
    obtain ⟨t2, a2⟩ := p
    have h3 := advC_ahead (advCC s) _ _ hP
    simp only
    exact agreeC_loop hag (advC_climb s _) least d _ _ _ h3.1
theorem fuelLoopC (s : ByteArray) (least : Int) (d n : Nat) : ∀ (m : Nat) (t : Tree) (a : Nat), s.size - a < n → s.size - a < m → loopC (CC s) s least d n t a = loopC (CC s) s least d m t a := by
  induction n with
  | zero => intro m t a hn hm; omega
  | succ n ih =>
    intro m t a hn hm
    match m, hm with
    | 0, hm => omega
    | m + 1, hm =>
      have h1 := skipTo_mono s a
      unfold loopC
      split
      · rfl
      · rename_i hk
        have hk0 : pairAt s (skipTo s a) ≠ 0 := fun e => hk (.inl e)
        have h2 := pair_lt hk0
        split
        · rfl
        · rename_i r a2 hr
          have h4 := advCC s _ _ _ _ _ hr
          exact ih m _ _ (by omega) (by omega)
/-- the loop looks only at what follows blanks -/
theorem loopC_skip (s : ByteArray) (least : Int) (d : Nat) (t : Tree) {a b : Nat} (h : skipTo s a = skipTo s b) : loopC (CC s) s least d (s.size - a + 1) t a = loopC (CC s) s least d (s.size - b + 1) t b := by
  rw [fuelLoopC s least d (s.size - a + 1) (s.size + 1) t a (by omega) (by omega), fuelLoopC s least d (s.size - b + 1) (s.size + 1) t b (by omega) (by omega)]
  unfold loopC
  rw [h]

/-! ### what comes out, but for what cannot go on -/
def settle (s : ByteArray) : PR → PR
  | none => none
  | some (l, a) => if alnB (bt s (skipTo s a)) then none else some (l, skipTo s a)
def asP : CR → PR
  | none => none
  | some (t, a) => some (t.nodes, a)
def appP (e : List Nd) : PR → PR
  | none => none
  | some (l, a) => some (l ++ e, a)
theorem settle_app {s : ByteArray} {x y : PR} (e : List Nd) (h : settle s x = settle s y) : settle s (appP e x) = settle s (appP e y) := by
  cases x with
  | none =>
    cases y with
    | none => rfl
    | some q =>
      obtain ⟨l, a⟩ := q
      simp only [settle, appP] at h ⊢
      split at h
      · rename_i hh; rw [if_pos hh]
      · cases h
  | some p =>
    obtain ⟨l, a⟩ := p
    cases y with
    | none =>
      simp only [settle, appP] at h ⊢
      split at h
      · rename_i hh; rw [if_pos hh]
      · cases h
    | some q =>
      obtain ⟨l2, a2⟩ := q
      simp only [settle, appP] at h ⊢
      split at h
      · rename_i hh
        split at h
        · rename_i h2; rw [if_pos hh, if_pos h2]
        · cases h
      · rename_i hh
        split at h
        · cases h
        · rename_i h2
          simp only [Option.some.injEq, Prod.mk.injEq] at h
          rw [if_neg hh, if_neg h2, h.1, h.2]

def wrapT : List Int → Tree → Tree
  | [], t => t
  | k :: r, t => .ahead k (wrapT r t)
theorem wrapT_nodes (ks : List Int) (t : Tree) : (wrapT ks t).nodes = t.nodes ++ ks.reverse.map sgn := by
  induction ks with
  | nil => simp [wrapT]
  | cons k r ih => simp [wrapT, Tree.nodes, ih]
theorem ahead_is (rec : Int → Nat → Nat → CR) (s : ByteArray) (d f : Nat) : ∀ a, s.size - a < f → aheadC rec s d f a = match singleC rec s (aheadF s f a).2 d with | none => none | some (t, a') => some (wrapT (aheadF s f a).1 t, a') := by
  induction f with
  | zero => intro a h; omega
  | succ f ih =>
    intro a h
    have h1 := skipTo_mono s a
    unfold aheadC aheadF
    split
    · rename_i hb
      have h2 := bt_lt hb (by decide)
      rw [ih _ (by omega)]
      simp only
      cases singleC rec s (aheadF s f (skipTo s a + 1)).2 d with
      | none => rfl
      | some p => rfl
    · split
      · rename_i hb
        have h2 := bt_lt hb (by decide)
        rw [ih _ (by omega)]
        simp only
        cases singleC rec s (aheadF s f (skipTo s a + 1)).2 d with
        | none => rfl
        | some p => rfl
      · simp only
        cases singleC rec s (skipTo s a) d with
        | none => rfl
        | some p => rfl
theorem aheadF_skip (s : ByteArray) (f : Nat) : ∀ a, s.size - a < f → skipTo s (aheadF s f a).2 = (aheadF s f a).2 := by
  induction f with
  | zero => intro a h; omega
  | succ f ih =>
    intro a h
    have h1 := skipTo_mono s a
    unfold aheadF
    split
    · rename_i hb
      have h2 := bt_lt hb (by decide)
      exact ih _ (by omega)
    · split
      · rename_i hb
        have h2 := bt_lt hb (by decide)
        exact ih _ (by omega)
      · exact skipTo_idem s a
end Go.Proofs.YtcajjngjojegfaaGreatDoor
