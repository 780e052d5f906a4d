/- Climbing reads what reading level by level does. Plain. -/
import Derived.Test.YtcajjngjojegfaaGreatDoorClimb
namespace Go.Proofs.YtcajjngjojegfaaGreatDoor
open Go Go.PlainAid
set_option linter.unusedSimpArgs false
set_option linter.unusedVariables false

/-! ### reading goes on -/
def AdvP (s : ByteArray) (rec : Int → Nat → Nat → PR) : Prop := ∀ lev a d l a', rec lev a d = some (l, a') → a ≤ a' ∧ (a ≤ s.size → a' ≤ s.size)
theorem advP_prim {s : ByteArray} {rec : Int → Nat → Nat → PR} (hr : AdvP s rec) {a d : Nat} {l : List Nd} {a' : Nat} (h : primP rec s a d = some (l, a')) : a ≤ a' ∧ (a ≤ s.size → a' ≤ s.size) := by
  have h1 := skipTo_mono s a
  unfold primP at h
  split at h
  · rename_i hh
    have h2 := hasAt_lt hh
    have e : lpar.size = 1 := rfl
    split at h
    · cases h
    · split at h
      · cases h
      · rename_i l2 a2 hr2
        have h3 := hr _ _ _ _ _ hr2
        split at h
        · cases h
          have h4 := skipTo_mono s a2
          have h5 := takeAt_mono s (skipTo s a2) rpar
          exact ⟨by omega, fun ha => (takeAt_le (skipTo_le (h3.2 (by omega))).2).2⟩
        · cases h
  · have h2 := wordF_le s (s.size - skipTo s a) (skipTo s a)
    have e : wordTo s (skipTo s a) = wordF s (s.size - skipTo s a) (skipTo s a) := rfl
    rw [← e] at h2
    have h3 : a ≤ s.size → wordTo s (skipTo s a) ≤ s.size := fun ha => h2.2 (skipTo_le ha).2
    split at h
    · split at h
      · cases h
      · cases h; exact ⟨by omega, h3⟩
    · split at h
      · cases h; exact ⟨by omega, h3⟩
      · cases h
theorem advP_unary {s : ByteArray} {rec : Int → Nat → Nat → PR} (hr : AdvP s rec) {a d : Nat} {l : List Nd} {a' : Nat} (h : unaryP rec s a d = some (l, a')) : a ≤ a' ∧ (a ≤ s.size → a' ≤ s.size) := by
  unfold unaryP at h
  split at h
  · cases h
  · rename_i l2 a2 h2
    cases h
    have h3 := advP_prim hr h2
    have h4 := aheadF_le s (s.size - a + 1) a
    have e : (aheadTo s a).2 = (aheadF s (s.size - a + 1) a).2 := rfl
    rw [e] at h3
    exact ⟨by omega, fun ha => h3.2 (h4.2 ha)⟩
theorem advP_loop {s : ByteArray} {rec : Int → Nat → Nat → PR} (hr : AdvP s rec) (level : Int) (d n : Nat) : ∀ {l : List Nd} {a : Nat} {l' : List Nd} {a' : Nat}, loopP rec s level d n l a = some (l', a') → a ≤ a' ∧ (a ≤ s.size → a' ≤ s.size) := by
  induction n with
  | zero => intro l a l' a' h; cases h; exact ⟨Nat.le_refl _, id⟩
  | succ n ih =>
    intro l a l' a' h
    have h1 := signAt_le s a level
    unfold loopP at h
    split at h
    · cases h; exact h1
    · split at h
      · cases h
      · rename_i r a2 h2
        have h3 := hr _ _ _ _ _ h2
        have h4 := ih h
        exact ⟨by omega, fun ha => h4.2 (h3.2 (h1.2 ha))⟩
theorem advP_sum (s : ByteArray) (f : Nat) : AdvP s (sumP s f) := by
  induction f with
  | zero => intro lev a d l a' h; cases h; exact ⟨Nat.le_refl _, id⟩
  | succ f ih =>
    intro lev a d l a' h
    unfold sumP at h
    split at h
    · exact advP_unary ih h
    · split at h
      · cases h
      · rename_i l2 a2 h2
        have h3 := ih _ _ _ _ _ h2
        have h4 := advP_loop ih _ _ _ h
        exact ⟨by omega, fun ha => h4.2 (h3.2 ha)⟩

/-! ### the fuel does not matter, as long as there is enough -/
def AgreeP (s : ByteArray) (a : Nat) (r1 r2 : Int → Nat → Nat → PR) : Prop := ∀ lev b d, a < b → b ≤ s.size → 1 ≤ lev → lev ≤ 6 → r1 lev b d = r2 lev b d
theorem agreeP_prim {s : ByteArray} {a : Nat} {r1 r2 : Int → Nat → Nat → PR} (h : AgreeP s a r1 r2) (d : Nat) {a1 : Nat} (ha : a ≤ a1) : primP r1 s a1 d = primP r2 s a1 d := by
  unfold primP
  split
  · rename_i hh
    have h2 := hasAt_lt hh
    have e : lpar.size = 1 := rfl
    have h1 := skipTo_mono s a1
    rw [h 1 (skipTo s a1 + 1) (d + 1) (by omega) (by omega) (by omega) (by omega)]
  · rfl
theorem agreeP_unary {s : ByteArray} {a : Nat} {r1 r2 : Int → Nat → Nat → PR} (h : AgreeP s a r1 r2) (d : Nat) : unaryP r1 s a d = unaryP r2 s a d := by
  unfold unaryP
  have h4 := aheadF_le s (s.size - a + 1) a
  have e : (aheadTo s a).2 = (aheadF s (s.size - a + 1) a).2 := rfl
  rw [← e] at h4
  rw [agreeP_prim h d h4.1]
theorem agreeP_loop {s : ByteArray} {a : Nat} {r1 r2 : Int → Nat → Nat → PR} (h : AgreeP s a r1 r2) (hr : AdvP s r1) (level : Int) (h1 : 1 ≤ level ∧ level ≤ 5) (d : Nat) (n : Nat) : ∀ (l : List Nd) (b : Nat), a ≤ b → b ≤ s.size → loopP r1 s level d n l b = loopP r2 s level d n l b := by
  induction n with
  | zero => intro l b _ _; rfl
  | succ n ih =>
    intro l b hb hs
    unfold loopP
    split
    · rfl
    · rename_i hf
      have h2 := findSign_lt hf
      have h3 := skipTo_mono s b
      have e : signAt s (skipTo s b) level = skipTo s b + (sg (findSign s (skipTo s b) level)).size := rfl
      have h4 := h (level + 1) (signAt s (skipTo s b) level) d (by omega) (by omega) (by omega) (by omega)
      rw [← h4]
      split
      · rfl
      · rename_i r a2 hr2
        have h5 := hr _ _ _ _ _ hr2
        exact ih _ _ (by omega) (h5.2 (by omega))
theorem fuelP (s : ByteArray) (f : Nat) : ∀ (f' : Nat) (lev : Int) (a d : Nat), a ≤ s.size → 1 ≤ lev → lev ≤ 6 → ((7 * (s.size - a) + 7 : Nat) : Int) ≤ f + lev → ((7 * (s.size - a) + 7 : Nat) : Int) ≤ f' + lev → sumP s f lev a d = sumP s f' lev a d := by
  induction f with
  | zero => intro f' lev a d ha h1 h6 hf hf'; omega
  | succ f ih =>
    intro f' lev a d ha h1 h6 hf hf'
    match f', hf' with
    | 0, hf' => omega
    | f' + 1, hf' =>
      have hag : AgreeP s a (sumP s f) (sumP s f') := fun lv b dd hb hs l1 l6 => ih f' lv b dd hs l1 l6 (by omega) (by omega)
      unfold sumP
      split
      · exact agreeP_unary hag d
      · rw [ih f' (lev + 1) a d ha (by omega) (by omega) (by omega) (by omega)]
        split
        · rfl
        · rename_i l2 a2 h2
          have h3 := advP_sum s f' _ _ _ _ _ h2
          exact agreeP_loop hag (advP_sum s f) lev ⟨h1, by omega⟩ d _ _ _ h3.1 (h3.2 ha)
/-- reading a sum of a level, by as much fuel as it may want -/
def PP (s : ByteArray) (lev : Int) (a d : Nat) : PR := sumP s (7 * (s.size - a) + 7) lev a d
theorem sumP_PP (s : ByteArray) {f : Nat} {lev : Int} {a d : Nat} (ha : a ≤ s.size) (h1 : 1 ≤ lev) (h6 : lev ≤ 6) (hf : ((7 * (s.size - a) + 7 : Nat) : Int) ≤ f + lev) : sumP s f lev a d = PP s lev a d :=
  fuelP s f _ lev a d ha h1 h6 hf (by omega)
theorem advPP (s : ByteArray) : AdvP s (PP s) := fun lev a d l a' h => advP_sum s _ lev a d l a' h
theorem PP_high (s : ByteArray) {a d : Nat} (ha : a ≤ s.size) : PP s 6 a d = unaryP (PP s) s a d := by
  unfold PP
  show sumP s (7 * (s.size - a) + 6 + 1) 6 a d = _
  unfold sumP
  rw [if_pos (by decide)]
  exact agreeP_unary (fun lv b dd hb hs l1 l6 => sumP_PP s hs l1 l6 (by omega)) d
theorem PP_low (s : ByteArray) {lev : Int} {a d : Nat} (ha : a ≤ s.size) (h1 : 1 ≤ lev) (h5 : lev ≤ 5) : PP s lev a d = match PP s (lev + 1) a d with | none => none | some (l, a') => loopP (PP s) s lev d (s.size + 1) l a' := by
  show sumP s (7 * (s.size - a) + 6 + 1) lev a d = _
  unfold sumP
  rw [if_neg (by omega), sumP_PP s ha (show 1 ≤ lev + 1 by omega) (by omega) (by omega)]
  cases hP : PP s (lev + 1) a d with
  | none => rfl
  | some p =>
    obtain ⟨l2, a2⟩ := p
    have h3 := advPP s _ _ _ _ _ hP
    simp only
    exact agreeP_loop (r1 := sumP s (7 * (s.size - a) + 6)) (fun lv b dd hb hs l1 l6 => sumP_PP s hs l1 l6 (by omega)) (advP_sum s _) lev ⟨h1, h5⟩ d _ _ _ h3.1 (h3.2 ha)
/-- the loop's fuel does not matter -/
theorem fuelLoop (s : ByteArray) (lev : Int) (h1 : 1 ≤ lev ∧ lev ≤ 5) (d : Nat) (n : Nat) : ∀ (m : Nat) (l : List Nd) (a : Nat), a ≤ s.size → s.size - a < n → s.size - a < m → loopP (PP s) s lev d n l a = loopP (PP s) s lev d m l a := by
  induction n with
  | zero => intro m l a ha hn hm; omega
  | succ n ih =>
    intro m l a ha hn hm
    match m, hm with
    | 0, hm => omega
    | m + 1, hm =>
      unfold loopP
      split
      · rfl
      · rename_i hf
        have h2 := findSign_lt hf
        have h3 := skipTo_mono s a
        have e : signAt s (skipTo s a) lev = skipTo s a + (sg (findSign s (skipTo s a) lev)).size := rfl
        split
        · rfl
        · rename_i r a2 hr
          have h4 := advPP s _ _ _ _ _ hr
          exact ih m _ _ (h4.2 (by omega)) (by omega) (by omega)
end Go.Proofs.YtcajjngjojegfaaGreatDoor
