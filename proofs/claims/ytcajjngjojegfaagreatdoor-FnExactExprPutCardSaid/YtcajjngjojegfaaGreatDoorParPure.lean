/- The model's reader as a function: plain. -/
import Derived.Test.YtcajjngjojegfaaGreatDoorParSign
namespace Go.Proofs.YtcajjngjojegfaaGreatDoor
open Go.PlainAid
set_option linter.unusedSimpArgs false
set_option linter.unusedVariables false

def lpar : ByteArray := ⟨#[40]⟩
def rpar : ByteArray := ⟨#[41]⟩
def minus : ByteArray := ⟨#[45]⟩
def bang : ByteArray := ⟨#[33]⟩
def noName : ByteArray := ⟨#[]⟩

/-- signs ahead: their kinds, and the place of what follows -/
def aheadF (s : ByteArray) : Nat → Nat → List Int × Nat
  | 0, a => ([], a)
  | f + 1, a => if bt s (skipTo s a) = 45 then (3 :: (aheadF s f (skipTo s a + 1)).1, (aheadF s f (skipTo s a + 1)).2)
    else if bt s (skipTo s a) = 33 then (4 :: (aheadF s f (skipTo s a + 1)).1, (aheadF s f (skipTo s a + 1)).2) else ([], skipTo s a)
def aheadTo (s : ByteArray) (a : Nat) : List Int × Nat := aheadF s (s.size - a + 1) a

/-- nodes of signs ahead, the last first, as long as nothing is bad -/
def putAll : List Int → Par → Par
  | [], st => st
  | k :: r, st => if st.bad then st else putAll r (putNd st (k, 0, noName))

def primM (rec : Int → Par → Par) (s : ByteArray) (st : Par) : Par :=
  if hasAt s (skipTo s st.at_) lpar then
    if 6 < st.deep + 1 then { st with at_ := skipTo s st.at_ + 1, deep := st.deep + 1, bad := true }
    else
      let st3 := rec 1 { st with at_ := skipTo s st.at_ + 1, deep := st.deep + 1 }
      { st3 with at_ := takeAt s (skipTo s st3.at_) rpar, deep := st3.deep - 1, bad := st3.bad || !hasAt s (skipTo s st3.at_) rpar }
  else
    let w := s.extract (skipTo s st.at_) (wordTo s (skipTo s st.at_))
    if figB (bt s (skipTo s st.at_)) then putNd { st with at_ := wordTo s (skipTo s st.at_), bad := st.bad || decide (numOf w < 0) } (1, numOf w, noName)
    else putNd { st with at_ := wordTo s (skipTo s st.at_), bad := st.bad || !nmB w } (2, 0, w)
def unaryM (rec : Int → Par → Par) (s : ByteArray) (st : Par) : Par :=
  putAll (aheadTo s st.at_).1.reverse (primM rec s { st with at_ := (aheadTo s st.at_).2 })
def loopS (rec : Int → Par → Par) (s : ByteArray) (level : Int) : Nat → Par → Par
  | 0, st => st
  | n + 1, st => if st.bad then st else if findSign s (skipTo s st.at_) level = 0 then { st with at_ := signAt s (skipTo s st.at_) level }
    else loopS rec s level n (putNd (rec (level + 1) { st with at_ := signAt s (skipTo s st.at_) level }) (findSign s (skipTo s st.at_) level, 0, noName))
def sumF (s : ByteArray) : Nat → Int → Par → Par
  | 0, _, st => st
  | f + 1, level, st => if 5 < level then unaryM (sumF s f) s st else loopS (sumF s f) s level (s.size + 1) (sumF s f (level + 1) st)

/-- what reading leaves can only go on -/
structure Adv (s : ByteArray) (st st' : Par) : Prop where
  lo : st.at_ ≤ st'.at_
  hi : st.at_ ≤ s.size → st'.at_ ≤ s.size
  dlo : st.deep ≤ st'.deep
  dhi : st'.deep + st.at_ ≤ st.deep + st'.at_
  len : st.out.length ≤ 24 → st'.out.length ≤ 24
theorem Adv.refl (s : ByteArray) (st : Par) : Adv s st st := ⟨Nat.le_refl _, id, Nat.le_refl _, Nat.le_refl _, id⟩
theorem Adv.trans {s : ByteArray} {a b c : Par} (h : Adv s a b) (k : Adv s b c) : Adv s a c :=
  ⟨Nat.le_trans h.lo k.lo, fun x => k.hi (h.hi x), Nat.le_trans h.dlo k.dlo, by have := h.dhi; have := k.dhi; omega, fun x => k.len (h.len x)⟩
theorem adv_put (s : ByteArray) (st : Par) (x : Nd) : Adv s st (putNd st x) := by
  unfold putNd
  split
  · exact ⟨Nat.le_refl _, id, Nat.le_refl _, Nat.le_refl _, id⟩
  · refine ⟨Nat.le_refl _, id, Nat.le_refl _, Nat.le_refl _, fun _ => ?_⟩
    simp; omega
theorem adv_putAll (s : ByteArray) (l : List Int) : ∀ st, Adv s st (putAll l st) := by
  induction l with
  | nil => exact Adv.refl s
  | cons k r ih =>
    intro st
    unfold putAll
    split
    · exact Adv.refl s st
    · exact (adv_put s st _).trans (ih _)
theorem bt_lt {s : ByteArray} {k : Nat} {c : Int} (h : bt s k = c) (hc : c ≠ 0) : k < s.size := by
  rcases Nat.lt_or_ge k s.size with h1 | h1
  · exact h1
  · exact absurd (h.symm.trans (bt_end s h1)) hc
theorem skipF_ge (s : ByteArray) (f : Nat) : ∀ a, s.size ≤ a → skipF s f a = a := by
  induction f with
  | zero => intro a _; rfl
  | succ f ih => intro a h; unfold skipF; rw [if_neg (by omega)]
theorem skipTo_mono (s : ByteArray) (a : Nat) : a ≤ skipTo s a := (skipF_le s _ a).1
theorem adv_at (s : ByteArray) (st : Par) (a : Nat) (h1 : st.at_ ≤ a) (h2 : st.at_ ≤ s.size → a ≤ s.size) : Adv s st { st with at_ := a } :=
  ⟨h1, h2, Nat.le_refl _, by simp only; omega, id⟩
theorem aheadF_le (s : ByteArray) (f : Nat) : ∀ a, a ≤ (aheadF s f a).2 ∧ (a ≤ s.size → (aheadF s f a).2 ≤ s.size) := by
  induction f with
  | zero => intro a; exact ⟨Nat.le_refl _, id⟩
  | succ f ih =>
    intro a
    have h1 := skipTo_mono s a
    unfold aheadF
    split
    · rename_i hb
      have h2 := bt_lt hb (by decide)
      have := ih (skipTo s a + 1)
      simp only
      exact ⟨by omega, fun _ => this.2 (by omega)⟩
    · split
      · rename_i hb
        have h2 := bt_lt hb (by decide)
        have := ih (skipTo s a + 1)
        simp only
        exact ⟨by omega, fun _ => this.2 (by omega)⟩
      · exact ⟨h1, fun h => (skipTo_le h).2⟩
theorem hasAt_lt {s : ByteArray} {k : Nat} {g : ByteArray} (h : hasAt s k g = true) : k + g.size ≤ s.size := by
  unfold hasAt at h; simp at h; exact h.1
theorem takeAt_le {s : ByteArray} {k : Nat} {g : ByteArray} (h : k ≤ s.size) : k ≤ takeAt s k g ∧ takeAt s k g ≤ s.size := by
  unfold takeAt
  split
  · rename_i h1; have := hasAt_lt h1; omega
  · omega
theorem takeAt_mono (s : ByteArray) (k : Nat) (g : ByteArray) : k ≤ takeAt s k g := by
  unfold takeAt; split <;> omega
theorem adv_prim {s : ByteArray} {rec : Int → Par → Par} (hrec : ∀ l st, Adv s st (rec l st)) (st : Par) : Adv s st (primM rec s st) := by
  have h1 := skipTo_mono s st.at_
  unfold primM
  split
  · rename_i hh
    have h2 := hasAt_lt hh
    have e : lpar.size = 1 := rfl
    split
    · exact ⟨by simp only; omega, fun _ => by simp only; omega, by simp only; omega, by simp only; omega, id⟩
    · have h3 := hrec 1 { st with at_ := skipTo s st.at_ + 1, deep := st.deep + 1 }
      generalize rec 1 { st with at_ := skipTo s st.at_ + 1, deep := st.deep + 1 } = st3 at *
      obtain ⟨a1, a2, a3, a4, a5⟩ := h3
      simp only at a1 a2 a3 a4 a5
      have h4 := skipTo_mono s st3.at_
      have h5 := takeAt_mono s (skipTo s st3.at_) rpar
      refine ⟨by simp only; omega, fun h => ?_, by simp only; omega, by simp only; omega, a5⟩
      simp only
      have := a2 (by omega)
      exact (takeAt_le (skipTo_le this).2).2
  · have h2 := (wordF_le s (s.size - skipTo s st.at_) (skipTo s st.at_)).1
    have h3 : ∀ b, Adv s st { st with at_ := wordTo s (skipTo s st.at_), bad := b } := fun b =>
      ⟨by simp only; unfold wordTo; omega, fun h => by simp only; exact (wordTo_le (skipTo_le h).2).2, Nat.le_refl _, by simp only; unfold wordTo; omega, id⟩
    simp only
    split
    · exact (h3 _).trans (adv_put s _ _)
    · exact (h3 _).trans (adv_put s _ _)
theorem adv_unary {s : ByteArray} {rec : Int → Par → Par} (hrec : ∀ l st, Adv s st (rec l st)) (st : Par) : Adv s st (unaryM rec s st) := by
  unfold unaryM
  have h1 := aheadF_le s (s.size - st.at_ + 1) st.at_
  exact ((adv_at s st _ h1.1 h1.2).trans (adv_prim hrec _)).trans (adv_putAll s _ _)
theorem findSign_lt {s : ByteArray} {k : Nat} {level : Int} (h : findSign s k level ≠ 0) : k + (sg (findSign s k level)).size ≤ s.size ∧ 1 ≤ (sg (findSign s k level)).size ∧ 5 ≤ findSign s k level ∧ findSign s k level ≤ 13 := by
  unfold findSign at *
  cases hf : (List.range' 5 9).find? (isSign s k level) with
  | none => rw [hf] at h; simp at h
  | some j =>
    have h1 := List.find?_some hf
    have h2 := List.mem_of_find?_eq_some hf
    simp at h2
    simp only [Option.getD_some]
    unfold isSign at h1
    simp at h1
    refine ⟨hasAt_lt h1.2, ?_, by omega, by omega⟩
    have : j = 5 ∨ j = 6 ∨ j = 7 ∨ j = 8 ∨ j = 9 ∨ j = 10 ∨ j = 11 ∨ j = 12 ∨ j = 13 := by omega
    rcases this with rfl | rfl | rfl | rfl | rfl | rfl | rfl | rfl | rfl <;> decide
theorem signAt_le (s : ByteArray) (a : Nat) (level : Int) : a ≤ signAt s (skipTo s a) level ∧ (a ≤ s.size → signAt s (skipTo s a) level ≤ s.size) := by
  have h1 := skipTo_mono s a
  unfold signAt
  by_cases h : findSign s (skipTo s a) level = 0
  · rw [h]
    have e : (sg 0).size = 0 := by decide
    exact ⟨by omega, fun h => by have := (skipTo_le h).2; omega⟩
  · have := findSign_lt h
    exact ⟨by omega, fun _ => this.1⟩
theorem adv_loop {s : ByteArray} {rec : Int → Par → Par} (hrec : ∀ l st, Adv s st (rec l st)) (level : Int) (n : Nat) : ∀ st, Adv s st (loopS rec s level n st) := by
  induction n with
  | zero => exact Adv.refl s
  | succ n ih =>
    intro st
    have h1 := signAt_le s st.at_ level
    unfold loopS
    split
    · exact Adv.refl s st
    · split
      · exact adv_at s st _ h1.1 h1.2
      · exact (((adv_at s st _ h1.1 h1.2).trans (hrec _ _)).trans (adv_put s _ _)).trans (ih _)
theorem adv_sum (s : ByteArray) (f : Nat) : ∀ level st, Adv s st (sumF s f level st) := by
  induction f with
  | zero => exact fun _ => Adv.refl s
  | succ f ih =>
    intro level st
    unfold sumF
    split
    · exact adv_unary ih st
    · exact (ih _ _).trans (adv_loop ih level _ _)
end Go.Proofs.YtcajjngjojegfaaGreatDoor
