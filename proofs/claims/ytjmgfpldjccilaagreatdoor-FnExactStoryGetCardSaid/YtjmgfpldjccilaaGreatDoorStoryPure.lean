/- Stories as lists of bytes: lines, what a text is as a story. No program. -/
import Derived.Test.YtjmgfpldjccilaaGreatDoorStoryPutI
import Derived.Test.YtjmgfpldjccilaaGreatDoorEvGot
import Derived.Lib.IndexMore
namespace Go.Proofs.YtjmgfpldjccilaaGreatDoor
open Go Go.RowKit Go.PlainAid
set_option linter.unusedSimpArgs false
set_option linter.unusedVariables false

theorem cut_no {l : List UInt8} (h : NoB 10 l) : Lib.cut l [10] = (l, [], false) := by
  unfold Lib.cut
  rw [index_no 10 l h]; rfl
theorem cut_at {a b : List UInt8} (h : NoB 10 a) : Lib.cut (a ++ 10 :: b) [10] = (a, b, true) := by
  unfold Lib.cut
  rw [index_at 10 a b h, if_pos (by omega)]
  have e : ((a.length : Nat) : Int).toNat = a.length := by omega
  rw [e]
  simp
/-- a text has a line, or has none -/
theorem line_or (l : List UInt8) : NoB 10 l ∨ ∃ a b, NoB 10 a ∧ l = a ++ 10 :: b := by
  induction l with
  | nil => exact .inl (by simp [NoB])
  | cons x r ih =>
    by_cases hx : x = 10
    · subst hx; exact .inr ⟨[], r, by simp [NoB], rfl⟩
    · rcases ih with h | ⟨a, b, h1, h2⟩
      · exact .inl (by simp only [NoB, List.mem_cons, not_or] at h ⊢; exact ⟨fun e => hx e.symm, h⟩)
      · exact .inr ⟨x :: a, b, by simp only [NoB, List.mem_cons, not_or] at h1 ⊢; exact ⟨fun e => hx e.symm, h1⟩, by rw [h2]; rfl⟩
theorem line_inj {a a' b b' : List UInt8} (h : NoB 10 a) (h' : NoB 10 a') (e : a ++ 10 :: b = a' ++ 10 :: b') : a = a' ∧ b = b' := by
  have h1 := cut_at (b := b) h
  rw [e, cut_at h'] at h1
  simp only [Prod.mk.injEq] at h1
  exact ⟨h1.1.symm, h1.2.1.symm⟩
theorem storyT_cons (x : Ev) (l : List Ev) : storyT (x :: l) = evT x ++ 10 :: storyT l := by simp [storyT, linesT]
theorem storyT_app (l r : List Ev) : storyT (l ++ r) = storyT l ++ storyT r := by simp [storyT, linesT]
theorem storyT_nil : storyT [] = [] := rfl
theorem storyT_one (x : Ev) : storyT [x] = evT x ++ [10] := by simp [storyT, linesT]
/-- what begins with a story is that story, and one more -/
theorem story_rest : ∀ {D f : List Ev} {r : List UInt8}, (∀ x ∈ D, OkE x) → (∀ x ∈ f, OkE x) → storyT f = storyT D ++ r → ∃ f', f = D ++ f' ∧ storyT f' = r
  | [], f, r, _, _, h => ⟨f, rfl, by simpa [storyT_nil] using h⟩
  | x :: D, [], r, _, _, h => by
    rw [storyT_nil, storyT_cons] at h
    simp at h
  | x :: D, y :: f, r, hD, hf, h => by
    rw [storyT_cons, storyT_cons, List.append_assoc, List.cons_append] at h
    obtain ⟨h1, h2⟩ := line_inj (evT_no (hf y (by simp))) (evT_no (hD x (by simp))) h
    obtain ⟨f', h3, h4⟩ := story_rest (fun z hz => hD z (by simp [hz])) (fun z hz => hf z (by simp [hz])) h2
    exact ⟨f', by rw [h3, evT_inj (hf y (by simp)) (hD x (by simp)) h1]; rfl, h4⟩
theorem storyT_inj {l r : List Ev} (hl : ∀ x ∈ l, OkE x) (hr : ∀ x ∈ r, OkE x) (h : storyT l = storyT r) : l = r := by
  obtain ⟨f', h1, h2⟩ := story_rest (r := []) hr hl (by rw [h]; simp)
  cases f' with
  | nil => simpa using h1
  | cons y f => rw [storyT_cons] at h2; simp at h2
def OkS (l : List Ev) : Prop := l.length ≤ 80 ∧ ∀ x ∈ l, OkE x
theorem okS_OkS {l : List Ev} : okS l = true ↔ OkS l := by
  rw [okS_iff]
  exact ⟨fun h => ⟨h.1, fun x hx => okE_iff.1 (h.2 x hx)⟩, fun h => ⟨h.1, fun x hx => okE_iff.2 (h.2 x hx)⟩⟩
/-- what a text is as a story -/
def GotS (s : ByteArray) (l : List Ev) (b : Bool) : Prop := (b = true ∧ OkS l ∧ s = bt8 (storyT l)) ∨ (b = false ∧ l = [] ∧ ∀ f : List Ev, OkS f → s ≠ bt8 (storyT f))
theorem GotS.same {s : ByteArray} {l l' : List Ev} {b b' : Bool} (h : GotS s l b) (h' : GotS s l' b') : l = l' ∧ b = b' := by
  rcases h with ⟨h1, h2, h3⟩ | ⟨h1, h2, h3⟩ <;> rcases h' with ⟨g1, g2, g3⟩ | ⟨g1, g2, g3⟩
  · exact ⟨storyT_inj h2.2 g2.2 (bt8_inj (by rw [← h3, ← g3])), by rw [h1, g1]⟩
  · exact absurd h3 (g3 _ h2)
  · exact absurd g3 (h3 _ g2)
  · exact ⟨by rw [h2, g2], by rw [h1, g1]⟩
/-- why a text that goes on so is no story: its next line is no event -/
theorem no_line {D : List Ev} {L R : List UInt8} (hD : ∀ x ∈ D, OkE x) (hL : NoB 10 L) (hg : ∀ f : Ev, OkE f → bt8 L ≠ bt8 (evT f)) : ∀ f : List Ev, OkS f → bt8 (storyT D ++ (L ++ 10 :: R)) ≠ bt8 (storyT f) := by
  intro f hf e
  obtain ⟨f', h1, h2⟩ := story_rest hD hf.2 (bt8_inj e).symm
  cases f' with
  | nil => rw [storyT_nil] at h2; simp at h2
  | cons y f2 =>
    rw [storyT_cons] at h2
    have hy : OkE y := hf.2 y (by rw [h1]; simp)
    exact hg y hy (by rw [(line_inj (evT_no hy) hL h2).1])
/-- .. there are too many lines -/
theorem no_more {D : List Ev} {L R : List UInt8} (hD : ∀ x ∈ D, OkE x) (h80 : D.length = 80) (hL : NoB 10 L) : ∀ f : List Ev, OkS f → bt8 (storyT D ++ (L ++ 10 :: R)) ≠ bt8 (storyT f) := by
  intro f hf e
  obtain ⟨f', h1, h2⟩ := story_rest hD hf.2 (bt8_inj e).symm
  cases f' with
  | nil => rw [storyT_nil] at h2; simp at h2
  | cons y f2 => have := hf.1; rw [h1] at this; simp at this; omega
/-- .. it ends without a newline -/
theorem no_end {D : List Ev} {L : List UInt8} (hD : ∀ x ∈ D, OkE x) (hL : NoB 10 L) (h0 : L ≠ []) : ∀ f : List Ev, OkS f → bt8 (storyT D ++ L) ≠ bt8 (storyT f) := by
  intro f hf e
  obtain ⟨f', h1, h2⟩ := story_rest hD hf.2 (bt8_inj e).symm
  cases f' with
  | nil => rw [storyT_nil] at h2; exact h0 h2.symm
  | cons y f2 => rw [storyT_cons] at h2; exact hL (by rw [← h2]; simp)
end Go.Proofs.YtjmgfpldjccilaaGreatDoor
