/- Nodes that were read and can be written: how many numbers stand, node by node. -/
import Derived.Test.YtbpfonmkbbnkcaaGreatDoorBunI
namespace Go.Proofs.YtbpfonmkbbnkcaaGreatDoor
open Go Go.RowKit Go.PlainAid
set_option linter.unusedSimpArgs false
set_option linter.unusedVariables false

theorem good_show {l : List Nd} (h : Summy l) : ∃ t lv, showTo l l.length = some [(t, lv)] ∧ l.length ≤ 24 ∧ ∀ x ∈ l, x.2.2.size ≤ 60 := by
  obtain ⟨s, hs⟩ := h
  unfold exprM at hs
  split at hs
  · rename_i l' hg
    split at hs
    · cases hs
    · rename_i hp
      cases hs
      have h1 := getM_len hg
      have h2 := getM_names hg
      cases hm : showM l with
      | none =>
        exfalso
        apply hp
        unfold putM
        rw [if_neg (by omega), hm]
        show noName.toList.isEmpty = true
        rw [Lib.toList_data]; rfl
      | some t =>
        unfold showM at hm
        split at hm
        · rename_i t' lv he
          exact ⟨t', lv, he, h1, h2⟩
        · cases hm
  · cases hs

/-- how many numbers stand behind the first k nodes -/
theorem good_to {l : List Nd} (h : Summy l) : ∀ k, k ≤ l.length → ∃ stk, showTo l k = some stk := by
  intro k hk
  obtain ⟨t, lv, he, _⟩ := good_show h
  cases hs : showTo l k with
  | none => rw [showTo_none hk hs] at he; cases he
  | some stk => exact ⟨stk, rfl⟩

/-- a node's kind, and how many numbers it takes of those that stand -/
theorem good_at {l : List Nd} (h : Summy l) {k : Nat} (hk : k < l.length) {stk : TL} (hs : showTo l k = some stk) :
    ∃ stk', showTo l (k + 1) = some stk' ∧ ((l[k].1 = 1 ∨ l[k].1 = 2) ∧ stk'.length = stk.length + 1 ∨ (l[k].1 = 3 ∨ l[k].1 = 4) ∧ 1 ≤ stk.length ∧ stk'.length = stk.length ∨ (5 ≤ l[k].1 ∧ l[k].1 ≤ 13) ∧ 2 ≤ stk.length ∧ stk'.length + 1 = stk.length) := by
  obtain ⟨stk', hs'⟩ := good_to h (k + 1) (by omega)
  refine ⟨stk', hs', ?_⟩
  have h1 : showStep l[k] stk = some stk' := by
    simp only [showTo, hs, Option.bind_some] at hs'
    rw [← hs']; simp [hk]
  generalize l[k] = x at h1
  unfold showStep at h1
  split at h1
  · rename_i e
    split at h1
    · cases h1; exact .inl ⟨.inl e, rfl⟩
    · cases h1
  · split at h1
    · rename_i e
      split at h1
      · cases h1; exact .inl ⟨.inr e, rfl⟩
      · cases h1
    · split at h1
      · rename_i e
        split at h1
        · unfold aheadStk at h1
          split at h1
          · cases h1; exact .inr (.inl ⟨e, by simp, by simp⟩)
          · cases h1
        · cases h1
      · split at h1
        · rename_i e
          split at h1
          · unfold pairStk at h1
            split at h1
            · cases h1; exact .inr (.inr ⟨e, by simp, by simp⟩)
            · cases h1
          · cases h1
        · cases h1
theorem good_pos {l : List Nd} (h : Summy l) : 1 ≤ l.length := by
  obtain ⟨t, lv, he, _⟩ := good_show h
  rcases Nat.eq_zero_or_pos l.length with h0 | h0
  · rw [h0] at he; simp [showTo] at he
  · exact h0
end Go.Proofs.YtbpfonmkbbnkcaaGreatDoor
