/- What a sum comes to: by its parts, and by its nodes one after the other. Plain: no program. -/
import Derived.Test.YtbpfonmkbbnkcaaGreatDoorBunE
import Derived.Test.YtbpfonmkbbnkcaaGreatDoorFind
import Derived.Test.YtbpfonmkbbnkcaaGreatDoorBunG
namespace Go.Proofs.YtbpfonmkbbnkcaaGreatDoor
open Go Go.RowKit Go.PlainAid
set_option linter.unusedSimpArgs false
set_option linter.unusedVariables false

/-- what a name comes to -/
def ofM (names : List ByteArray) (vals : List Int) (x : ByteArray) : Int := if findM names x < 0 ∨ (vals.length : Int) ≤ findM names x then 0 else wr32 (vals.getD (findM names x).toNat 0)
theorem ofM_in (names : List ByteArray) (vals : List Int) (x : ByteArray) : In32 (ofM names vals x) := by
  unfold ofM
  split
  · unfold In32; omega
  · exact in32_wr _
def valT (f : ByteArray → Int) : Tree → Int
  | .num n => wr32 n
  | .name x => f x
  | .ahead k t => one k (valT f t)
  | .pair k l r => two k (valT f l) (valT f r)
theorem valT_in {f : ByteArray → Int} (hf : ∀ x, In32 (f x)) : ∀ t, In32 (valT f t)
  | .num n => in32_wr _
  | .name x => hf x
  | .ahead k t => in32_one _ _
  | .pair k l r => in32_two (valT_in hf l)
def runNd (f : ByteArray → Int) (x : Nd) (st : List Int) : List Int :=
  if x.1 = 1 then x.2.1 :: st else if x.1 = 2 then f x.2.2 :: st
  else if x.1 = 3 ∨ x.1 = 4 then one x.1 (st.headD 0) :: st.tail else two x.1 (st.tail.headD 0) (st.headD 0) :: st.tail.tail
/-- what stands behind the first k nodes, the top first -/
def runNds (f : ByteArray → Int) (l : List Nd) : Nat → List Int
  | 0 => []
  | k + 1 => runNd f (l.getD k (0, 0, noName)) (runNds f l k)
/-- what a sum comes to; 0 of what is none -/
def valM (f : ByteArray → Int) (l : List Nd) : Int := match sumM l with | none => 0 | some t => valT f t

theorem run_tree {f : ByteArray → Int} {l : List Nd} (ho : ∀ j, j < l.length → ndOk (l.getD j (0, 0, noName))) : ∀ k, k ≤ l.length → ∀ {st : List Tree}, treeTo l k = some st → runNds f l k = st.map (valT f) := by
  intro k
  induction k with
  | zero => intro _ st h; simp [treeTo] at h; subst h; rfl
  | succ k ih =>
    intro hk st h
    simp only [treeTo, Option.bind_eq_some_iff] at h
    obtain ⟨st0, h0, h1⟩ := h
    have ih1 := ih (by omega) h0
    have hx := ho k (by omega)
    simp only [runNds]
    rw [ih1]
    generalize l.getD k (0, 0, noName) = x at *
    obtain ⟨kd, n, y⟩ := x
    obtain ⟨o1, o2, o3⟩ := hx
    unfold treeNext treeStep at h1
    unfold runNd
    simp only at h1 o1 o2 o3 ⊢
    by_cases e1 : kd = 1
    · rw [if_pos e1] at h1 ⊢
      cases h1
      have := o1 e1
      simp [valT, wr32_in (show In32 n from ⟨by omega, by omega⟩)]
    rw [if_neg e1] at h1 ⊢
    by_cases e2 : kd = 2
    · rw [if_pos e2] at h1 ⊢
      by_cases hm : nmB y = true
      · rw [if_pos hm] at h1
        cases h1
        simp [valT]
      · rw [if_neg hm] at h1; cases h1
    rw [if_neg e2] at h1 ⊢
    by_cases e3 : kd = 3 ∨ kd = 4
    · rw [if_pos e3] at h1 ⊢
      match st0, h1 with
      | [], h1 => cases h1
      | t0 :: r, h1 =>
        cases h1
        simp [valT]
    rw [if_neg e3] at h1 ⊢
    by_cases e5 : 5 ≤ kd ∧ kd ≤ 13
    · rw [if_pos e5] at h1
      match st0, h1 with
      | [], h1 => cases h1
      | [_], h1 => cases h1
      | r0 :: l0 :: q, h1 =>
        cases h1
        simp [valT]
    rw [if_neg e5] at h1
    cases h1
theorem sumM_some {l : List Nd} {t : Tree} (h : sumM l = some t) : l.length ≤ 24 ∧ treeTo l l.length = some [t] ∧ getM (textT t) = some l ∧ ∀ j, j < l.length → ndOk (l.getD j (0, 0, noName)) := by
  unfold sumM at h
  split at h
  · cases h
  · rename_i t' he
    split at h
    · rename_i hg
      cases h
      unfold treeM at he
      split at he
      · cases he
      · rename_i h24
        split at he
        · rename_i t2 h2
          cases he
          exact ⟨by omega, h2, hg, getD_all (getM_ok hg)⟩
        · cases he
    · cases h
theorem runNds_sum {f : ByteArray → Int} {l : List Nd} {t : Tree} (h : sumM l = some t) : runNds f l l.length = [valT f t] := by
  obtain ⟨_, h1, _, h3⟩ := sumM_some h
  rw [run_tree h3 _ (Nat.le_refl _) h1]; rfl
theorem treeTo_some {l : List Nd} {n k : Nat} {st : List Tree} (h : treeTo l n = some st) (hk : k ≤ n) : ∃ s, treeTo l k = some s := by
  cases e : treeTo l k with
  | none => rw [treeTo_none hk e] at h; cases h
  | some s => exact ⟨s, rfl⟩
/-- what a node finds -/
theorem node_finds {f : ByteArray → Int} {l : List Nd} {t : Tree} (hs : sumM l = some t) {k : Nat} (hk : k < l.length) {x : Nd} (hx : l.getD k (0, 0, noName) = x) :
    (x.1 = 1 ∧ 0 ≤ x.2.1 ∧ x.2.1 ≤ 999999) ∨ x.1 = 2 ∨ ((x.1 = 3 ∨ x.1 = 4) ∧ ∃ z r, runNds f l k = z :: r) ∨ ((5 ≤ x.1 ∧ x.1 ≤ 13) ∧ ∃ z z' r, runNds f l k = z :: z' :: r) := by
  obtain ⟨_, h1, _, h3⟩ := sumM_some hs
  obtain ⟨st, h4⟩ := treeTo_some h1 (show k ≤ l.length by omega)
  obtain ⟨st', h5⟩ := treeTo_some h1 (show k + 1 ≤ l.length by omega)
  rw [run_tree h3 k (by omega) h4]
  have ho := h3 k hk
  simp only [treeTo, h4, Option.bind_some] at h5
  rw [hx] at h5 ho
  unfold treeNext treeStep at h5
  by_cases e1 : x.1 = 1
  · have := (ho.1 e1).1
    exact .inl ⟨e1, this.1, this.2⟩
  rw [if_neg e1] at h5
  by_cases e2 : x.1 = 2
  · exact .inr (.inl e2)
  rw [if_neg e2] at h5
  by_cases e3 : x.1 = 3 ∨ x.1 = 4
  · rw [if_pos e3] at h5
    match st, h5 with
    | [], h5 => cases h5
    | t0 :: r, h5 => exact .inr (.inr (.inl ⟨e3, _, _, rfl⟩))
  rw [if_neg e3] at h5
  by_cases e5 : 5 ≤ x.1 ∧ x.1 ≤ 13
  · rw [if_pos e5] at h5
    match st, h5 with
    | [], h5 => cases h5
    | [_], h5 => cases h5
    | r0 :: l0 :: q, h5 => exact .inr (.inr (.inr ⟨e5, _, _, _, rfl⟩))
  rw [if_neg e5] at h5
  cases h5
theorem run_in {f : ByteArray → Int} (hf : ∀ x, In32 (f x)) {l : List Nd} {t : Tree} (hs : sumM l = some t) {k : Nat} (hk : k ≤ l.length) : (∀ z ∈ runNds f l k, In32 z) ∧ (runNds f l k).length ≤ k := by
  obtain ⟨_, h1, _, h3⟩ := sumM_some hs
  obtain ⟨st, h4⟩ := treeTo_some h1 hk
  rw [run_tree h3 k hk h4]
  refine ⟨fun z hz => ?_, ?_⟩
  · obtain ⟨t, _, rfl⟩ := List.mem_map.1 hz
    exact valT_in hf t
  · have := treeTo_len k h4
    simpa using this
theorem getM_no : getM noName = none := by
  rw [getM_free]
  have e : sumP noName (7 * noName.size + 7) 1 0 0 = none := by kernel_rfl
  rw [e, if_neg (by decide)]
/-- a sum is written by at least one byte -/
theorem putM_empty (l : List Nd) : (putM l).toList.isEmpty = true ↔ sumM l = none := by
  rw [putM_sumM]
  cases h : sumM l with
  | none => simp [isEmpty_noName]
  | some t =>
    obtain ⟨_, _, hg, _⟩ := sumM_some h
    simp only [reduceCtorEq, iff_false]
    intro he
    have e : textT t = noName := by
      rw [Lib.toList_data] at he
      apply ByteArray.ext
      rw [← Array.toList_inj]
      simpa [noName] using he
    rw [e, getM_no] at hg
    cases hg
end Go.Proofs.YtbpfonmkbbnkcaaGreatDoor
