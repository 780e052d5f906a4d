/- What the program takes for a sum is what the model takes for one: trees against texts. Plain: no program. -/
import Derived.Test.YtcajjngjojegfaaGreatDoorTreeOf2
import Derived.Test.YtcajjngjojegfaaGreatDoorParExpr
namespace Go.Proofs.YtcajjngjojegfaaGreatDoor
open Go Go.RowKit Go.PlainAid
set_option linter.unusedSimpArgs false
set_option linter.unusedVariables false

theorem decF_digits (f : Nat) : ∀ n : Nat, n < 10 ^ (f + 1) → decF f n = ⟨(Lib.decDigits n).toArray⟩ := by
  induction f with
  | zero =>
    intro n h
    have h' : n < 10 := by simpa using h
    rw [Lib.decDigits_one h']
    unfold decF dig
    have e : (48 + (n : Int)).toNat = 48 + n := by omega
    rw [e]
  | succ f ih =>
    intro n h
    unfold decF
    by_cases h10 : n < 10
    · rw [if_pos (by omega), Lib.decDigits_one h10]
      unfold dig
      have e : (48 + (n : Int)).toNat = 48 + n := by omega
      rw [e]
    · rw [if_neg (by omega)]
      have e1 : ((n : Int) / 10) = ((n / 10 : Nat) : Int) := by omega
      have e2 : ((n : Int) % 10) = ((n % 10 : Nat) : Int) := by omega
      rw [e1, e2, ih (n / 10) (by rw [Nat.pow_succ] at h; omega)]
      have e3 : Lib.decDigits n = Lib.decDigits (n / 10) ++ [UInt8.ofNat (48 + n % 10)] := by rw [Lib.decDigits, dif_neg h10]
      rw [e3]
      unfold dig
      have e : (48 + ((n % 10 : Nat) : Int)).toNat = 48 + n % 10 := by omega
      rw [e]
      apply ByteArray.ext
      rw [ByteArray.data_append]
      simp
theorem decF_itoa {n : Int} (h0 : 0 ≤ n) (h1 : n ≤ 999999) : decF 5 n = ⟨(Lib.itoa n).toArray⟩ := by
  obtain ⟨k, rfl⟩ : ∃ k : Nat, n = k := ⟨n.toNat, by omega⟩
  rw [decF_digits 5 k (by simp; omega)]
  unfold Lib.itoa
  rw [if_neg (by omega)]
  simp

theorem isEmpty_noName : noName.toList.isEmpty = true := by rw [Lib.toList_data]; rfl
/-- what a node says beside its kind is what its kind has -/
def ndOk (x : Nd) : Prop :=
  (x.1 = 1 → (0 ≤ x.2.1 ∧ x.2.1 ≤ 999999) ∧ x.2.2.toList.isEmpty = true) ∧ (x.1 = 2 → x.2.1 = 0) ∧ (x.1 ≠ 1 → x.1 ≠ 2 → x.2.1 = 0 ∧ x.2.2.toList.isEmpty = true)
theorem ndOk_sgn (k : Int) : ndOk (sgn k) := ⟨fun h => ⟨⟨Int.le_refl 0, (by decide : (0 : Int) ≤ 999999)⟩, isEmpty_noName⟩, fun _ => rfl, fun _ _ => ⟨rfl, isEmpty_noName⟩⟩

/-- a part as the model holds it -/
def tx (t : Tree) : ByteArray × Int := (textT t, tightT t)
theorem bound_par (t : Tree) (least : Int) : boundM (textT t) (tightT t) least = parT t (textT t) least := rfl
theorem aheadSg_sgI {k : Int} (h : k = 3 ∨ k = 4) : aheadSg k = sgI k.toNat := by
  rcases h with rfl | rfl <;> rfl
theorem show_tree {x : Nd} {st : List Tree} (hx : ndOk x) : showStep x (st.map tx) = (treeNext x st).map (List.map tx) := by
  obtain ⟨k, n, y⟩ := x
  obtain ⟨o1, o2, o3⟩ := hx
  simp only at o1 o2 o3
  unfold showStep treeNext treeStep
  simp only
  by_cases h1 : k = 1
  · rw [if_pos h1, if_pos h1, if_pos (o1 h1)]
    have := decF_itoa (o1 h1).1.1 (o1 h1).1.2
    simp [tx, textT, tightT, this]
  rw [if_neg h1, if_neg h1]
  by_cases h2 : k = 2
  · rw [if_pos h2, if_pos h2]
    by_cases hn : nmB y = true
    · rw [if_pos ⟨hn, o2 h2⟩, if_pos hn]
      simp [tx, textT, tightT]
    · rw [if_neg (fun h => hn h.1), if_neg hn]
      rfl
  rw [if_neg h2, if_neg h2]
  by_cases h3 : k = 3 ∨ k = 4
  · rw [if_pos h3, if_pos h3, if_pos (o3 h1 h2)]
    cases st with
    | nil => rfl
    | cons t r =>
      show some ((aheadSg k ++ boundM (textT t) (tightT t) 6, (6 : Int)) :: r.map tx) = some ((sgI k.toNat ++ parT t (textT t) 6, (6 : Int)) :: r.map tx)
      rw [bound_par, aheadSg_sgI h3]
  rw [if_neg h3, if_neg h3]
  by_cases h5 : 5 ≤ k ∧ k ≤ 13
  · rw [if_pos h5, if_pos h5, if_pos (o3 h1 h2)]
    match st with
    | [] => rfl
    | [t] => rfl
    | r :: t :: q => rfl
  rw [if_neg h5, if_neg h5]
  rfl
theorem show_ok {x : Nd} {stk stk' : TL} (h : showStep x stk = some stk') : ndOk x := by
  obtain ⟨k, n, y⟩ := x
  unfold showStep at h
  simp only at h
  refine ⟨fun h1 => ?_, fun h2 => ?_, fun h1 h2 => ?_⟩
  · rw [if_pos h1] at h
    split at h
    · assumption
    · cases h
  · have h2' : k = 2 := h2
    rw [if_neg (by omega), if_pos h2'] at h
    split at h
    · rename_i hh; exact hh.2
    · cases h
  · rw [if_neg h1, if_neg h2] at h
    split at h
    · split at h
      · assumption
      · cases h
    · split at h
      · split at h
        · assumption
        · cases h
      · cases h
theorem showTo_tree {l : List Nd} : ∀ k, k ≤ l.length → (∀ j, j < k → ndOk (l.getD j (0, 0, noName))) → showTo l k = (treeTo l k).map (List.map tx) := by
  intro k
  induction k with
  | zero => intro _ _; rfl
  | succ k ih =>
    intro hk ho
    simp only [showTo, treeTo]
    rw [ih (by omega) (fun j hj => ho j (by omega))]
    cases h : treeTo l k with
    | none => rfl
    | some st => simp only [Option.map_some, Option.bind_some]; exact show_tree (ho k (by omega))
theorem showTo_ok {l : List Nd} : ∀ k stk, showTo l k = some stk → ∀ j, j < k → ndOk (l.getD j (0, 0, noName)) := by
  intro k
  induction k with
  | zero => intro _ _ j hj; omega
  | succ k ih =>
    intro stk h j hj
    simp only [showTo, Option.bind_eq_some_iff] at h
    obtain ⟨st, h1, h2⟩ := h
    by_cases e : j = k
    · subst e; exact show_ok h2
    · exact ih st h1 j (by omega)
theorem getD_all {l : List Nd} {p : Nd → Prop} (h : ∀ x ∈ l, p x) : ∀ j, j < l.length → p (l.getD j (0, 0, noName)) := by
  intro j hj
  rw [List.getD_eq_getElem?_getD, List.getElem?_eq_getElem hj]
  exact h _ (List.getElem_mem hj)

/-! ### what is read has nodes of the right form -/
def RecOk (rec : Int → Nat → Nat → PR) : Prop := ∀ lev a d l a', rec lev a d = some (l, a') → ∀ x ∈ l, ndOk x
theorem ok_prim {s : ByteArray} {rec : Int → Nat → Nat → PR} (hr : RecOk rec) {a d : Nat} {l : List Nd} {a' : Nat} (h : primP rec s a d = some (l, a')) : ∀ x ∈ l, ndOk x := by
  unfold primP at h
  split at h
  · split at h
    · cases h
    · split at h
      · cases h
      · rename_i l' b he
        split at h
        · cases h; exact hr _ _ _ _ _ he
        · cases h
  · split at h
    · split at h
      · cases h
      · rename_i hn
        cases h
        intro x hx
        simp at hx
        subst hx
        refine ⟨fun _ => ⟨⟨by simpa using hn, ?_⟩, isEmpty_noName⟩, fun h => by simp at h, fun h => absurd rfl h⟩
        generalize s.extract (skipTo s a) (wordTo s (skipTo s a)) = y at *
        simp only
        unfold numOf at hn ⊢
        split
        · rename_i ho
          unfold numOk at ho
          simp only [Bool.and_eq_true, decide_eq_true_eq] at ho
          have := (numTo_le ho.1 ho.2.2.1).2
          omega
        · omega
    · split at h
      · cases h
        intro x hx
        simp at hx
        subst hx
        exact ⟨fun h => by simp at h, fun _ => rfl, fun _ h => absurd rfl h⟩
      · cases h
theorem ok_unary {s : ByteArray} {rec : Int → Nat → Nat → PR} (hr : RecOk rec) {a d : Nat} {l : List Nd} {a' : Nat} (h : unaryP rec s a d = some (l, a')) : ∀ x ∈ l, ndOk x := by
  unfold unaryP at h
  split at h
  · cases h
  · rename_i l' b he
    cases h
    intro x hx
    rcases List.mem_append.1 hx with hx | hx
    · exact ok_prim hr he x hx
    · obtain ⟨k, _, rfl⟩ := List.mem_map.1 hx
      exact ndOk_sgn k
theorem ok_loop {s : ByteArray} {rec : Int → Nat → Nat → PR} (hr : RecOk rec) (level : Int) (d n : Nat) : ∀ {l : List Nd} {a : Nat} {l' : List Nd} {a' : Nat}, (∀ x ∈ l, ndOk x) → loopP rec s level d n l a = some (l', a') → ∀ x ∈ l', ndOk x := by
  induction n with
  | zero => intro l a l' a' ho h; cases h; exact ho
  | succ n ih =>
    intro l a l' a' ho h
    unfold loopP at h
    split at h
    · cases h; exact ho
    · split at h
      · cases h
      · rename_i r b he
        refine ih ?_ h
        intro x hx
        rcases List.mem_append.1 hx with hx | hx
        · rcases List.mem_append.1 hx with hx | hx
          · exact ho x hx
          · exact hr _ _ _ _ _ he x hx
        · simp at hx
          subst hx
          exact ndOk_sgn _
theorem ok_sum (s : ByteArray) (f : Nat) : RecOk (sumP s f) := by
  induction f with
  | zero => intro lev a d l a' h; cases h; simp
  | succ f ih =>
    intro lev a d l a' h
    unfold sumP at h
    split at h
    · exact ok_unary ih h
    · split at h
      · cases h
      · rename_i l0 b he
        exact ok_loop ih _ _ _ (ih _ _ _ _ _ he) h
theorem getM_ok {s : ByteArray} {l : List Nd} (h : getM s = some l) : ∀ x ∈ l, ndOk x := by
  rw [getM_free] at h
  split at h
  · cases h
  · split at h
    · cases h
    · rename_i l' a he
      split at h
      · cases h
      · split at h
        · cases h
        · cases h; exact ok_sum s _ _ _ _ _ _ he

/-- the sum that nodes are, as the program decides it -/
def sumM (l : List Nd) : Option Tree := match treeM l with | none => none | some t => if getM (textT t) = some l then some t else none
theorem treeM_show {l : List Nd} (h24 : ¬ 24 < l.length) (ho : ∀ j, j < l.length → ndOk (l.getD j (0, 0, noName))) : showM l = (treeM l).map textT := by
  unfold showM treeM
  rw [if_neg h24, showTo_tree l.length (Nat.le_refl _) ho]
  cases treeTo l l.length with
  | none => rfl
  | some st =>
    match st with
    | [] => rfl
    | [t] => rfl
    | a :: b :: r => rfl
theorem putM_sumM (l : List Nd) : putM l = match sumM l with | none => noName | some t => textT t := by
  unfold putM sumM
  by_cases h24 : 24 < l.length
  · rw [if_pos h24]
    unfold treeM
    rw [if_pos h24]
  rw [if_neg h24]
  by_cases ho : ∀ j, j < l.length → ndOk (l.getD j (0, 0, noName))
  · rw [treeM_show h24 ho]
    cases treeM l with
    | none => rfl
    | some t =>
      simp only [Option.map_some]
      split <;> rfl
  · have hs : showM l = none := by
      unfold showM
      cases he : showTo l l.length with
      | none => rfl
      | some stk => exact absurd (showTo_ok _ _ he) ho
    rw [hs]
    simp only
    cases treeM l with
    | none => rfl
    | some t =>
      simp only
      rw [if_neg (fun h => ho (getD_all (getM_ok h)))]

/-! ### what stands is well made -/
theorem tree_wf {l : List Nd} (hn : ∀ x ∈ l, -9223372036854775808 ≤ x.2.1 ∧ x.2.1 ≤ 9223372036854775807) : ∀ k, k ≤ l.length → ∀ {st : List Tree}, treeTo l k = some st → (∀ t ∈ st, Wf t) ∧ (st.map (fun t => t.nodes.length)).sum ≤ k := by
  intro k
  induction k with
  | zero => intro _ st h; simp [treeTo] at h; subst h; simp
  | succ k ih =>
    intro hk st h
    simp only [treeTo, Option.bind_eq_some_iff] at h
    obtain ⟨st0, h0, h1⟩ := h
    obtain ⟨hw, hsum⟩ := ih (by omega) h0
    have hx := getD_all hn k (by omega)
    generalize l.getD k (0, 0, noName) = x at *
    obtain ⟨kd, n, y⟩ := x
    unfold treeNext treeStep at h1
    simp only at h1 hx
    by_cases e1 : kd = 1
    · rw [if_pos e1] at h1
      cases h1
      refine ⟨fun t ht => ?_, ?_⟩
      · rcases List.mem_cons.1 ht with rfl | ht
        · exact hx
        · exact hw t ht
      · simp [Tree.nodes]; omega
    rw [if_neg e1] at h1
    by_cases e2 : kd = 2
    · rw [if_pos e2] at h1
      by_cases hm : nmB y = true
      · rw [if_pos hm] at h1
        cases h1
        refine ⟨fun t ht => ?_, ?_⟩
        · rcases List.mem_cons.1 ht with rfl | ht
          · show y.size ≤ 6
            unfold nmB at hm; simp at hm; omega
          · exact hw t ht
        · simp [Tree.nodes]; omega
      · rw [if_neg hm] at h1; cases h1
    rw [if_neg e2] at h1
    by_cases e3 : kd = 3 ∨ kd = 4
    · rw [if_pos e3] at h1
      match st0, h1, hw, hsum with
      | [], h1, _, _ => cases h1
      | t0 :: r, h1, hw, hsum =>
        cases h1
        refine ⟨fun t ht => ?_, ?_⟩
        · rcases List.mem_cons.1 ht with rfl | ht
          · exact ⟨e3, hw t0 (by simp)⟩
          · exact hw t (by simp [ht])
        · simp [Tree.nodes] at hsum ⊢; omega
    rw [if_neg e3] at h1
    by_cases e5 : 5 ≤ kd ∧ kd ≤ 13
    · rw [if_pos e5] at h1
      match st0, h1, hw, hsum with
      | [], h1, _, _ => cases h1
      | [_], h1, _, _ => cases h1
      | r0 :: l0 :: q, h1, hw, hsum =>
        cases h1
        refine ⟨fun t ht => ?_, ?_⟩
        · rcases List.mem_cons.1 ht with rfl | ht
          · exact ⟨e5, hw l0 (by simp), hw r0 (by simp)⟩
          · exact hw t (by simp [ht])
        · simp [Tree.nodes] at hsum ⊢; omega
    rw [if_neg e5] at h1
    cases h1
theorem treeM_wf {l : List Nd} {t : Tree} (hn : ∀ x ∈ l, -9223372036854775808 ≤ x.2.1 ∧ x.2.1 ≤ 9223372036854775807) (h : treeM l = some t) : Wf t ∧ t.nodes.length ≤ 24 := by
  unfold treeM at h
  split at h
  · cases h
  · split at h
    · rename_i h24 t' he
      cases h
      obtain ⟨h1, h2⟩ := tree_wf hn _ (Nat.le_refl _) he
      simp at h2
      exact ⟨h1 t (by simp), by omega⟩
    · cases h
end Go.Proofs.YtcajjngjojegfaaGreatDoor
