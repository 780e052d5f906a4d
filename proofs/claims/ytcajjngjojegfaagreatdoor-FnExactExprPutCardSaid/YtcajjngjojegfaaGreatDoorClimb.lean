/- The program's reader as a function: it climbs by how tightly signs bind. Plain: no program. -/
import Derived.Test.YtcajjngjojegfaaGreatDoorFree
namespace Go.Proofs.YtcajjngjojegfaaGreatDoor
open Go Go.PlainAid
set_option linter.unusedSimpArgs false
set_option linter.unusedVariables false

/-- a part of a sum -/
inductive Tree where
  | num (n : Int)
  | name (x : ByteArray)
  | ahead (k : Int) (t : Tree)
  | pair (k : Int) (l r : Tree)
def Tree.nodes : Tree → List Nd
  | .num n => [(1, n, noName)]
  | .name x => [(2, 0, x)]
  | .ahead k t => t.nodes ++ [sgn k]
  | .pair k l r => l.nodes ++ r.nodes ++ [sgn k]
/-- a part and the place behind it -/
abbrev CR := Option (Tree × Nat)

/-- the place of the next byte that is no figure -/
def figF (s : ByteArray) : Nat → Nat → Nat
  | 0, a => a
  | f + 1, a => if a < s.size ∧ figB (bt s a) = true then figF s f (a + 1) else a
def figEnd (s : ByteArray) (a : Nat) : Nat := figF s (s.size - a) a
/-- the kind of the sign between two parts that stands at a place; 0, if there is none -/
def pairAt (s : ByteArray) (k : Nat) : Nat := ((List.range' 5 9).find? (fun j => hasAt s k (sg j))).getD 0

def numberC (s : ByteArray) (a : Nat) : CR :=
  if 6 < figEnd s a - a ∨ (1 < figEnd s a - a ∧ bt s a = 48) then none else some (.num (numTo (s.extract a (figEnd s a)) (figEnd s a - a)), figEnd s a)
def singleC (rec : Int → Nat → Nat → CR) (s : ByteArray) (a d : Nat) : CR :=
  if s.size ≤ a then none
  else if bt s a = 40 then
    if d = 6 then none
    else match rec 1 (a + 1) (d + 1) with
      | none => none
      | some (t, a') => if hasAt s a' rpar then some (t, a' + 1) else none
  else if figB (bt s a) then numberC s a
  else if nmB (s.extract a (wordTo s a)) then some (.name (s.extract a (wordTo s a)), wordTo s a) else none
def aheadC (rec : Int → Nat → Nat → CR) (s : ByteArray) (d : Nat) : Nat → Nat → CR
  | 0, _ => none
  | n + 1, a => if bt s (skipTo s a) = 45 then (match aheadC rec s d n (skipTo s a + 1) with | none => none | some (t, a') => some (.ahead 3 t, a'))
    else if bt s (skipTo s a) = 33 then (match aheadC rec s d n (skipTo s a + 1) with | none => none | some (t, a') => some (.ahead 4 t, a'))
    else singleC rec s (skipTo s a) d
def loopC (rec : Int → Nat → Nat → CR) (s : ByteArray) (least : Int) (d : Nat) : Nat → Tree → Nat → CR
  | 0, _, _ => none
  | n + 1, t, a => if pairAt s (skipTo s a) = 0 ∨ lvl (pairAt s (skipTo s a)) < least then some (t, skipTo s a)
    else match rec (lvl (pairAt s (skipTo s a)) + 1) (skipTo s a + (sg (pairAt s (skipTo s a))).size) d with
      | none => none
      | some (r, a') => loopC rec s least d n (.pair (pairAt s (skipTo s a)) t r) a'
def climbF (s : ByteArray) : Nat → Int → Nat → Nat → CR
  | 0, _, _, _ => none
  | f + 1, least, a, d => match aheadC (climbF s f) s d (s.size - a + 1) a with
    | none => none
    | some (t, a') => loopC (climbF s f) s least d (s.size - a' + 1) t a'

/-! ### bytes and signs -/
theorem bt_extract (s : ByteArray) {i j k : Nat} (hj : j ≤ s.size) (h : i + k < j) : bt (s.extract i j) k = bt s (i + k) := by
  unfold bt
  have h1 : k < (s.extract i j).size := by rw [ByteArray.size_extract]; omega
  rw [dif_pos h1, dif_pos (show i + k < s.size by omega)]
  rw [ByteArray.getElem_extract]
theorem hasAt_bt {s : ByteArray} {k : Nat} {g : ByteArray} (h : hasAt s k g = true) {j : Nat} (hj : j < g.size) : bt s (k + j) = bt g j := by
  have h1 := hasAt_lt h
  unfold hasAt at h
  simp at h
  have e : s.extract k (k + g.size) = g := by
    have := h.2
    rw [Lib.toList_data, Lib.toList_data] at this
    exact ByteArray.ext (Array.toList_inj.1 this)
  rw [← bt_extract s (i := k) (j := k + g.size) h1 (by omega), e]
theorem hasAt_of {s : ByteArray} {k : Nat} {g : ByteArray} (h1 : k + g.size ≤ s.size) (h : ∀ j, j < g.size → bt s (k + j) = bt g j) : hasAt s k g = true := by
  unfold hasAt
  simp only [Bool.and_eq_true, decide_eq_true_eq, beq_iff_eq]
  refine ⟨h1, ?_⟩
  have hs : (s.extract k (k + g.size)).size = g.size := by rw [ByteArray.size_extract]; omega
  have e : s.extract k (k + g.size) = g := by
    apply ByteArray.ext
    apply Array.ext
    · exact hs
    · intro i h2 h3
      have h4 : i < g.size := h3
      have h5 := h i h4
      rw [← bt_extract s (i := k) (j := k + g.size) h1 (by omega)] at h5
      unfold bt at h5
      rw [dif_pos (by rw [hs]; exact h4), dif_pos h4] at h5
      apply UInt8.toNat_inj.1
      exact_mod_cast h5
  rw [e]
theorem lpar_at (s : ByteArray) (k : Nat) : hasAt s k lpar = decide (bt s k = 40) := by
  by_cases h : bt s k = 40
  · rw [decide_eq_true h]
    have := bt_lt h (by decide)
    exact hasAt_of (by show k + 1 ≤ s.size; omega) (fun j hj => by
      have h1 : j < 1 := hj
      have : j = 0 := by omega
      subst this; rw [Nat.add_zero, h]; decide)
  · rw [decide_eq_false h]
    cases e : hasAt s k lpar with
    | false => rfl
    | true => exact absurd ((hasAt_bt e (j := 0) (by decide)).trans (by decide)) h
theorem rpar_at (s : ByteArray) (k : Nat) : hasAt s k rpar = decide (bt s k = 41) := by
  by_cases h : bt s k = 41
  · rw [decide_eq_true h]
    have := bt_lt h (by decide)
    exact hasAt_of (by show k + 1 ≤ s.size; omega) (fun j hj => by
      have h1 : j < 1 := hj
      have : j = 0 := by omega
      subst this; rw [Nat.add_zero, h]; decide)
  · rw [decide_eq_false h]
    cases e : hasAt s k rpar with
    | false => rfl
    | true => exact absurd ((hasAt_bt e (j := 0) (by decide)).trans (by decide)) h
theorem sg_cases {j : Nat} (h : 5 ≤ j ∧ j ≤ 13) : j = 5 ∨ j = 6 ∨ j = 7 ∨ j = 8 ∨ j = 9 ∨ j = 10 ∨ j = 11 ∨ j = 12 ∨ j = 13 := by omega
/-- a sign's first byte -/
def sgb (j : Nat) : Int := bt (sg j) 0
theorem sgb_inj {i j : Nat} (hi : 5 ≤ i ∧ i ≤ 13) (hj : 5 ≤ j ∧ j ≤ 13) (h : sgb i = sgb j) : i = j := by
  rcases sg_cases hi with rfl | rfl | rfl | rfl | rfl | rfl | rfl | rfl | rfl <;> rcases sg_cases hj with rfl | rfl | rfl | rfl | rfl | rfl | rfl | rfl | rfl <;> first | rfl | (revert h; decide)
theorem sg_pos {j : Nat} (h : 5 ≤ j ∧ j ≤ 13) : 1 ≤ (sg j).size := by
  rcases sg_cases h with rfl | rfl | rfl | rfl | rfl | rfl | rfl | rfl | rfl <;> decide
theorem sgb_no {j : Nat} (h : 5 ≤ j ∧ j ≤ 13) : alnB (sgb j) = false ∧ sgb j ≠ 32 ∧ sgb j ≠ 41 := by
  rcases sg_cases h with rfl | rfl | rfl | rfl | rfl | rfl | rfl | rfl | rfl <;> decide
theorem hasAt_sgb {s : ByteArray} {k j : Nat} (h : 5 ≤ j ∧ j ≤ 13) (hh : hasAt s k (sg j) = true) : bt s k = sgb j := by
  have := hasAt_bt hh (j := 0) (sg_pos h)
  exact this
theorem pairAt_yes {s : ByteArray} {k j : Nat} (h : 5 ≤ j ∧ j ≤ 13) (hh : hasAt s k (sg j) = true) : pairAt s k = j := by
  unfold pairAt
  have : (List.range' 5 9).find? (fun j => hasAt s k (sg j)) = some j := by
    rw [List.find?_range'_eq_some]
    refine ⟨hh, by simp; omega, fun i h1 h2 => ?_⟩
    cases e : hasAt s k (sg i) with
    | false => rfl
    | true => have := sgb_inj (i := i) ⟨h1, by omega⟩ h ((hasAt_sgb ⟨h1, by omega⟩ e).symm.trans (hasAt_sgb h hh)); omega
  rw [this]; rfl
theorem pairAt_is {s : ByteArray} {k : Nat} (h : pairAt s k ≠ 0) : (5 ≤ pairAt s k ∧ pairAt s k ≤ 13) ∧ hasAt s k (sg (pairAt s k)) = true := by
  unfold pairAt at *
  cases hf : (List.range' 5 9).find? (fun j => hasAt s k (sg j)) with
  | none => rw [hf] at h; simp at h
  | some j =>
    have h1 := List.find?_some hf
    have h2 := List.mem_of_find?_eq_some hf
    simp at h2
    exact ⟨by simp; omega, h1⟩
theorem findSign_pair (s : ByteArray) (k : Nat) (level : Int) : findSign s k level = if pairAt s k ≠ 0 ∧ lvl (pairAt s k) = level then pairAt s k else 0 := by
  split
  · rename_i h
    have hp := pairAt_is h.1
    refine findSign_yes hp.1 (by unfold isSign; simp [h.2, hp.2]) (fun i h1 h2 => ?_)
    unfold isSign
    cases e : hasAt s k (sg i) with
    | false => simp
    | true => have := pairAt_yes (j := i) ⟨h1, by omega⟩ e; omega
  · rename_i h
    refine findSign_no (fun i h1 h2 => ?_)
    unfold isSign
    cases e : hasAt s k (sg i) with
    | false => simp
    | true =>
      have := pairAt_yes (j := i) ⟨h1, by omega⟩ e
      simp only [Bool.and_true, beq_eq_false_iff_ne]
      intro hl
      exact h ⟨by omega, by rw [this]; exact hl⟩
theorem lvl_range (k : Int) : 1 ≤ lvl k ∧ lvl k ≤ 5 := by
  unfold lvl
  repeat' split
  all_goals omega
theorem pair_lt {s : ByteArray} {k : Nat} (h : pairAt s k ≠ 0) : k + (sg (pairAt s k)).size ≤ s.size ∧ 1 ≤ (sg (pairAt s k)).size ∧ alnB (bt s k) = false ∧ bt s k ≠ 32 ∧ k < s.size := by
  have hp := pairAt_is h
  have h1 := hasAt_lt hp.2
  have h2 := sg_pos hp.1
  have h3 := sgb_no hp.1
  have h4 := hasAt_sgb hp.1 hp.2
  rw [h4]
  exact ⟨h1, h2, h3.1, h3.2.1, by omega⟩
end Go.Proofs.YtcajjngjojegfaaGreatDoor
