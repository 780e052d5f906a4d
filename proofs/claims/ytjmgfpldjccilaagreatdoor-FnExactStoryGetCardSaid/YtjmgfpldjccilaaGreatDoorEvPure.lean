/- Events as numbers, and how they are written: lists of bytes. No program. -/
import Derived.Test.YtjmgfpldjccilaaGreatDoorAreSent
import Derived.Lib.ItoaNum
import Derived.Lib.ItoaLen
import Derived.Lib.Split
import Derived.Lib.SplitLaws
import Derived.Lib.Join
import Derived.Lib.AtoiAll
import Derived.Lib.AtoiAllCases
namespace Go.Proofs.YtjmgfpldjccilaaGreatDoor
open Go
set_option linter.unusedSimpArgs false
set_option linter.unusedVariables false

/-- kind, place, number, values -/
abbrev Ev := Int × Int × Int × List Int
/-- the words, by their kinds -/
def wordsL : List (List UInt8) := [[], [112, 117, 115, 104], [116, 97, 107, 101], [116, 105, 99, 107], [98, 114, 105, 110, 103], [107, 101, 101, 112], [108, 111, 115, 101], [115, 112, 111, 105, 108], [115, 97, 118, 101], [102, 97, 108, 108]]
def wd (k : Int) : List UInt8 := wordsL.getD k.toNat []
def numB (n : Int) : Bool := decide (0 ≤ n ∧ n ≤ 999999)
def okE (e : Ev) : Bool := decide (1 ≤ e.1 ∧ e.1 ≤ 9) && numB e.2.1 && numB e.2.2.1 && (decide (e.2.2.1 = 0) || decide (e.1 = 7)) && (e.2.2.2.isEmpty || (decide (e.1 = 1) && sentB e.2.2.2))
def valsT (l : List Int) : List UInt8 := Lib.join (l.map Lib.itoa) [44]
def tailT (e : Ev) : List UInt8 := if e.1 = 7 then 32 :: Lib.itoa e.2.2.1 else if e.2.2.2 = [] then [] else 32 :: valsT e.2.2.2
def evT (e : Ev) : List UInt8 := wd e.1 ++ 32 :: (Lib.itoa e.2.1 ++ tailT e)
def putE (e : Ev) : List UInt8 := if okE e then evT e else []

/-! ### a byte that is not there -/
def NoB (c : UInt8) (l : List UInt8) : Prop := c ∉ l
theorem index_no (c : UInt8) : ∀ l : List UInt8, NoB c l → Lib.index l [c] = -1
  | [], _ => rfl
  | b :: l, h => by
    have hb : (c == b) = false := by
      rw [beq_eq_false_iff_ne]; intro e; exact h (by simp [e])
    have hr := index_no c l (fun e => h (List.mem_cons_of_mem _ e))
    unfold Lib.index
    simp [List.isPrefixOf, hb, hr]
theorem index_at (c : UInt8) : ∀ a b : List UInt8, NoB c a → Lib.index (a ++ c :: b) [c] = (a.length : Int)
  | [], b, _ => by
    unfold Lib.index
    simp [List.isPrefixOf]
  | x :: a, b, h => by
    have hb : (c == x) = false := by
      rw [beq_eq_false_iff_ne]; intro e; exact h (by simp [e])
    have hr := index_at c a b (fun e => h (List.mem_cons_of_mem _ e))
    rw [List.cons_append]
    unfold Lib.index
    have h1 : ((a.length : Int) == -1) = false := by rw [beq_eq_false_iff_ne]; omega
    simp [List.isPrefixOf, hb, hr, h1]
theorem splitK_no (c : UInt8) (k : Nat) (l : List UInt8) (h : NoB c l) : Lib.splitK [c] 0 k l = [l] := by
  cases k with
  | zero => rfl
  | succ k => unfold Lib.splitK; rw [index_no c l h]; rfl
theorem splitK_at (c : UInt8) (k : Nat) (a b : List UInt8) (h : NoB c a) : Lib.splitK [c] 0 (k + 1) (a ++ c :: b) = a :: Lib.splitK [c] 0 k b := by
  have h1 : ((a.length : Int) == -1) = false := by rw [beq_eq_false_iff_ne]; omega
  have h2 : Lib.splitK [c] 0 (k + 1) (a ++ c :: b) = if Lib.index (a ++ c :: b) [c] == -1 then [a ++ c :: b] else (a ++ c :: b).take ((Lib.index (a ++ c :: b) [c]).toNat + 0) :: Lib.splitK [c] 0 k ((a ++ c :: b).drop ((Lib.index (a ++ c :: b) [c]).toNat + [c].length)) := rfl
  rw [h2, index_at c a b h, h1]
  have h3 : (a ++ c :: b).drop (a.length + 1) = b := by
    rw [show a ++ c :: b = (a ++ [c]) ++ b by simp, List.drop_append_of_le_length (by simp)]
    simp
  simp only [Int.toNat_natCast, Nat.add_zero, List.length_singleton, h3, Bool.false_eq_true, if_false]
  simp
theorem noB_count {c : UInt8} {a : List UInt8} (h : NoB c a) : a.count c = 0 := List.count_eq_zero.2 h
/-- all pieces -/
def spl (c : UInt8) (l : List UInt8) : List (List UInt8) := Lib.splitK [c] 0 (Lib.count l [c]) l
theorem spl_no (c : UInt8) (l : List UInt8) (h : NoB c l) : spl c l = [l] := splitK_no c _ l h
theorem spl_at (c : UInt8) (a b : List UInt8) (h : NoB c a) : spl c (a ++ c :: b) = a :: spl c b := by
  unfold spl
  rw [Lib.count_one, Lib.count_one, List.count_append, noB_count h, List.count_cons_self, Nat.zero_add]
  exact splitK_at c _ a b h

/-! ### numbers -/
theorem digit_le (u : Nat) : ∀ b ∈ Lib.decDigits u, 48 ≤ b.toNat ∧ b.toNat ≤ 57 := by
  induction u using Nat.strongRecOn with
  | _ u ih =>
    intro b hb
    have one : ∀ x : Nat, x < 10 → (UInt8.ofNat (48 + x)).toNat = 48 + x := fun x hx => by
      rw [UInt8.toNat_ofNat']; omega
    rw [Lib.decDigits] at hb
    split at hb
    · rw [List.mem_singleton] at hb
      subst hb
      rw [one u (by assumption)]
      omega
    · rcases List.mem_append.1 hb with h | h
      · exact ih (u / 10) (by omega) b h
      · rw [List.mem_singleton] at h
        subst h
        rw [one (u % 10) (by omega)]
        omega
theorem digits_ne (u : Nat) : Lib.decDigits u ≠ [] := by
  intro h
  have h1 := Lib.decDigits_length u
  have h2 := Lib.nDigits_pos u
  rw [h] at h1
  simp at h1
  omega
theorem nDigits_le {u k : Nat} (h : u < 10 ^ (k + 1)) : Lib.nDigits u ≤ k + 1 := by
  induction k generalizing u with
  | zero => rw [Lib.nDigits_small (by simpa using h)]; omega
  | succ k ih =>
    by_cases h10 : u < 10
    · rw [Lib.nDigits_small h10]; omega
    · rw [Lib.nDigits_big h10]
      have : u / 10 < 10 ^ (k + 1) := by rw [Nat.pow_succ] at h; omega
      have := ih this
      omega
/-- what figures come to -/
def valD (l : List UInt8) : Nat := l.foldl (fun a b => a * 10 + (b.toNat - 48)) 0
theorem valD_append (l : List UInt8) (b : UInt8) : valD (l ++ [b]) = valD l * 10 + (b.toNat - 48) := by
  unfold valD; rw [List.foldl_append]; rfl
theorem valD_digits (u : Nat) : valD (Lib.decDigits u) = u := by
  induction u using Nat.strongRecOn with
  | _ u ih =>
    have one : ∀ x : Nat, x < 10 → (UInt8.ofNat (48 + x)).toNat = 48 + x := fun x hx => by
      rw [UInt8.toNat_ofNat']; omega
    rw [Lib.decDigits]
    split
    · show valD ([] ++ [_]) = _
      rw [valD_append, one u (by assumption)]
      simp [valD]
    · rw [valD_append, ih (u / 10) (by omega), one (u % 10) (by omega)]
      omega
theorem digits_lead {u : Nat} (h : 10 ≤ u) : ∃ b l, Lib.decDigits u = b :: l ∧ b.toNat ≠ 48 := by
  induction u using Nat.strongRecOn with
  | _ u ih =>
    rw [Lib.decDigits, dif_neg (by omega)]
    by_cases h1 : u / 10 < 10
    · rw [Lib.decDigits, dif_pos h1]
      refine ⟨_, _, rfl, ?_⟩
      rw [UInt8.toNat_ofNat']
      omega
    · obtain ⟨b, l, h2, h3⟩ := ih (u / 10) (by omega) (by omega)
      exact ⟨b, l ++ [UInt8.ofNat (48 + u % 10)], by rw [h2]; rfl, h3⟩
theorem itoa_nonneg {n : Int} (h : 0 ≤ n) : Lib.itoa n = Lib.decDigits n.toNat := by unfold Lib.itoa; rw [if_neg (by omega)]
theorem itoa_neg {n : Int} (h : n < 0) : Lib.itoa n = 45 :: Lib.decDigits n.natAbs := by unfold Lib.itoa; rw [if_pos h]
theorem itoa_bytes (n : Int) : ∀ b ∈ Lib.itoa n, b.toNat = 45 ∨ (48 ≤ b.toNat ∧ b.toNat ≤ 57) := by
  intro b hb
  by_cases h : n < 0
  · rw [itoa_neg h] at hb
    rcases List.mem_cons.1 hb with rfl | hb
    · exact .inl rfl
    · exact .inr (digit_le _ b hb)
  · rw [itoa_nonneg (by omega)] at hb
    exact .inr (digit_le _ b hb)
theorem itoa_ne (n : Int) : Lib.itoa n ≠ [] := by
  by_cases h : n < 0
  · rw [itoa_neg h]; simp
  · rw [itoa_nonneg (by omega)]; exact digits_ne _
theorem itoa_no (c : UInt8) (hc : c.toNat < 45 ∨ 57 < c.toNat ∨ c.toNat = 46 ∨ c.toNat = 47) (n : Int) : NoB c (Lib.itoa n) := by
  intro h
  have := itoa_bytes n c h
  omega
theorem itoa_len6 {n : Int} (h : 0 ≤ n) (h1 : n ≤ 999999) : (Lib.itoa n).length ≤ 6 := by
  rw [itoa_nonneg h, Lib.decDigits_length]
  exact nDigits_le (k := 5) (by omega)
theorem itoa_len11 {n : Int} (h : in32 n = true) : (Lib.itoa n).length ≤ 11 := by
  simp [in32] at h
  by_cases h0 : n < 0
  · rw [itoa_neg h0, List.length_cons, Lib.decDigits_length]
    have := nDigits_le (u := n.natAbs) (k := 9) (by omega)
    omega
  · rw [itoa_nonneg (by omega), Lib.decDigits_length]
    have := nDigits_le (u := n.toNat) (k := 9) (by omega)
    omega
/-- strconv.Atoi of what is written -/
theorem parse_digits : ∀ (l : List UInt8) (acc : Nat), (∀ b ∈ l, 48 ≤ b.toNat ∧ b.toNat ≤ 57) → (l.foldl (fun a b => a * 10 + (b.toNat - 48)) acc) < 1000000000000000000 → Lib.parseUint10 acc l = .ok (l.foldl (fun a b => a * 10 + (b.toNat - 48)) acc)
  | [], acc, _, _ => rfl
  | c :: r, acc, hb, hv => by
    have h1 := hb c (by simp)
    have mono : ∀ (l : List UInt8) (a : Nat), a ≤ l.foldl (fun a b => a * 10 + (b.toNat - 48)) a := by
      intro l
      induction l with
      | nil => intro a; exact Nat.le_refl _
      | cons x l ih => intro a; exact Nat.le_trans (by omega) (ih (a * 10 + (x.toNat - 48)))
    have h2 := mono r (acc * 10 + (c.toNat - 48))
    simp only [List.foldl_cons] at hv ⊢
    unfold Lib.parseUint10
    rw [if_pos h1, if_neg (by omega), if_neg (by omega)]
    exact parse_digits r _ (fun b hb' => hb b (by simp [hb'])) hv
theorem mag_digits {u : Nat} (h : u < 1000000000000000000) : Lib.parseMag (Lib.decDigits u) = .ok u := by
  unfold Lib.parseMag
  rw [if_neg (digits_ne u)]
  have h1 := valD_digits u
  unfold valD at h1
  rw [parse_digits _ 0 (digit_le u) (by rw [h1]; exact h), h1]
theorem atoi_itoa {n : Int} (h0 : -1000000000 * 1000000000 < n) (h1 : n < 1000000000 * 1000000000) : Lib.atoiAll (Lib.itoa n) = .ok n := by
  by_cases h : n < 0
  · rw [itoa_neg h]
    unfold Lib.atoiAll
    have e45 : (45 : UInt8).toNat = 45 := rfl
    simp only [e45]
    rw [if_pos (.inr trivial), mag_digits (by omega)]
    simp only []
    rw [if_neg (by simp), if_neg (by omega), if_pos trivial]
    congr 1
    omega
  · rw [itoa_nonneg (by omega)]
    obtain ⟨c, r, e⟩ : ∃ c r, Lib.decDigits n.toNat = c :: r := by
      cases hd : Lib.decDigits n.toNat with
      | nil => exact absurd hd (digits_ne _)
      | cons c r => exact ⟨c, r, rfl⟩
    have hm := mag_digits (u := n.toNat) (by omega)
    have hc := digit_le n.toNat c (by rw [e]; simp)
    rw [e] at hm ⊢
    unfold Lib.atoiAll
    simp only []
    rw [if_neg (by omega), hm]
    simp only []
    rw [if_neg (by omega), if_neg (by omega), if_neg (by omega)]
    congr 1
    omega

/-! ### values with commas -/
theorem valsT_cons (x : Int) (y : Int) (l : List Int) : valsT (x :: y :: l) = Lib.itoa x ++ 44 :: valsT (y :: l) := by
  unfold valsT
  rw [List.map_cons, Lib.join_cons, List.map_cons, Lib.join_cons]
  simp [Lib.joinTail]
theorem valsT_one (x : Int) : valsT [x] = Lib.itoa x := Lib.join_one _ _
theorem valsT_no (c : UInt8) (hc : c.toNat < 44 ∨ 57 < c.toNat) : ∀ l : List Int, NoB c (valsT l)
  | [] => by simp [valsT, Lib.join, NoB]
  | [x] => by rw [valsT_one]; exact itoa_no c (by omega) x
  | x :: y :: l => by
    rw [valsT_cons]
    intro h
    rcases List.mem_append.1 h with h | h
    · exact itoa_no c (by omega) x h
    · rcases List.mem_cons.1 h with rfl | h
      · exact absurd (show (44 : UInt8).toNat = 44 from rfl) (by omega)
      · exact valsT_no c hc (y :: l) h
theorem valsT_len : ∀ l : List Int, l.all in32 = true → (valsT l).length ≤ 12 * l.length
  | [], _ => by simp [valsT, Lib.join]
  | [x], h => by
    rw [valsT_one]
    have := itoa_len11 (n := x) (by simpa using h)
    simp
    omega
  | x :: y :: l, h => by
    rw [valsT_cons]
    have h1 : in32 x = true ∧ (y :: l).all in32 = true := by simpa using h
    have h2 := itoa_len11 h1.1
    have h3 := valsT_len (y :: l) h1.2
    simp only [List.length_append, List.length_cons] at h3 ⊢
    omega
theorem itoa_noC (n : Int) : NoB 44 (Lib.itoa n) := itoa_no 44 (.inl (by decide)) n
theorem valsT_spl : ∀ l : List Int, l ≠ [] → spl 44 (valsT l) = l.map Lib.itoa
  | [], h => absurd rfl h
  | [x], _ => by rw [valsT_one, spl_no _ _ (itoa_noC x)]; rfl
  | x :: y :: l, _ => by
    rw [valsT_cons, spl_at _ _ _ (itoa_noC x), valsT_spl (y :: l) (by simp)]
    rfl
theorem valsT_cut : ∀ (l : List Int) (k : Nat), l ≠ [] → l.length ≤ k + 1 → Lib.splitK [44] 0 k (valsT l) = l.map Lib.itoa
  | [], _, h, _ => absurd rfl h
  | [x], k, _, _ => by rw [valsT_one, splitK_no _ _ _ (itoa_noC x)]; rfl
  | x :: y :: l, k, _, hk => by
    obtain ⟨k, rfl⟩ : ∃ j, k = j + 1 := ⟨k - 1, by simp at hk; omega⟩
    rw [valsT_cons, splitK_at _ _ _ _ (itoa_noC x), valsT_cut (y :: l) k (by simp) (by simpa using hk)]
    rfl
theorem valsT_ne {l : List Int} (h : l ≠ []) : valsT l ≠ [] := by
  match l, h with
  | [x], _ => rw [valsT_one]; exact itoa_ne x
  | x :: y :: l, _ => rw [valsT_cons]; simp
theorem itoa_dash (n : Int) : Lib.itoa n ≠ [45] := by
  intro h
  by_cases h0 : n < 0
  · rw [itoa_neg h0] at h
    exact digits_ne n.natAbs (by simpa using h)
  · rw [itoa_nonneg (by omega)] at h
    have := digit_le n.toNat 45 (by rw [h]; simp)
    simp at this
theorem valsT_dash {l : List Int} : valsT l ≠ [45] := by
  match l with
  | [] => simp [valsT, Lib.join]
  | [x] => rw [valsT_one]; exact itoa_dash x
  | x :: y :: l =>
    rw [valsT_cons]
    intro h
    have h1 := congrArg List.length h
    have := itoa_ne x
    have h2 : 0 < (Lib.itoa x).length := List.length_pos_iff.2 this
    simp at h1
    omega

/-! ### events -/
theorem wd_cases {k : Int} (h : 1 ≤ k ∧ k ≤ 9) : k = 1 ∨ k = 2 ∨ k = 3 ∨ k = 4 ∨ k = 5 ∨ k = 6 ∨ k = 7 ∨ k = 8 ∨ k = 9 := by omega
theorem wd_no (c : UInt8) (hc : c.toNat < 97) {k : Int} (h : 1 ≤ k ∧ k ≤ 9) : NoB c (wd k) := by
  intro hm
  have : ∀ j : Fin 10, ∀ b ∈ wordsL.getD j.val [], 97 ≤ b.toNat := by decide
  have := this ⟨k.toNat, by omega⟩ c hm
  omega
theorem wd_len (k : Int) (h : 1 ≤ k ∧ k ≤ 9) : (wd k).length ≤ 5 := by
  have : ∀ j : Fin 10, (wordsL.getD j.val []).length ≤ 5 := by decide
  exact this ⟨k.toNat, by omega⟩
structure OkE (e : Ev) : Prop where
  kind : 1 ≤ e.1 ∧ e.1 ≤ 9
  at_ : 0 ≤ e.2.1 ∧ e.2.1 ≤ 999999
  num : 0 ≤ e.2.2.1 ∧ e.2.2.1 ≤ 999999
  spoil : e.2.2.1 = 0 ∨ e.1 = 7
  push : e.2.2.2 = [] ∨ (e.1 = 1 ∧ e.2.2.2.length ≤ 3 ∧ e.2.2.2.all in32 = true)
theorem okE_iff {e : Ev} : okE e = true ↔ OkE e := by
  obtain ⟨k, a, n, l⟩ := e
  constructor
  · intro h
    simp [okE, numB, sentB, all32, and_assoc] at h
    refine ⟨⟨h.1, h.2.1⟩, ⟨h.2.2.1, h.2.2.2.1⟩, ⟨h.2.2.2.2.1, h.2.2.2.2.2.1⟩, h.2.2.2.2.2.2.1, ?_⟩
    rcases h.2.2.2.2.2.2.2 with h | h
    · exact .inl h
    · exact .inr ⟨h.1, h.2.1, by simpa using h.2.2⟩
  · intro h
    have h1 := h.kind
    have h2 := h.at_
    have h3 := h.num
    have h4 := h.spoil
    have h5 := h.push
    simp only [] at h1 h2 h3 h4 h5
    simp only [okE, numB, sentB, all32]
    have e1 : decide (1 ≤ k ∧ k ≤ 9) = true := decide_eq_true h1
    have e2 : decide (0 ≤ a ∧ a ≤ 999999) = true := decide_eq_true h2
    have e3 : decide (0 ≤ n ∧ n ≤ 999999) = true := decide_eq_true h3
    have e4 : (decide (n = 0) || decide (k = 7)) = true := by simpa using h4
    have e5 : (l.isEmpty || (decide (k = 1) && (decide (l.length ≤ 3) && l.all in32))) = true := by
      rcases h5 with h | h
      · simp [h]
      · rw [h.2.2]; simp [h.1, h.2.1]
    rw [e1, e2, e3, e4, e5]
    rfl
theorem tailT_no (c : UInt8) (hc : c.toNat < 32) (e : Ev) : NoB c (tailT e) := by
  have h32 : (32 : UInt8).toNat = 32 := rfl
  unfold tailT
  split
  · intro h
    rcases List.mem_cons.1 h with rfl | h
    · omega
    · exact itoa_no c (by omega) _ h
  · split
    · simp [NoB]
    · intro h
      rcases List.mem_cons.1 h with rfl | h
      · omega
      · exact valsT_no c (by omega) _ h
/-- no line's end in it -/
theorem evT_no {e : Ev} (h : OkE e) : NoB 10 (evT e) := by
  intro hm
  unfold evT at hm
  rcases List.mem_append.1 hm with hm | hm
  · exact wd_no 10 (by decide) h.kind hm
  · rcases List.mem_cons.1 hm with hm | hm
    · exact absurd hm (by decide)
    · rcases List.mem_append.1 hm with hm | hm
      · exact itoa_no 10 (by decide) _ hm
      · exact tailT_no 10 (by decide) e hm
theorem evT_ne (e : Ev) : evT e ≠ [] := by unfold evT; simp
theorem evT_len {e : Ev} (h : OkE e) : (evT e).length ≤ 80 := by
  have h1 := wd_len e.1 h.kind
  have h2 := itoa_len6 h.at_.1 h.at_.2
  have h3 : (tailT e).length ≤ 40 := by
    unfold tailT
    split
    · have := itoa_len6 h.num.1 h.num.2
      simp; omega
    · split
      · simp
      · rcases h.push with h0 | ⟨_, h4, h5⟩
        · contradiction
        · have := valsT_len _ h5
          simp only [List.length_cons]
          omega
  unfold evT
  simp only [List.length_append, List.length_cons]
  omega
theorem itoa_noB (n : Int) : NoB 32 (Lib.itoa n) := itoa_no 32 (.inl (by decide)) n
/-- its words -/
def evW (e : Ev) : List (List UInt8) := wd e.1 :: Lib.itoa e.2.1 :: (if e.1 = 7 then [Lib.itoa e.2.2.1] else if e.2.2.2 = [] then [] else [valsT e.2.2.2])
theorem evT_spl {e : Ev} (h : OkE e) : spl 32 (evT e) = evW e := by
  unfold evT evW
  rw [spl_at _ _ _ (wd_no 32 (by decide) h.kind)]
  congr 1
  unfold tailT
  split
  · rw [spl_at _ _ _ (itoa_noB _), spl_no _ _ (itoa_noB _)]
  · split
    · rw [List.append_nil, spl_no _ _ (itoa_noB _)]
    · rw [spl_at _ _ _ (itoa_noB _), spl_no _ _ (valsT_no 32 (.inl (by decide)) _)]
theorem evT_cut {e : Ev} (h : OkE e) : Lib.splitK [32] 0 3 (evT e) = evW e := by
  unfold evT evW
  rw [splitK_at _ _ _ _ (wd_no 32 (by decide) h.kind)]
  congr 1
  unfold tailT
  split
  · rw [splitK_at _ _ _ _ (itoa_noB _), splitK_no _ _ _ (itoa_noB _)]
  · split
    · rw [List.append_nil, splitK_no _ _ _ (itoa_noB _)]
    · rw [splitK_at _ _ _ _ (itoa_noB _), splitK_no _ _ _ (valsT_no 32 (.inl (by decide)) _)]
theorem wd_inj {k j : Int} (hk : 1 ≤ k ∧ k ≤ 9) (hj : 1 ≤ j ∧ j ≤ 9) (h : wd k = wd j) : k = j := by
  have : ∀ a b : Fin 10, wordsL.getD a.val [] = wordsL.getD b.val [] → a = b := by decide
  have := this ⟨k.toNat, by omega⟩ ⟨j.toNat, by omega⟩ h
  have := congrArg Fin.val this
  simp only at this
  omega
theorem itoa_inj {n m : Int} (hn : -1000000000 * 1000000000 < n ∧ n < 1000000000 * 1000000000) (hm : -1000000000 * 1000000000 < m ∧ m < 1000000000 * 1000000000) (h : Lib.itoa n = Lib.itoa m) : n = m := by
  have h1 := atoi_itoa hn.1 hn.2
  have h2 := atoi_itoa hm.1 hm.2
  rw [h, h2] at h1
  injection h1 with h1
  exact h1.symm
theorem map_itoa_inj : ∀ {l r : List Int}, l.all in32 = true → r.all in32 = true → l.map Lib.itoa = r.map Lib.itoa → l = r
  | [], [], _, _, _ => rfl
  | [], y :: r, _, _, h => by simp at h
  | x :: l, [], _, _, h => by simp at h
  | x :: l, y :: r, hl, hr, h => by
    have a1 : in32 x = true ∧ l.all in32 = true := by simpa using hl
    have a2 : in32 y = true ∧ r.all in32 = true := by simpa using hr
    simp only [List.map_cons, List.cons.injEq] at h
    have b1 := a1.1
    have b2 := a2.1
    simp [in32] at b1 b2
    rw [itoa_inj ⟨by omega, by omega⟩ ⟨by omega, by omega⟩ h.1, map_itoa_inj a1.2 a2.2 h.2]
theorem evW_inj {e f : Ev} (he : OkE e) (hf : OkE f) (h : evW e = evW f) : e = f := by
  obtain ⟨k, a, n, l⟩ := e
  obtain ⟨k', a', n', l'⟩ := f
  have h1 := he.kind
  have h2 := he.at_
  have h3 := he.num
  have h4 := he.spoil
  have h5 := he.push
  have g1 := hf.kind
  have g2 := hf.at_
  have g3 := hf.num
  have g4 := hf.spoil
  have g5 := hf.push
  simp only [] at h1 h2 h3 h4 h5 g1 g2 g3 g4 g5
  simp only [evW, List.cons.injEq] at h
  obtain ⟨e1, e2, e3⟩ := h
  have e1 := wd_inj h1 g1 e1
  have e2 := itoa_inj ⟨by omega, by omega⟩ ⟨by omega, by omega⟩ e2
  subst e1
  subst e2
  by_cases h7 : k = 7
  · rw [if_pos h7, if_pos h7] at e3
    simp only [List.cons.injEq, and_true] at e3
    have e3 := itoa_inj ⟨by omega, by omega⟩ ⟨by omega, by omega⟩ e3
    subst e3
    have q1 : l = [] := h5.resolve_right (fun x => by omega)
    have q2 : l' = [] := g5.resolve_right (fun x => by omega)
    rw [q1, q2]
  · rw [if_neg h7, if_neg h7] at e3
    have q1 : n = 0 := h4.resolve_right h7
    have q2 : n' = 0 := g4.resolve_right h7
    subst q1
    subst q2
    by_cases z1 : l = []
    · by_cases z2 : l' = []
      · rw [z1, z2]
      · rw [if_pos z1, if_neg z2] at e3
        cases e3
    · by_cases z2 : l' = []
      · rw [if_neg z1, if_pos z2] at e3
        cases e3
      · rw [if_neg z1, if_neg z2] at e3
        simp only [List.cons.injEq, and_true] at e3
        have a1 := valsT_spl l z1
        have a2 := valsT_spl l' z2
        rw [e3, a2] at a1
        have b1 := (h5.resolve_left z1).2.2
        have b2 := (g5.resolve_left z2).2.2
        rw [map_itoa_inj b2 b1 a1]
theorem evT_inj {e f : Ev} (he : OkE e) (hf : OkE f) (h : evT e = evT f) : e = f :=
  evW_inj he hf (by rw [← evT_spl he, ← evT_spl hf, h])
end Go.Proofs.YtjmgfpldjccilaaGreatDoor
