/- The model's numbers: l1Num, l7Long. -/
import Derived.Test.YtjmgfpldjccilaaGreatDoorEvCutM
import Derived.Test.YtjmgfpldjccilaaGreatDoorFigure
namespace Go.Proofs.YtjmgfpldjccilaaGreatDoor
open Go Go.RowKit Go.PlainAid
set_option linter.unusedSimpArgs false
set_option linter.unusedVariables false

theorem figB_of {b : UInt8} (h : 48 ≤ b.toNat ∧ b.toNat ≤ 57) : figB (b.toNat : Int) = true := by unfold figB; simp; omega
theorem valD_lt : ∀ (l : List UInt8), (∀ b ∈ l, 48 ≤ b.toNat ∧ b.toNat ≤ 57) → valD l < 10 ^ l.length := by
  intro l
  have key : ∀ (l : List UInt8) (acc m : Nat), acc < 10 ^ m → (∀ b ∈ l, 48 ≤ b.toNat ∧ b.toNat ≤ 57) → l.foldl (fun a b => a * 10 + (b.toNat - 48)) acc < 10 ^ (m + l.length) := by
    intro l
    induction l with
    | nil => intro acc m h _; simpa using h
    | cons x l ih =>
      intro acc m h hb
      rw [List.foldl_cons]
      have h1 := ih (acc * 10 + (x.toNat - 48)) (m + 1) (by
        have := hb x (by simp)
        rw [Nat.pow_succ]
        omega) (fun b hb' => hb b (by simp [hb']))
      rw [List.length_cons, show m + (l.length + 1) = m + 1 + l.length by omega]
      exact h1
  intro hb
  have := key l 0 0 (by simp) hb
  simpa [valD] using this
/-- the value of the bytes from i on, up to k -/
def valAt (s : ByteArray) (i k : Nat) : Nat := valD ((s.data.toList.drop i).take (k - i))
theorem valAt_zero (s : ByteArray) (i : Nat) : valAt s i i = 0 := by unfold valAt; simp [valD]
theorem valAt_next (s : ByteArray) {i k : Nat} (hi : i ≤ k) (h : k < s.size) (hf : figB (bt s k) = true) : (valAt s i (k + 1) : Int) = valAt s i k * 10 + (bt s k - 48) := by
  have hl : k < s.data.toList.length := by rw [← Lib.size_eq]; exact h
  unfold valAt
  rw [drop_next hi hl, valD_append]
  have := bt_byte s k h hl
  simp [figB] at hf
  rw [this] at hf ⊢
  push_cast
  omega
theorem valAt_lt (s : ByteArray) {i k m : Nat} (hi : i ≤ k) (hk : k ≤ s.size) (hm : k - i ≤ m) (hf : ∀ j, i ≤ j → j < k → figB (bt s j) = true) : valAt s i k < 10 ^ m := by
  have hl : s.data.toList.length = s.size := (Lib.size_eq s).symm
  have h1 := valD_lt ((s.data.toList.drop i).take (k - i)) (by
    intro b hb
    obtain ⟨j, hj, e⟩ := List.mem_iff_getElem.1 hb
    rw [List.length_take, List.length_drop] at hj
    have e2 : b = s.data.toList[i + j]'(by omega) := by
      rw [← e, List.getElem_take, List.getElem_drop]
    have h2 := hf (i + j) (by omega) (by omega)
    rw [bt_byte s (i + j) (by omega) (by omega), ← e2] at h2
    simp [figB] at h2
    omega)
  refine Nat.lt_of_lt_of_le h1 (Nat.pow_le_pow_right (by decide) ?_)
  rw [List.length_take]
  omega
/-- what is so of a number's text -/
theorem num_facts {s : ByteArray} {n : Int} (h0 : 0 ≤ n) (e : s = bt8 (Lib.itoa n)) : (∀ k, k < s.size → figB (bt s k) = true) ∧ 1 ≤ s.size ∧ (n ≤ 999999 → s.size ≤ 6) ∧ (1 < s.size → bt s 0 ≠ 48) ∧ (valAt s 0 s.size : Int) = n := by
  rw [itoa_nonneg h0] at e
  have hd : s.data.toList = Lib.decDigits n.toNat := by rw [e, bt8_list]
  have hl : s.data.toList.length = s.size := (Lib.size_eq s).symm
  refine ⟨fun k hk => ?_, ?_, fun h6 => ?_, fun h1 => ?_, ?_⟩
  · have hkl : k < s.data.toList.length := by omega
    rw [bt_byte s k hk hkl]
    exact figB_of (digit_le n.toNat _ (by rw [← hd]; exact List.getElem_mem _))
  · rw [← hl, hd]; exact List.length_pos_iff.2 (digits_ne _)
  · rw [← hl, hd, ← itoa_nonneg h0]; exact itoa_len6 h0 h6
  · have h10 : 10 ≤ n.toNat := by
      by_cases h : 10 ≤ n.toNat
      · exact h
      · rw [Lib.decDigits, dif_pos (by omega)] at hd
        rw [← hl, hd] at h1
        simp at h1
    obtain ⟨b, r, e1, e2⟩ := digits_lead h10
    have hkl : 0 < s.data.toList.length := by omega
    rw [bt_byte s 0 (by omega) hkl]
    have e3 : s.data.toList[0]'hkl = b := by
      have : s.data.toList = b :: r := by rw [hd, e1]
      simp [this]
    rw [e3]
    omega
  · unfold valAt
    rw [List.drop_zero, Nat.sub_zero, List.take_of_length_le (by omega), hd, valD_digits]
    omega
theorem neg_facts {s : ByteArray} {n : Int} (h0 : n < 0) (e : s = bt8 (Lib.itoa n)) : bt s 0 = 45 ∧ 2 ≤ s.size ∧ (∀ k, 1 ≤ k → k < s.size → figB (bt s k) = true) ∧ (in32 n = true → s.size ≤ 11) ∧ (valAt s 1 s.size : Int) = -n := by
  have hsz : in32 n = true → s.size ≤ 11 := fun h => by rw [e, bt8_size]; exact itoa_len11 h
  rw [itoa_neg h0] at e
  have hd : s.data.toList = 45 :: Lib.decDigits n.natAbs := by rw [e, bt8_list]
  have hl : s.data.toList.length = s.size := (Lib.size_eq s).symm
  have hp : 0 < (Lib.decDigits n.natAbs).length := List.length_pos_iff.2 (digits_ne _)
  have h2 : 2 ≤ s.size := by rw [← hl, hd, List.length_cons]; omega
  refine ⟨?_, h2, fun k h1 hk => ?_, hsz, ?_⟩
  · have hkl : 0 < s.data.toList.length := by omega
    rw [bt_byte s 0 (by omega) hkl]
    have e3 : s.data.toList[0]'hkl = 45 := by simp [hd]
    rw [e3]
    rfl
  · have hkl : k < s.data.toList.length := by omega
    rw [bt_byte s k hk hkl]
    have e3 : s.data.toList[k]'hkl ∈ Lib.decDigits n.natAbs := by
      obtain ⟨j, rfl⟩ : ∃ j, k = j + 1 := ⟨k - 1, by omega⟩
      simp only [hd, List.getElem_cons_succ]
      exact List.getElem_mem _
    exact figB_of (digit_le n.natAbs _ e3)
  · unfold valAt
    rw [hd, List.drop_one, List.tail_cons, List.take_of_length_le (by rw [← hl, hd, List.length_cons]; omega), valD_digits]
    omega

set_option maxHeartbeats 3200000 in
set_option maxRecDepth 100000 in
theorem l1Num_any (s : ByteArray) (w : World) (hs : s.size ≤ 1048576) :
    Calls Tryz.prog 54 #[.string s] w fun e w' => ∃ v, e = .returned (.int .i64 v) ∧ (∀ n : Int, 0 ≤ n → n ≤ 999999 → s = bt8 (Lib.itoa n) → v = n) ∧ w' = w := by
  have hb := get_bt s
  have HNF : Hid (∀ n : Int, 0 ≤ n → n ≤ 999999 → s = bt8 (Lib.itoa n) → (∀ k, k < s.size → figB (bt s k) = true) ∧ 1 ≤ s.size ∧ s.size ≤ 6 ∧ (1 < s.size → bt s 0 ≠ 48) ∧ (valAt s 0 s.size : Int) = n) := fun n h0 h1 e => by
    have := num_facts h0 e
    exact ⟨this.1, this.2.1, this.2.2.1 h1, this.2.2.2⟩
  go_enter Tryz.func54, Tryz.ntmps54
  go_wp2_with fail
  go_loop [3, 4] (fun v i => ∃ k : Nat, k ≤ s.size ∧ k ≤ 6 ∧ i = .int .i64 k ∧ v = .int .i64 (valAt s 0 k) ∧ Hid (∀ j, j < k → figB (bt s j) = true)) (fun _ i => s.size - (intOf i).toNat)
  case atStart => exact ⟨0, Nat.zero_le _, Nat.zero_le _, rfl, by rw [valAt_zero]; rfl, fun j h => absurd h (Nat.not_lt_zero _)⟩
  case round =>
    obtain ⟨k, hk, hk6, rfl, rfl, HF⟩ := hrel
    have hv := valAt_lt s (Nat.zero_le k) hk (m := 6) (by omega) (fun j _ h => HF.out j h)
    by_cases hlt : k < s.size
    · have HFG := hidOf (fun w => l1Figure_any (bt s k) w)
      cases hf : figB (bt s k) with
      | false =>
        have HR : Hid (∀ n : Int, 0 ≤ n → n ≤ 999999 → s = bt8 (Lib.itoa n) → (-1 : Int) = n) := fun n h0 h1 e => by
          have := (HNF.out n h0 h1 e).1 k hlt
          rw [hf] at this
          cases this
        rw [hf] at HFG
        clear hf
        go_wp2_with fail
        refine (HFG.out _).mono ?_
        rintro e w' ⟨rfl, rfl⟩
        go_wp2_with fail
        go_ret
        exact ⟨-1, rfl, HR.out, rfl⟩
      | true =>
        have hn := valAt_next s (Nat.zero_le k) hlt hf
        have hf' := hf
        simp [figB] at hf'
        have HF1 := hidOf hf
        rw [hf] at HFG
        clear hf
        by_cases h6 : k < 6
        · obtain ⟨V, hV⟩ : ∃ V : Nat, valAt s 0 k = V := ⟨_, rfl⟩
          obtain ⟨X, hX⟩ : ∃ X : Int, bt s k = X := ⟨_, rfl⟩
          rw [hV] at hv hn
          rw [hX] at hf' hn HFG
          have HN := hidOf hn
          have hbx : ∀ (h : k < s.size), ((s[k]'h).toNat : Int) = X := fun h => by rw [hb k h, hX]
          have HX := hidOf hX
          have p1 : IntKind.u8.wrap (X - 48) = X - 48 := IntWalk.u8_in _ ⟨by omega, by omega⟩
          have p2 : IntKind.i64.wrap (X - 48) = X - 48 := IntWalk.i64_in _ ⟨by omega, by omega⟩
          have p3 : IntKind.i64.wrap ((V : Int) * 10) = (V : Int) * 10 := IntWalk.i64_in _ ⟨by omega, by omega⟩
          have p4 : IntKind.i64.wrap ((V : Int) * 10 + (X - 48)) = (V : Int) * 10 + (X - 48) := IntWalk.i64_in _ ⟨by omega, by omega⟩
          have h6' : ¬ ((k : Int) ≥ 6) := by omega
          rw [hV]
          clear hb hn hV hX
          go_wp2_with fail
          refine (HFG.out _).mono ?_
          rintro e w' ⟨rfl, rfl⟩
          go_wp2_with fail
          go_round
          case rel =>
            refine ⟨k + 1, by omega, by omega, by go_num, congrArg (Value.int IntKind.i64) HN.out.symm, fun j hj => ?_⟩
            by_cases e : j = k
            · subst e; exact HF1.out
            · exact HF.out j (by omega)
          case measure => simp [intOf]; omega
        · have HR : Hid (∀ n : Int, 0 ≤ n → n ≤ 999999 → s = bt8 (Lib.itoa n) → (-1 : Int) = n) := fun n h0 h1 e => by
            have := (HNF.out n h0 h1 e).2.2.1
            omega
          have h6' : (k : Int) ≥ 6 := by omega
          clear hn
          go_wp2_with fail
          refine (HFG.out _).mono ?_
          rintro e w' ⟨rfl, rfl⟩
          go_wp2_with fail
          go_ret
          exact ⟨-1, rfl, HR.out, rfl⟩
    · have : k = s.size := by omega
      subst this
      by_cases h0 : s.size = 0
      · have HR : Hid (∀ n : Int, 0 ≤ n → n ≤ 999999 → s = bt8 (Lib.itoa n) → (-1 : Int) = n) := fun n h1 h2 e => by
          have := (HNF.out n h1 h2 e).2.1
          omega
        go_wp2_with fail
        go_ret
        exact ⟨-1, rfl, HR.out, rfl⟩
      · have h0' : ((s.size : Int) == 0) = false := by rw [beq_eq_false_iff_ne]; omega
        have HR : Hid (∀ n : Int, 0 ≤ n → n ≤ 999999 → s = bt8 (Lib.itoa n) → (valAt s 0 s.size : Int) = n) := fun n h1 h2 e => (HNF.out n h1 h2 e).2.2.2.2
        by_cases h1 : 1 < s.size
        · by_cases h48 : bt s 0 = 48
          · have HR : Hid (∀ n : Int, 0 ≤ n → n ≤ 999999 → s = bt8 (Lib.itoa n) → (-1 : Int) = n) := fun n h2 h3 e => absurd h48 ((HNF.out n h2 h3 e).2.2.2.1 h1)
            have h1' : (1 : Int) < s.size := by omega
            have hbx : ∀ (h : 0 < s.size), ((s[0]'h).toNat : Int) = 48 := fun h => by rw [hb 0 h, h48]
            clear hb h48
            go_wp2_with fail
            go_ret
            exact ⟨-1, rfl, HR.out, rfl⟩
          · have h1' : (1 : Int) < s.size := by omega
            have h48b : (bt s 0 == 48) = false := by simp [h48]
            clear h48
            go_wp2_with fail
            go_ret
            exact ⟨_, rfl, HR.out, rfl⟩
        · have h1' : ¬ (1 : Int) < s.size := by omega
          go_wp2_with fail
          go_ret
          exact ⟨_, rfl, HR.out, rfl⟩

set_option maxHeartbeats 3200000 in
set_option maxRecDepth 100000 in
theorem l7Long_any (s : ByteArray) (w : World) (hs : s.size ≤ 1048576) :
    Calls Tryz.prog 75 #[.string s] w fun e w' => ∃ v, e = .returned (.int .i64 v) ∧ (∀ n : Int, in32 n = true → s = bt8 (Lib.itoa n) → v = n) ∧ w' = w := by
  have hb := get_bt s
  have hlen : ∀ n : Int, in32 n = true → s = bt8 (Lib.itoa n) → 0 ≤ n → s.size ≤ 10 := fun n h1 e h0 => by
    rw [e, bt8_size, itoa_nonneg h0, Lib.decDigits_length]
    simp [in32] at h1
    exact nDigits_le (k := 9) (by omega)
  by_cases hz : s.size = 0
  · have HNF : Hid (∀ n : Int, in32 n = true → s = bt8 (Lib.itoa n) → (∀ k, 0 ≤ k → k < s.size → figB (bt s k) = true) ∧ s.size ≤ 10 ∧ (valAt s 0 s.size : Int) = n) := fun n h1 e => by
      have := itoa_ne n
      rw [e, bt8_size] at hz
      exact absurd (List.length_eq_zero_iff.1 hz) this
    have hz' : ¬ (0 : Int) < s.size := by omega
    clear hlen hz
    go_enter Tryz.func75, Tryz.ntmps75
    go_wp2_with fail
    go_loop [3, 5] (fun v i => ∃ k : Nat, 0 ≤ k ∧ k ≤ s.size ∧ k ≤ 0 + 10 ∧ i = .int .i64 k ∧ v = .int .i64 (valAt s 0 k) ∧ Hid (∀ j, 0 ≤ j → j < k → figB (bt s j) = true)) (fun _ i => s.size - (intOf i).toNat)
    case atStart => exact ⟨0, Nat.le_refl _, by omega, by omega, rfl, by rw [valAt_zero]; rfl, fun j h1 h2 => by omega⟩
    case round =>
      obtain ⟨k, hk0, hk, hk10, rfl, rfl, HF⟩ := hrel
      have hv := valAt_lt s hk0 hk (m := 10) (by omega) (fun j h0 h => HF.out j h0 h)
      by_cases hlt : k < s.size
      · by_cases h10 : k < 0 + 10
        · have HFG := hidOf (fun w => l1Figure_any (bt s k) w)
          have h10' : (k : Int) < 10 := by omega
          cases hf : figB (bt s k) with
          | false =>
            have HR : Hid (∀ n : Int, in32 n = true → s = bt8 (Lib.itoa n) → (0 : Int) = n) := fun n h1 e => by
              have := (HNF.out n h1 e).1 k hk0 hlt
              rw [hf] at this
              cases this
            rw [hf] at HFG
            clear hf
            go_wp2_with fail
            refine (HFG.out _).mono ?_
            rintro e w' ⟨rfl, rfl⟩
            go_wp2_with fail
            go_ret
            exact ⟨0, rfl, HR.out, rfl⟩
          | true =>
            have hn := valAt_next s hk0 hlt hf
            have hf' := hf
            simp [figB] at hf'
            have HF1 := hidOf hf
            rw [hf] at HFG
            clear hf
            obtain ⟨V, hV⟩ : ∃ V : Nat, valAt s 0 k = V := ⟨_, rfl⟩
            obtain ⟨X, hX⟩ : ∃ X : Int, bt s k = X := ⟨_, rfl⟩
            rw [hV] at hv hn
            rw [hX] at hf' hn HFG
            have HN := hidOf hn
            have hbx : ∀ (h : k < s.size), ((s[k]'h).toNat : Int) = X := fun h => by rw [hb k h, hX]
            have HX := hidOf hX
            have p1 : IntKind.u8.wrap (X - 48) = X - 48 := IntWalk.u8_in _ ⟨by omega, by omega⟩
            have p2 : IntKind.i64.wrap (X - 48) = X - 48 := IntWalk.i64_in _ ⟨by omega, by omega⟩
            have p3 : IntKind.i64.wrap ((V : Int) * 10) = (V : Int) * 10 := IntWalk.i64_in _ ⟨by omega, by omega⟩
            have p4 : IntKind.i64.wrap ((V : Int) * 10 + (X - 48)) = (V : Int) * 10 + (X - 48) := IntWalk.i64_in _ ⟨by omega, by omega⟩
            rw [hV]
            clear hb hn hV hX
            go_wp2_with fail
            refine (HFG.out _).mono ?_
            rintro e w' ⟨rfl, rfl⟩
            go_wp2_with fail
            go_round
            case rel =>
              refine ⟨k + 1, by omega, by omega, by omega, by go_num, congrArg (Value.int IntKind.i64) HN.out.symm, fun j h0 hj => ?_⟩
              by_cases e : j = k
              · subst e; exact HF1.out
              · exact HF.out j h0 (by omega)
            case measure => simp [intOf]; omega
        · have h10' : ¬ (k : Int) < 10 := by omega
          have HR : Hid (∀ n : Int, in32 n = true → s = bt8 (Lib.itoa n) → (valAt s 0 k : Int) = n) := fun n h1 e => by
            have := (HNF.out n h1 e).2.1
            omega
          skip
          go_wp2_with fail
          go_ret
          exact ⟨_, rfl, HR.out, rfl⟩
      · have : k = s.size := by omega
        subst this
        have HR : Hid (∀ n : Int, in32 n = true → s = bt8 (Lib.itoa n) → (valAt s 0 s.size : Int) = n) := fun n h1 e => by
          have := (HNF.out n h1 e).2.2
          omega
        skip
        go_wp2_with fail
        go_ret
        exact ⟨_, rfl, HR.out, rfl⟩
  by_cases h45 : bt s 0 = 45
  · have HNF : Hid (∀ n : Int, in32 n = true → s = bt8 (Lib.itoa n) → (∀ k, 1 ≤ k → k < s.size → figB (bt s k) = true) ∧ s.size ≤ 11 ∧ (valAt s 1 s.size : Int) = -n) := fun n h1 e => by
      by_cases h0 : 0 ≤ n
      · have := (num_facts h0 e).1 0 (by omega)
        rw [h45] at this
        cases this
      · have := neg_facts (by omega) e
        exact ⟨this.2.2.1, this.2.2.2.1 h1, this.2.2.2.2⟩
    have hz' : (0 : Int) < s.size := by omega
    have hbx : ∀ (h : 0 < s.size), ((s[0]'h).toNat : Int) = 45 := fun h => by rw [hb 0 h, h45]
    have HB := hidOf hb
    clear hlen hb h45
    go_enter Tryz.func75, Tryz.ntmps75
    go_wp2_with fail
    have hb := HB.out
    go_loop [3, 5] (fun v i => ∃ k : Nat, 1 ≤ k ∧ k ≤ s.size ∧ k ≤ 1 + 10 ∧ i = .int .i64 k ∧ v = .int .i64 (valAt s 1 k) ∧ Hid (∀ j, 1 ≤ j → j < k → figB (bt s j) = true)) (fun _ i => s.size - (intOf i).toNat)
    case atStart => exact ⟨1, Nat.le_refl _, by omega, by omega, rfl, by rw [valAt_zero]; rfl, fun j h1 h2 => by omega⟩
    case round =>
      obtain ⟨k, hk0, hk, hk10, rfl, rfl, HF⟩ := hrel
      have hv := valAt_lt s hk0 hk (m := 10) (by omega) (fun j h0 h => HF.out j h0 h)
      by_cases hlt : k < s.size
      · by_cases h10 : k < 1 + 10
        · have HFG := hidOf (fun w => l1Figure_any (bt s k) w)
          have h10' : (k : Int) < 11 := by omega
          cases hf : figB (bt s k) with
          | false =>
            have HR : Hid (∀ n : Int, in32 n = true → s = bt8 (Lib.itoa n) → (0 : Int) = n) := fun n h1 e => by
              have := (HNF.out n h1 e).1 k hk0 hlt
              rw [hf] at this
              cases this
            rw [hf] at HFG
            clear hf
            go_wp2_with fail
            refine (HFG.out _).mono ?_
            rintro e w' ⟨rfl, rfl⟩
            go_wp2_with fail
            go_ret
            exact ⟨0, rfl, HR.out, rfl⟩
          | true =>
            have hn := valAt_next s hk0 hlt hf
            have hf' := hf
            simp [figB] at hf'
            have HF1 := hidOf hf
            rw [hf] at HFG
            clear hf
            obtain ⟨V, hV⟩ : ∃ V : Nat, valAt s 1 k = V := ⟨_, rfl⟩
            obtain ⟨X, hX⟩ : ∃ X : Int, bt s k = X := ⟨_, rfl⟩
            rw [hV] at hv hn
            rw [hX] at hf' hn HFG
            have HN := hidOf hn
            have hbx : ∀ (h : k < s.size), ((s[k]'h).toNat : Int) = X := fun h => by rw [hb k h, hX]
            have HX := hidOf hX
            have p1 : IntKind.u8.wrap (X - 48) = X - 48 := IntWalk.u8_in _ ⟨by omega, by omega⟩
            have p2 : IntKind.i64.wrap (X - 48) = X - 48 := IntWalk.i64_in _ ⟨by omega, by omega⟩
            have p3 : IntKind.i64.wrap ((V : Int) * 10) = (V : Int) * 10 := IntWalk.i64_in _ ⟨by omega, by omega⟩
            have p4 : IntKind.i64.wrap ((V : Int) * 10 + (X - 48)) = (V : Int) * 10 + (X - 48) := IntWalk.i64_in _ ⟨by omega, by omega⟩
            rw [hV]
            clear hb hn hV hX
            go_wp2_with fail
            refine (HFG.out _).mono ?_
            rintro e w' ⟨rfl, rfl⟩
            go_wp2_with fail
            go_round
            case rel =>
              refine ⟨k + 1, by omega, by omega, by omega, by go_num, congrArg (Value.int IntKind.i64) HN.out.symm, fun j h0 hj => ?_⟩
              by_cases e : j = k
              · subst e; exact HF1.out
              · exact HF.out j h0 (by omega)
            case measure => simp [intOf]; omega
        · have h10' : ¬ (k : Int) < 11 := by omega
          have HR : Hid (∀ n : Int, in32 n = true → s = bt8 (Lib.itoa n) → (-(valAt s 1 k : Int)) = n) := fun n h1 e => by
            have := (HNF.out n h1 e).2.1
            omega
          have p5 : IntKind.i64.wrap (-(valAt s 1 k : Int)) = -(valAt s 1 k : Int) := IntWalk.i64_in _ ⟨by omega, by omega⟩
          go_wp2_with fail
          go_ret
          exact ⟨_, rfl, HR.out, rfl⟩
      · have : k = s.size := by omega
        subst this
        have HR : Hid (∀ n : Int, in32 n = true → s = bt8 (Lib.itoa n) → (-(valAt s 1 s.size : Int)) = n) := fun n h1 e => by
          have := (HNF.out n h1 e).2.2
          omega
        have p5 : IntKind.i64.wrap (-(valAt s 1 s.size : Int)) = -(valAt s 1 s.size : Int) := IntWalk.i64_in _ ⟨by omega, by omega⟩
        go_wp2_with fail
        go_ret
        exact ⟨_, rfl, HR.out, rfl⟩
  · have HNF : Hid (∀ n : Int, in32 n = true → s = bt8 (Lib.itoa n) → (∀ k, 0 ≤ k → k < s.size → figB (bt s k) = true) ∧ s.size ≤ 10 ∧ (valAt s 0 s.size : Int) = n) := fun n h1 e => by
      by_cases h0 : 0 ≤ n
      · have := num_facts h0 e
        exact ⟨fun k _ hk => this.1 k hk, hlen n h1 e h0, this.2.2.2.2⟩
      · exact absurd (neg_facts (by omega) e).1 h45
    have hz' : (0 : Int) < s.size := by omega
    have h45b : (bt s 0 == 45) = false := by simp [h45]
    clear hlen h45
    go_enter Tryz.func75, Tryz.ntmps75
    go_wp2_with fail
    go_loop [3, 5] (fun v i => ∃ k : Nat, 0 ≤ k ∧ k ≤ s.size ∧ k ≤ 0 + 10 ∧ i = .int .i64 k ∧ v = .int .i64 (valAt s 0 k) ∧ Hid (∀ j, 0 ≤ j → j < k → figB (bt s j) = true)) (fun _ i => s.size - (intOf i).toNat)
    case atStart => exact ⟨0, Nat.le_refl _, by omega, by omega, rfl, by rw [valAt_zero]; rfl, fun j h1 h2 => by omega⟩
    case round =>
      obtain ⟨k, hk0, hk, hk10, rfl, rfl, HF⟩ := hrel
      have hv := valAt_lt s hk0 hk (m := 10) (by omega) (fun j h0 h => HF.out j h0 h)
      by_cases hlt : k < s.size
      · by_cases h10 : k < 0 + 10
        · have HFG := hidOf (fun w => l1Figure_any (bt s k) w)
          have h10' : (k : Int) < 10 := by omega
          cases hf : figB (bt s k) with
          | false =>
            have HR : Hid (∀ n : Int, in32 n = true → s = bt8 (Lib.itoa n) → (0 : Int) = n) := fun n h1 e => by
              have := (HNF.out n h1 e).1 k hk0 hlt
              rw [hf] at this
              cases this
            rw [hf] at HFG
            clear hf
            go_wp2_with fail
            refine (HFG.out _).mono ?_
            rintro e w' ⟨rfl, rfl⟩
            go_wp2_with fail
            go_ret
            exact ⟨0, rfl, HR.out, rfl⟩
          | true =>
            have hn := valAt_next s hk0 hlt hf
            have hf' := hf
            simp [figB] at hf'
            have HF1 := hidOf hf
            rw [hf] at HFG
            clear hf
            obtain ⟨V, hV⟩ : ∃ V : Nat, valAt s 0 k = V := ⟨_, rfl⟩
            obtain ⟨X, hX⟩ : ∃ X : Int, bt s k = X := ⟨_, rfl⟩
            rw [hV] at hv hn
            rw [hX] at hf' hn HFG
            have HN := hidOf hn
            have hbx : ∀ (h : k < s.size), ((s[k]'h).toNat : Int) = X := fun h => by rw [hb k h, hX]
            have HX := hidOf hX
            have p1 : IntKind.u8.wrap (X - 48) = X - 48 := IntWalk.u8_in _ ⟨by omega, by omega⟩
            have p2 : IntKind.i64.wrap (X - 48) = X - 48 := IntWalk.i64_in _ ⟨by omega, by omega⟩
            have p3 : IntKind.i64.wrap ((V : Int) * 10) = (V : Int) * 10 := IntWalk.i64_in _ ⟨by omega, by omega⟩
            have p4 : IntKind.i64.wrap ((V : Int) * 10 + (X - 48)) = (V : Int) * 10 + (X - 48) := IntWalk.i64_in _ ⟨by omega, by omega⟩
            rw [hV]
            clear hb hn hV hX
            go_wp2_with fail
            refine (HFG.out _).mono ?_
            rintro e w' ⟨rfl, rfl⟩
            go_wp2_with fail
            go_round
            case rel =>
              refine ⟨k + 1, by omega, by omega, by omega, by go_num, congrArg (Value.int IntKind.i64) HN.out.symm, fun j h0 hj => ?_⟩
              by_cases e : j = k
              · subst e; exact HF1.out
              · exact HF.out j h0 (by omega)
            case measure => simp [intOf]; omega
        · have h10' : ¬ (k : Int) < 10 := by omega
          have HR : Hid (∀ n : Int, in32 n = true → s = bt8 (Lib.itoa n) → (valAt s 0 k : Int) = n) := fun n h1 e => by
            have := (HNF.out n h1 e).2.1
            omega
          skip
          go_wp2_with fail
          go_ret
          exact ⟨_, rfl, HR.out, rfl⟩
      · have : k = s.size := by omega
        subst this
        have HR : Hid (∀ n : Int, in32 n = true → s = bt8 (Lib.itoa n) → (valAt s 0 s.size : Int) = n) := fun n h1 e => by
          have := (HNF.out n h1 e).2.2
          omega
        skip
        go_wp2_with fail
        go_ret
        exact ⟨_, rfl, HR.out, rfl⟩
end Go.Proofs.YtjmgfpldjccilaaGreatDoor
