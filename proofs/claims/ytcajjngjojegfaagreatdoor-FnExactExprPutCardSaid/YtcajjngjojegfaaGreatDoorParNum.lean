/- Numbers of texts: the model's l1Num. -/
import Derived.Test.YtcajjngjojegfaaGreatDoorParWord
namespace Go.Proofs.YtcajjngjojegfaaGreatDoor
open Go.RowKit Go.PlainAid
set_option linter.unusedSimpArgs false
set_option linter.unusedVariables false

/-- the number that the first k figures are -/
def numTo (s : ByteArray) : Nat → Int
  | 0 => 0
  | k + 1 => numTo s k * 10 + (bt s k - 48)
def figTo (s : ByteArray) : Nat → Bool
  | 0 => true
  | k + 1 => figTo s k && figB (bt s k)
def numOk (s : ByteArray) : Bool := figTo s s.size && decide (1 ≤ s.size ∧ s.size ≤ 6 ∧ ¬ (1 < s.size ∧ bt s 0 = 48))
/-- the number that a text is; -1, if it is none -/
def numOf (s : ByteArray) : Int := if numOk s then numTo s s.size else -1

theorem figTo_le (s : ByteArray) {j k : Nat} (h : j ≤ k) (hk : figTo s k = true) : figTo s j = true := by
  induction k with
  | zero => have : j = 0 := by omega
            subst this; rfl
  | succ k ih =>
    by_cases e : j = k + 1
    · subst e; exact hk
    · simp [figTo] at hk; exact ih (by omega) hk.1
theorem figTo_no (s : ByteArray) {k n : Nat} (h : k < n) (hk : figB (bt s k) = false) : figTo s n = false := by
  cases e : figTo s n with
  | false => rfl
  | true => have := figTo_le s (j := k + 1) (by omega) e
            simp [figTo, hk] at this
theorem numTo_range (s : ByteArray) : ∀ k, figTo s k = true → 0 ≤ numTo s k ∧ numTo s k < 10 ^ k
  | 0, _ => by simp [numTo]
  | k + 1, h => by
    simp [figTo, figB] at h
    obtain ⟨h1, h2, h3⟩ := h
    have := numTo_range s k h1
    have e : (10 : Int) ^ (k + 1) = 10 ^ k * 10 := Int.pow_succ 10 k
    rw [numTo, e]
    generalize (10 : Int) ^ k = t at *
    omega
theorem pow10_le {k : Nat} (h : k ≤ 6) : (10 : Int) ^ k ≤ 1000000 := by
  have : k = 0 ∨ k = 1 ∨ k = 2 ∨ k = 3 ∨ k = 4 ∨ k = 5 ∨ k = 6 := by omega
  rcases this with rfl | rfl | rfl | rfl | rfl | rfl | rfl <;> decide
theorem numTo_le {s : ByteArray} {k : Nat} (h : figTo s k = true) (hk : k ≤ 6) : 0 ≤ numTo s k ∧ numTo s k < 1000000 := by
  have h1 := numTo_range s k h
  have h2 := pow10_le hk
  omega

set_option maxHeartbeats 1600000 in
set_option maxRecDepth 100000 in
theorem l1Num_any (s : ByteArray) (w : World) (hs : s.size ≤ 1048576) : Calls Tryz.prog 133 #[.string s] w fun e w' => e = .returned (.int .i64 (numOf s)) ∧ w' = w := by
  have hb := get_bt s
  obtain ⟨D, hD⟩ : ∃ D, numOf s = D := ⟨_, rfl⟩
  have HD : Hid (numOf s = D) := hD
  rw [hD]; clear hD
  go_enter Tryz.func133, Tryz.ntmps133
  go_wp2_with fail
  go_loop [3, 4] (fun vn i => ∃ k : Nat, k ≤ s.size ∧ k ≤ 6 ∧ i = .int .i64 k ∧ vn = .int .i64 (numTo s k) ∧ Hid (figTo s k = true)) (fun _ i => s.size - (intOf i).toNat)
  case atStart => exact ⟨0, Nat.zero_le _, by omega, rfl, rfl, rfl⟩
  case round =>
    obtain ⟨k, hk, hk6, rfl, rfl, hfig⟩ := hrel
    obtain ⟨n1, n2⟩ := numTo_le hfig.out hk6
    by_cases hlt : k < s.size
    · cases hf : figB (bt s k)
      · have HN : Hid (D = -1) := by
          show D = -1
          rw [← HD.out, numOf, numOk, figTo_no s hlt hf]; rfl
        go_wp2_with (go_at_call 114; refine (l1Figure_is hf _).mono ?_; rintro e w' ⟨rfl, rfl⟩)
        go_ret
        exact ⟨ret_int HN.out.symm, rfl⟩
      · by_cases h6 : 6 ≤ k
        · have HN : Hid (D = -1) := by
            show D = -1
            rw [← HD.out, numOf, numOk, decide_eq_false (by omega)]; simp
          go_wp2_with (go_at_call 114; refine (l1Figure_is hf _).mono ?_; rintro e w' ⟨rfl, rfl⟩)
          go_ret
          exact ⟨ret_int HN.out.symm, rfl⟩
        · have hf2 := hf
          simp [figB] at hf2
          obtain ⟨f1, f2⟩ := hf2
          have HF : Hid (figTo s (k + 1) = true) := by
            show figTo s (k + 1) = true
            rw [figTo, hfig.out, hf]; rfl
          have HN : Hid (numTo s (k + 1) = numTo s k * 10 + (bt s k - 48)) := rfl
          generalize numTo s k = nn at *
          go_wp2_with (go_at_call 114; refine (l1Figure_is hf _).mono ?_; rintro e w' ⟨rfl, rfl⟩)
          go_round
          case rel => exact ⟨k + 1, by omega, by omega, by go_num, by rw [HN.out], HF.out⟩
          case measure => simp [intOf]; omega
    · have : k = s.size := by omega
      by_cases h0 : s.size = 0
      · have h0' : ((s.size : Int) == 0) = true := by simp [h0]
        have HN : Hid (D = -1) := by
          show D = -1
          rw [← HD.out, numOf, numOk, decide_eq_false (by omega)]; simp
        clear h0
        go_wp2_with fail
        go_ret
        exact ⟨ret_int HN.out.symm, rfl⟩
      have h0' : ((s.size : Int) == 0) = false := by simp [h0]
      by_cases h1 : 1 < s.size
      · by_cases h48 : bt s 0 = 48
        · have h48' : (bt s 0 == 48) = true := by simp [h48]
          have HN : Hid (D = -1) := by
            show D = -1
            rw [← HD.out, numOf, numOk, decide_eq_false (fun h => h.2.2 ⟨h1, h48⟩)]; simp
          clear h48
          go_wp2_with fail
          go_ret
          exact ⟨ret_int HN.out.symm, rfl⟩
        · have h48' : (bt s 0 == 48) = false := by simp [h48]
          have HN : Hid (D = numTo s s.size) := by
            show D = _
            rw [← HD.out, numOf, numOk, ← this, hfig.out, decide_eq_true (by rw [this]; exact ⟨by omega, by omega, fun h => h48 h.2⟩)]; rfl
          clear h48
          go_wp2_with fail
          go_ret
          exact ⟨ret_int HN.out.symm, rfl⟩
      · have HN : Hid (D = numTo s s.size) := by
          show D = _
          rw [← HD.out, numOf, numOk, ← this, hfig.out, decide_eq_true (by rw [this]; exact ⟨by omega, by omega, fun h => h1 h.1⟩)]; rfl
        go_wp2_with fail
        go_ret
        exact ⟨ret_int HN.out.symm, rfl⟩
end Go.Proofs.YtcajjngjojegfaaGreatDoor
