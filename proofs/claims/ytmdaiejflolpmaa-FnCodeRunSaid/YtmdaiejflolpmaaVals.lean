/- What signs come to: in the program (32 bits) and in the model (int). -/
import Derived.Test.YtmdaiejflolpmaaDeepSpec
namespace Go.Proofs.Ytmdaiejflolpmaa
open Go.RowKit Go.PlainAid
set_option linter.unusedSimpArgs false
set_option linter.unusedVariables false

theorem wr32_is (n : Int) : wrap32 n = wr32 n := by unfold wrap32 wr32; rfl
def bit (b : Bool) : Int := if b then 1 else 0
def quo (a b : Int) : Int := if b = 0 then 0 else wr32 (a.tdiv b)
def rest (a b : Int) : Int := if b = 0 then 0 else a.tmod b
/-- what a sign makes of two numbers -/
def two (k a b : Int) : Int :=
  if k = 5 then wr32 (a * b) else if k = 6 then quo a b else if k = 7 then rest a b
  else if k = 8 then wr32 (a + b) else if k = 9 then wr32 (a - b) else if k = 10 then bit (decide (a < b)) else if k = 11 then bit (a == b)
  else if k = 12 then bit (a != 0 && b != 0) else bit (a != 0 || b != 0)
def one (k a : Int) : Int := if k = 3 then wr32 (-a) else bit (a == 0)

def In32 (n : Int) : Prop := -2147483648 ≤ n ∧ n ≤ 2147483647
theorem in32_wr (n : Int) : In32 (wr32 n) := by unfold In32 wr32; omega
theorem in32_bit (b : Bool) : In32 (bit b) := by unfold In32 bit; split <;> omega
theorem wr32_in {n : Int} (h : In32 n) : wr32 n = n := by unfold In32 at h; unfold wr32; omega
theorem mul32 {a b : Int} (ha : In32 a) (hb : In32 b) : -4611686018427387904 ≤ a * b ∧ a * b ≤ 4611686018427387904 := by
  obtain ⟨a1, a2⟩ := ha; obtain ⟨b1, b2⟩ := hb
  have h : (a * b).natAbs ≤ 2147483648 * 2147483648 := by
    rw [Int.natAbs_mul]; exact Nat.mul_le_mul (by omega) (by omega)
  omega
theorem tdiv32 {a b : Int} (ha : In32 a) : -2147483648 ≤ a.tdiv b ∧ a.tdiv b ≤ 2147483648 := by
  obtain ⟨a1, a2⟩ := ha
  have h : (a.tdiv b).natAbs ≤ a.natAbs := by rw [Int.natAbs_tdiv]; exact Nat.div_le_self _ _
  omega
theorem tmod32 {a b : Int} (ha : In32 a) : In32 (a.tmod b) := by
  obtain ⟨a1, a2⟩ := ha
  have h : (a.tmod b).natAbs ≤ a.natAbs := by rw [Int.natAbs_tmod]; exact Nat.mod_le _ _
  have h2 : 0 ≤ a → 0 ≤ a.tmod b := fun h => Int.tmod_nonneg _ h
  have h3 : a ≤ 0 → a.tmod b ≤ 0 := fun h => by
    have := Int.tmod_nonneg (a := -a) b (by omega)
    rw [Int.neg_tmod] at this; omega
  unfold In32
  by_cases h0 : 0 ≤ a
  · have := h2 h0; omega
  · have := h3 (by omega); omega
theorem in32_two {k a b : Int} (ha : In32 a) : In32 (two k a b) := by
  unfold two quo rest
  repeat' split
  all_goals first | exact in32_wr _ | exact in32_bit _ | exact tmod32 ha | (unfold In32; omega)
theorem in32_one (k a : Int) : In32 (one k a) := by
  unfold one; split
  · exact in32_wr _
  · exact in32_bit _

theorem truth_any (b : Bool) (w : World) : Calls Try.prog 61 #[.bool b] w fun e w' => e = .returned (.int .i32 (bit b)) ∧ w' = w := by
  cases b <;>
  · go_enter Try.func61, Try.ntmps61
    go_wp2
    go_ret
    exact ⟨rfl, rfl⟩
theorem l1Bit_any (b : Bool) (w : World) : Calls Try.prog 46 #[.bool b] w fun e w' => e = .returned (.int .i64 (bit b)) ∧ w' = w := by
  cases b <;>
  · go_enter Try.func46, Try.ntmps46
    go_wp2
    go_ret
    exact ⟨rfl, rfl⟩
theorem quotient_any (a b : Int) (w : World) : Calls Try.prog 62 #[.int .i32 a, .int .i32 b] w fun e w' => e = .returned (.int .i32 (quo a b)) ∧ w' = w := by
  unfold quo
  by_cases h : b = 0
  · subst h
    go_enter Try.func62, Try.ntmps62
    go_wp2
    go_ret
    exact ⟨rfl, rfl⟩
  · rw [if_neg h]
    go_enter Try.func62, Try.ntmps62
    go_wp2
    go_ret
    exact ⟨ret_int (by rw [← wr32_is]), rfl⟩
theorem remainder_any (a b : Int) (w : World) : Calls Try.prog 63 #[.int .i32 a, .int .i32 b] w fun e w' => e = .returned (.int .i32 (rest a b)) ∧ w' = w := by
  unfold rest
  by_cases h : b = 0
  · subst h
    go_enter Try.func63, Try.ntmps63
    go_wp2
    go_ret
    exact ⟨rfl, rfl⟩
  · rw [if_neg h]
    go_enter Try.func63, Try.ntmps63
    go_wp2
    go_ret
    exact ⟨rfl, rfl⟩

theorem aheadValue_any (k a : Int) (w : World) (hk : k = 3 ∨ k = 4) : Calls Try.prog 57 #[.int .i64 k, .int .i32 a] w fun e w' => e = .returned (.int .i32 (one k a)) ∧ w' = w := by
  rcases hk with rfl | rfl
  · go_enter Try.func57, Try.ntmps57
    go_wp2
    go_ret
    exact ⟨ret_int (by rw [one, if_pos rfl, ← wr32_is]), rfl⟩
  · go_enter Try.func57, Try.ntmps57
    go_wp2_with (go_at_call 61; refine (truth_any _ _).mono ?_; rintro e w' ⟨rfl, rfl⟩)
    go_ret
    exact ⟨rfl, rfl⟩

theorem pair_cases {k : Int} (h : 5 ≤ k ∧ k ≤ 13) : k = 5 ∨ k = 6 ∨ k = 7 ∨ k = 8 ∨ k = 9 ∨ k = 10 ∨ k = 11 ∨ k = 12 ∨ k = 13 := by omega

set_option maxHeartbeats 800000 in
theorem pairValue_any (k a b : Int) (w : World) (hk : 5 ≤ k ∧ k ≤ 13) : Calls Try.prog 58 #[.int .i64 k, .int .i32 a, .int .i32 b] w fun e w' => e = .returned (.int .i32 (two k a b)) ∧ w' = w := by
  rcases pair_cases hk with rfl | rfl | rfl | rfl | rfl | rfl | rfl | rfl | rfl
  · go_enter Try.func58, Try.ntmps58
    go_wp2_with fail
    go_ret
    exact ⟨ret_int (by simp [two, ← wr32_is]), rfl⟩
  · go_enter Try.func58, Try.ntmps58
    go_wp2_with (go_at_call 62; refine (quotient_any _ _ _).mono ?_; rintro e w' ⟨rfl, rfl⟩)
    go_ret
    exact ⟨ret_int (by simp [two]), rfl⟩
  · go_enter Try.func58, Try.ntmps58
    go_wp2_with (go_at_call 63; refine (remainder_any _ _ _).mono ?_; rintro e w' ⟨rfl, rfl⟩)
    go_ret
    exact ⟨ret_int (by simp [two]), rfl⟩
  · go_enter Try.func58, Try.ntmps58
    go_wp2_with fail
    go_ret
    exact ⟨ret_int (by simp [two, ← wr32_is]), rfl⟩
  · go_enter Try.func58, Try.ntmps58
    go_wp2_with fail
    go_ret
    exact ⟨ret_int (by simp [two, ← wr32_is]), rfl⟩
  · go_enter Try.func58, Try.ntmps58
    go_wp2_with (go_at_call 61; refine (truth_any _ _).mono ?_; rintro e w' ⟨rfl, rfl⟩)
    go_ret
    exact ⟨ret_int (by simp [two]), rfl⟩
  · go_enter Try.func58, Try.ntmps58
    go_wp2_with (go_at_call 61; refine (truth_any _ _).mono ?_; rintro e w' ⟨rfl, rfl⟩)
    go_ret
    exact ⟨ret_int (by simp [two]), rfl⟩
  · cases h : (a != 0) <;>
    · go_enter Try.func58, Try.ntmps58
      go_wp2_with (go_at_call 61; refine (truth_any _ _).mono ?_; rintro e w' ⟨rfl, rfl⟩)
      go_ret
      exact ⟨ret_int (by simp [two, h]), rfl⟩
  · cases h : (a != 0) <;>
    · go_enter Try.func58, Try.ntmps58
      go_wp2_with (go_at_call 61; refine (truth_any _ _).mono ?_; rintro e w' ⟨rfl, rfl⟩)
      go_ret
      exact ⟨ret_int (by simp [two, h]), rfl⟩

set_option maxHeartbeats 800000 in
theorem l1Two_any (k a b : Int) (w : World) (hk : 5 ≤ k ∧ k ≤ 13) (ha : In32 a) (hb : In32 b) : Calls Try.prog 47 #[.int .i64 k, .int .i64 a, .int .i64 b] w fun e w' => e = .returned (.int .i64 (two k a b)) ∧ w' = w := by
  obtain ⟨m1, m2⟩ := mul32 ha hb
  obtain ⟨q1, q2⟩ := tdiv32 (b := b) ha
  obtain ⟨a1, a2⟩ := ha
  obtain ⟨b1, b2⟩ := hb
  rcases pair_cases hk with rfl | rfl | rfl | rfl | rfl | rfl | rfl | rfl | rfl
  · clear q1 q2
    go_enter Try.func47, Try.ntmps47
    go_wp2_with (go_at_call 45; refine (l1Wrap_any _ _).mono ?_; rintro e w' ⟨rfl, rfl⟩)
    go_ret
    exact ⟨ret_int (by simp [two, quo, rest]), rfl⟩
  · clear m1 m2
    by_cases h : b = 0
    · subst h
      go_enter Try.func47, Try.ntmps47
      go_wp2_with (go_at_call 45; refine (l1Wrap_any _ _).mono ?_; rintro e w' ⟨rfl, rfl⟩)
      go_ret
      exact ⟨ret_int (by simp [two, quo, rest]), rfl⟩
    · have h' : (b == 0) = false := by simp [h]
      go_enter Try.func47, Try.ntmps47
      go_wp2_with (go_at_call 45; refine (l1Wrap_any _ _).mono ?_; rintro e w' ⟨rfl, rfl⟩)
      go_ret
      exact ⟨ret_int (by simp [two, quo, rest, h]), rfl⟩
  · clear m1 m2
    by_cases h : b = 0
    · subst h
      go_enter Try.func47, Try.ntmps47
      go_wp2_with (go_at_call 45; refine (l1Wrap_any _ _).mono ?_; rintro e w' ⟨rfl, rfl⟩)
      go_ret
      exact ⟨ret_int (by simp [two, quo, rest]), rfl⟩
    · have h' : (b == 0) = false := by simp [h]
      go_enter Try.func47, Try.ntmps47
      go_wp2_with (go_at_call 45; refine (l1Wrap_any _ _).mono ?_; rintro e w' ⟨rfl, rfl⟩)
      go_ret
      exact ⟨ret_int (by simp [two, quo, rest, h]), rfl⟩
  · clear m1 m2 q1 q2
    go_enter Try.func47, Try.ntmps47
    go_wp2_with (go_at_call 45; refine (l1Wrap_any _ _).mono ?_; rintro e w' ⟨rfl, rfl⟩)
    go_ret
    exact ⟨ret_int (by simp [two, quo, rest]), rfl⟩
  · clear m1 m2 q1 q2
    go_enter Try.func47, Try.ntmps47
    go_wp2_with (go_at_call 45; refine (l1Wrap_any _ _).mono ?_; rintro e w' ⟨rfl, rfl⟩)
    go_ret
    exact ⟨ret_int (by simp [two, quo, rest]), rfl⟩
  · clear m1 m2 q1 q2
    go_enter Try.func47, Try.ntmps47
    go_wp2_with (go_at_call 46; refine (l1Bit_any _ _).mono ?_; rintro e w' ⟨rfl, rfl⟩)
    go_ret
    exact ⟨ret_int (by simp [two, quo, rest]), rfl⟩
  · clear m1 m2 q1 q2
    go_enter Try.func47, Try.ntmps47
    go_wp2_with (go_at_call 46; refine (l1Bit_any _ _).mono ?_; rintro e w' ⟨rfl, rfl⟩)
    go_ret
    exact ⟨ret_int (by simp [two, quo, rest]), rfl⟩
  · clear m1 m2 q1 q2
    cases h : (a != 0) <;>
    · go_enter Try.func47, Try.ntmps47
      go_wp2_with (go_at_call 46; refine (l1Bit_any _ _).mono ?_; rintro e w' ⟨rfl, rfl⟩)
      go_ret
      exact ⟨ret_int (by simp [two, quo, rest, h]), rfl⟩
  · clear m1 m2 q1 q2
    cases h : (a != 0) <;>
    · go_enter Try.func47, Try.ntmps47
      go_wp2_with (go_at_call 46; refine (l1Bit_any _ _).mono ?_; rintro e w' ⟨rfl, rfl⟩)
      go_ret
      exact ⟨ret_int (by simp [two, quo, rest, h]), rfl⟩
end Go.Proofs.Ytmdaiejflolpmaa
