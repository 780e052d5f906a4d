/- FrameOk of the program. -/
import Derived.Test.YtcdkililodmnjaaFrameOk
namespace Go.Proofs.Ytcdkililodmnjaa
open Go Go.RowKit Go.PlainAid
set_option linter.unusedSimpArgs false
set_option linter.unusedVariables false

set_option maxHeartbeats 1600000 in
set_option maxRecDepth 100000 in
theorem implFrameOk_any (B : Nat) (k wi sq : Int) (a : Option Addr) (n c : Nat) (vs : List Int) (w : World) (hn : n ≤ maxLen) (hB : B ≤ w.heap.size) (hz : IsInts B w a n vs) :
    Calls Try.prog 12 #[.agg #[.int .i64 k, .int .i64 wi, .int .i64 sq, .slice a n c]] w fun e w' => e = .returned (.bool (frB k wi sq vs)) ∧ Below w.heap.size w w' := by
  have hl := hz.1
  have HV : Hid (∀ o, Calls Try.prog 30 #[.slice a n c] (w.alloc o) fun e w' => e = .returned (.bool (sentB vs)) ∧ w' = w.alloc o) := fun o => areSent_any B a n c vs (w.alloc o) hn (ints_boxed hz hB o)
  have HW := hidOf (fun w => isWire_any wi w)
  obtain ⟨R, hR⟩ : ∃ R, frB k wi sq vs = R := ⟨_, rfl⟩
  have HR := hidOf hR
  rw [hR]
  clear hR hz
  unfold maxLen at hn
  obtain ⟨D, hD⟩ : ∃ D, sentB vs = D := ⟨_, rfl⟩
  obtain ⟨W, hW⟩ : ∃ W, decide (0 ≤ wi ∧ wi ≤ 6) = W := ⟨_, rfl⟩
  rw [hD] at HV; rw [hW] at HW
  have HD := hidOf hD; have HW' := hidOf hW
  clear hD hW
  cases W with
  | false =>
    have hRf : R = false := by rw [← HR.out]; unfold frB; rw [HW'.out]; simp
    go_enter Try.func12, Try.ntmps12
    go_wp2_with fail
    refine (HW.out _).mono ?_
    rintro e w' ⟨rfl, hw'⟩
    rw [hw']
    clear hw' w'
    go_wp2_with fail
    go_ret
    exact ⟨ret_bool hRf.symm, by go_grown⟩
  | true =>
  by_cases hs : 0 ≤ sq ∧ sq ≤ 9999
  · obtain ⟨hs0, hs1⟩ := hs
    by_cases hk1 : k = 1
    · have hRf : R = D := by rw [← HR.out]; unfold frB; rw [HW'.out, HD.out]; simp [hs0, hs1, hk1]
      rw [hRf]
      clear hRf
      subst hk1
      go_enter Try.func12, Try.ntmps12
      go_wp2_with fail
      refine (HW.out _).mono ?_
      rintro e w' ⟨rfl, hw'⟩
      rw [hw']
      clear hw' w'
      go_wp2_with fail
      refine (HV.out _).mono ?_
      rintro e w' ⟨rfl, hw'⟩
      rw [hw']
      clear hw' w'
      go_wp2_with fail
      go_ret
      exact ⟨rfl, by go_grown⟩
    · by_cases hk2 : k = 2
      · have hRf : R = decide (n = 0) := by rw [← HR.out]; unfold frB; rw [HW'.out, hl]; simp [hs0, hs1, hk2]
        rw [hRf]
        clear hRf
        subst hk2
        go_enter Try.func12, Try.ntmps12
        go_wp2_with fail
        refine (HW.out _).mono ?_
        rintro e w' ⟨rfl, hw'⟩
        rw [hw']
        clear hw' w'
        go_wp2_with fail
        go_ret
        exact ⟨ret_bool (by by_cases h0 : n = 0 <;> simp [h0]), by go_grown⟩
      · have hRf : R = false := by rw [← HR.out]; unfold frB; rw [if_neg hk1, if_neg hk2]; simp
        rw [hRf]
        clear hRf
        go_enter Try.func12, Try.ntmps12
        go_wp2_with fail
        refine (HW.out _).mono ?_
        rintro e w' ⟨rfl, hw'⟩
        rw [hw']
        clear hw' w'
        go_wp2_with fail
        go_ret
        exact ⟨rfl, by go_grown⟩
  · have hRf : R = false := by rw [← HR.out]; unfold frB; rw [decide_eq_false hs]; simp
    rw [hRf]
    clear hRf
    by_cases hs0 : sq < 0
    · go_enter Try.func12, Try.ntmps12
      go_wp2_with fail
      refine (HW.out _).mono ?_
      rintro e w' ⟨rfl, hw'⟩
      rw [hw']
      clear hw' w'
      go_wp2_with fail
      go_ret
      exact ⟨rfl, by go_grown⟩
    · have hs1 : 9999 < sq := by omega
      go_enter Try.func12, Try.ntmps12
      go_wp2_with fail
      refine (HW.out _).mono ?_
      rintro e w' ⟨rfl, hw'⟩
      rw [hw']
      clear hw' w'
      go_wp2_with fail
      go_ret
      exact ⟨rfl, by go_grown⟩
end Go.Proofs.Ytcdkililodmnjaa
