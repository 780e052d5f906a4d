/- Frames: whether one is ok, by the program and by the model. -/
import Derived.Test.YtcdkililodmnjaaSent
import Derived.Test.YtcdkililodmnjaaMoves
import Derived.Test.YtcdkililodmnjaaCpMem
namespace Go.Proofs.Ytcdkililodmnjaa
open Go Go.RowKit Go.PlainAid
set_option linter.unusedSimpArgs false
set_option linter.unusedVariables false

def frV (k wi sq : Int) (a : Option Addr) (n c : Nat) : Value := .agg #[.int .i64 k, .int .i64 wi, .int .i64 sq, .slice a n c]
/-- whether a frame is ok -/
def frB (k wi sq : Int) (vs : List Int) : Bool :=
  (decide (0 ≤ wi ∧ wi ≤ 6) && decide (0 ≤ sq ∧ sq ≤ 9999)) && (if k = 1 then sentB vs else if k = 2 then decide (vs.length = 0) else false)

theorem ints_boxed {B : Nat} {w : World} {a : Option Addr} {n : Nat} {vs : List Int} (h : IsInts B w a n vs) (hB : B ≤ w.heap.size) (o : Obj) : IsInts B (w.alloc o) a n vs :=
  h.below ((Below.refl _ _).alloc hB _)

set_option maxHeartbeats 1600000 in
set_option maxRecDepth 100000 in
theorem l7Ok_any (B : Nat) (k wi sq : Int) (a : Option Addr) (n c : Nat) (vs : List Int) (w : World) (hn : n ≤ maxLen) (hB : B ≤ w.heap.size) (hz : IsInts B w a n vs) :
    Calls Try.prog 27 #[.agg #[.int .i64 k, .int .i64 wi, .int .i64 sq, .slice a n c]] w fun e w' => e = .returned (.bool (frB k wi sq vs)) ∧ Below w.heap.size w w' := by
  have hl := hz.1
  have HV : Hid (∀ o, Calls Try.prog 39 #[.slice a n c] (w.alloc o) fun e w' => e = .returned (.bool (all32 vs)) ∧ Below (w.alloc o).heap.size (w.alloc o) w') := fun o => l4Vals_any B a n c vs (w.alloc o) hn (by simp; omega) (ints_boxed hz hB o)
  have HK := hidOf (fun w => l1In_any k 1 2 w)
  have HW := hidOf (fun w => l1In_any wi 0 6 w)
  have HS := hidOf (fun w => l1In_any sq 0 9999 w)
  obtain ⟨R, hR⟩ : ∃ R, frB k wi sq vs = R := ⟨_, rfl⟩
  have HR := hidOf hR
  rw [hR]
  clear hR hz
  unfold maxLen at hn
  obtain ⟨D, hD⟩ : ∃ D, all32 vs = D := ⟨_, rfl⟩
  obtain ⟨K, hK⟩ : ∃ K, decide (1 ≤ k ∧ k ≤ 2) = K := ⟨_, rfl⟩
  obtain ⟨W, hW⟩ : ∃ W, decide (0 ≤ wi ∧ wi ≤ 6) = W := ⟨_, rfl⟩
  obtain ⟨S, hS⟩ : ∃ S, decide (0 ≤ sq ∧ sq ≤ 9999) = S := ⟨_, rfl⟩
  rw [hD] at HV; rw [hK] at HK; rw [hW] at HW; rw [hS] at HS
  have HD := hidOf hD; have HK' := hidOf hK; have HW' := hidOf hW; have HS' := hidOf hS
  clear hD hK hW hS
  cases K with
  | false =>
    have hRf : R = false := by
      rw [← HR.out]; have := HK'.out; simp at this; unfold frB
      rw [if_neg (by omega), if_neg (by omega)]; simp
    go_enter Try.func27, Try.ntmps27
    go_wp2_with fail
    refine (HK.out _).mono ?_
    rintro e w' ⟨rfl, hw'⟩
    rw [hw']
    clear hw' w'
    go_wp2_with fail
    go_ret
    exact ⟨ret_bool hRf.symm, by go_grown⟩
  | true =>
  cases W with
  | false =>
    have hRf : R = false := by rw [← HR.out]; unfold frB; rw [HW'.out]; simp
    go_enter Try.func27, Try.ntmps27
    go_wp2_with fail
    refine (HK.out _).mono ?_
    rintro e w' ⟨rfl, hw'⟩
    rw [hw']
    clear hw' w'
    go_wp2_with fail
    refine (HW.out _).mono ?_
    rintro e w' ⟨rfl, hw'⟩
    rw [hw']
    clear hw' w'
    go_wp2_with fail
    go_ret
    exact ⟨ret_bool hRf.symm, by go_grown⟩
  | true =>
  cases S with
  | false =>
    have hRf : R = false := by rw [← HR.out]; unfold frB; rw [HS'.out]; simp
    go_enter Try.func27, Try.ntmps27
    go_wp2_with fail
    refine (HK.out _).mono ?_
    rintro e w' ⟨rfl, hw'⟩
    rw [hw']
    clear hw' w'
    go_wp2_with fail
    refine (HW.out _).mono ?_
    rintro e w' ⟨rfl, hw'⟩
    rw [hw']
    clear hw' w'
    go_wp2_with fail
    refine (HS.out _).mono ?_
    rintro e w' ⟨rfl, hw'⟩
    rw [hw']
    clear hw' w'
    go_wp2_with fail
    go_ret
    exact ⟨ret_bool hRf.symm, by go_grown⟩
  | true =>
  have hR2 : R = (decide (n ≤ 3) && D && (decide (k = 1) || decide (n = 0))) := by
    rw [← HR.out]; unfold frB sentB; rw [HW'.out, HS'.out, HD.out, hl]
    have h1 := HK'.out; simp at h1
    by_cases e1 : k = 1
    · simp [e1]
    · have e2 : k = 2 := by omega
      subst e2
      by_cases h0 : n = 0
      · have : vs = [] := List.eq_nil_of_length_eq_zero (by omega)
        have hd : D = true := by rw [← HD.out, this]; rfl
        simp [h0, hd]
      · simp [h0]
  rw [hR2]
  clear hR2
  by_cases hn3 : n ≤ 3
  · cases D with
    | false =>
      go_enter Try.func27, Try.ntmps27
      go_wp2_with fail
      refine (HK.out _).mono ?_
      rintro e w' ⟨rfl, hw'⟩
      rw [hw']
      clear hw' w'
      go_wp2_with fail
      refine (HW.out _).mono ?_
      rintro e w' ⟨rfl, hw'⟩
      rw [hw']
      clear hw' w'
      go_wp2_with fail
      refine (HS.out _).mono ?_
      rintro e w' ⟨rfl, hw'⟩
      rw [hw']
      clear hw' w'
      go_wp2_with fail
      refine (HV.out _).mono ?_
      rintro e w1 ⟨rfl, hb⟩
      have HB := hidOf (below_boxed hb)
      clear hb
      go_wp2_with fail
      go_ret
      exact ⟨ret_bool (by simp), HB.out⟩
    | true =>
      have cc : ∀ w1, Below (w.alloc (.cells #[.int .i64 k, .int .i64 wi, .int .i64 sq, .slice a n c] 29)).heap.size (w.alloc (.cells #[.int .i64 k, .int .i64 wi, .int .i64 sq, .slice a n c] 29)) w1 → w1.cell? ⟨w.heap.size, 0, none⟩ = some (.int .i64 k) ∧ w1.cell? ⟨w.heap.size, 3, none⟩ = some (.slice a n c) := fun w1 hb =>
        ⟨(hb.cell (p := ⟨w.heap.size, 0, none⟩) (by simp)).trans (by simp), (hb.cell (p := ⟨w.heap.size, 3, none⟩) (by simp)).trans (by simp)⟩
      have CC := hidOf cc
      clear cc
      by_cases e1 : k = 1
      · subst e1
        go_enter Try.func27, Try.ntmps27
        go_wp2_with fail
        refine (HK.out _).mono ?_
        rintro e w' ⟨rfl, hw'⟩
        rw [hw']
        clear hw' w'
        go_wp2_with fail
        refine (HW.out _).mono ?_
        rintro e w' ⟨rfl, hw'⟩
        rw [hw']
        clear hw' w'
        go_wp2_with fail
        refine (HS.out _).mono ?_
        rintro e w' ⟨rfl, hw'⟩
        rw [hw']
        clear hw' w'
        go_wp2_with fail
        refine (HV.out _).mono ?_
        rintro e w1 ⟨rfl, hb⟩
        have HB := hidOf (below_boxed hb)
        obtain ⟨k0, k3⟩ := CC.out w1 hb
        have hs1 := hb.size
        simp at hs1
        have hs2 : w.heap.size < w1.heap.size := by omega
        clear hb hs1
        go_wp2_with fail
        go_ret
        exact ⟨ret_bool (by simp [hn3]), HB.out⟩
      · have e1' : (k == 1) = false := by simp [e1]
        go_enter Try.func27, Try.ntmps27
        go_wp2_with fail
        refine (HK.out _).mono ?_
        rintro e w' ⟨rfl, hw'⟩
        rw [hw']
        clear hw' w'
        go_wp2_with fail
        refine (HW.out _).mono ?_
        rintro e w' ⟨rfl, hw'⟩
        rw [hw']
        clear hw' w'
        go_wp2_with fail
        refine (HS.out _).mono ?_
        rintro e w' ⟨rfl, hw'⟩
        rw [hw']
        clear hw' w'
        go_wp2_with fail
        refine (HV.out _).mono ?_
        rintro e w1 ⟨rfl, hb⟩
        have HB := hidOf (below_boxed hb)
        obtain ⟨k0, k3⟩ := CC.out w1 hb
        have hs1 := hb.size
        simp at hs1
        have hs2 : w.heap.size < w1.heap.size := by omega
        clear hb hs1
        go_wp2_with fail
        go_ret
        exact ⟨ret_bool (by simp [hn3, e1]; by_cases h0 : n = 0 <;> simp [h0]), HB.out⟩
  · go_enter Try.func27, Try.ntmps27
    go_wp2_with fail
    refine (HK.out _).mono ?_
    rintro e w' ⟨rfl, hw'⟩
    rw [hw']
    clear hw' w'
    go_wp2_with fail
    refine (HW.out _).mono ?_
    rintro e w' ⟨rfl, hw'⟩
    rw [hw']
    clear hw' w'
    go_wp2_with fail
    refine (HS.out _).mono ?_
    rintro e w' ⟨rfl, hw'⟩
    rw [hw']
    clear hw' w'
    go_wp2_with fail
    go_ret
    exact ⟨ret_bool (by simp [hn3]), by go_grown⟩
theorem specFrameOk_any (B : Nat) (k wi sq : Int) (a : Option Addr) (n c : Nat) (vs : List Int) (w : World) (hn : n ≤ maxLen) (hB : B ≤ w.heap.size) (hz : IsInts B w a n vs) :
    Calls Try.prog 10 #[.agg #[.int .i64 k, .int .i64 wi, .int .i64 sq, .slice a n c]] w fun e w' => e = .returned (.bool (frB k wi sq vs)) ∧ Below w.heap.size w w' := by
  have HO : Hid (∀ o, Calls Try.prog 27 #[.agg #[.int .i64 k, .int .i64 wi, .int .i64 sq, .slice a n c]] (w.alloc o) fun e w' => e = .returned (.bool (frB k wi sq vs)) ∧ Below (w.alloc o).heap.size (w.alloc o) w') := fun o => l7Ok_any B k wi sq a n c vs _ hn (by simp; omega) (ints_boxed hz hB o)
  clear hz
  go_enter Try.func10, Try.ntmps10
  go_wp2_with fail
  refine (HO.out _).mono ?_
  rintro e w1 ⟨rfl, hb⟩
  have HB := hidOf (below_boxed hb)
  clear hb
  go_wp2_with fail
  go_ret
  exact ⟨rfl, HB.out⟩
end Go.Proofs.Ytcdkililodmnjaa
