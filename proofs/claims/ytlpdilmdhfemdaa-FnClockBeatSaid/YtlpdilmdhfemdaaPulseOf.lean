/- A beat that goes on, and what comes of it. -/
import Derived.Test.YtlpdilmdhfemdaaPulseFn
namespace Go.Proofs.Ytlpdilmdhfemdaa
open Go Go.RowKit Go.PlainAid
set_option linter.unusedSimpArgs false
set_option linter.unusedVariables false

set_option maxHeartbeats 1600000 in
theorem next_any (b : Nat) (x : Pu) (w : World) (h : PulAt w b x) (hw : -9223372036854775808 ≤ x.1 + x.2.2 ∧ x.1 + x.2.2 ≤ 9223372036854775807) :
    Calls Try.prog 47 #[.pointer (some ⟨b, 0, none⟩)] w fun e w' => e = .returned (.agg #[.int .i64 x.1, .int .i64 x.2.1]) ∧ PulAt w' b (x.1 + x.2.2, x.2) ∧ w.heap.size ≤ w'.heap.size ∧ w'.os = w.os ∧ w'.tape = w.tape ∧ w'.output = w.output ∧ ∀ k, k < w.heap.size → k ≠ b → w'.heap[k]? = w.heap[k]? := by
  have hlt := h.lt
  have c0 := h.cell0
  have c1 := h.cell1
  have c2 := h.cell2
  have f0 := h.frozen 0
  have hs : IntKind.i64.wrap (x.1 + x.2.2) = x.1 + x.2.2 := by rw [IntKind.wrap_i64]; omega
  have HP := hidOf h
  clear h
  go_enter Try.func47, Try.ntmps47
  go_wp2
  go_region_with (fail)
  all_goals go_wp2
  all_goals
    refine bodyPost_ret (by simp [results, Try.results47, go_sem]; try rfl) rfl ?_
    have k1 := (HP.out.set (x.1 + x.2.2)).below (((Below.refl _ (w.setCell ⟨b, 0, none⟩ (.int .i64 (x.1 + x.2.2)))).alloc (Nat.le_refl _) (.cells #[.int .i64 x.1, .int .i64 x.2.1] 32)).alloc (by simp [World.setCell]) (.cells #[.int .i64 x.1, .int .i64 x.2.1] 32))
    exact ⟨rfl, k1, by (simp [World.setCell]; try omega), rfl, rfl, rfl, fun k hk hne => by
      show ((((w.setCell _ _).alloc _).alloc _).heap)[k]? = _
      rw [Below.heap_alloc _ _ _ (by simp [World.setCell]; omega), Below.heap_alloc _ _ _ (by simpa [World.setCell] using hk), Below.heap_setCell _ _ _ _ hne]⟩

/-- what a beat is when it goes on from a time -/
def pulM (t : Int) (x : Bt) : Pu := (x.2.1 + max 0 ((t - x.2.1 + x.2.2 - 1).tdiv x.2.2) * x.2.2, x.1, x.2.2)
set_option maxHeartbeats 1600000 in
theorem pulseOf_any (t : Int) (x : Bt) (w : World) (hx : btB x = true) (ht : 0 ≤ t ∧ t ≤ 9999) :
    Calls Try.prog 44 #[.agg #[.int .i64 x.1, .int .i64 x.2.1, .int .i64 x.2.2], .int .i64 t] w fun e w' => ∃ b, e = .returned (.pointer (some ⟨b, 0, none⟩)) ∧ w.heap.size ≤ b ∧ PulAt w' b (pulM t x) ∧ Below w.heap.size w w' := by
  obtain ⟨s, f, n⟩ := x
  have hb : (0 ≤ s ∧ s ≤ 2) ∧ (0 ≤ f ∧ f ≤ 9999) ∧ (1 ≤ n ∧ n ≤ 9999) := by simpa [btB, and_assoc] using hx
  obtain ⟨⟨hs0, hs1⟩, ⟨hf0, hf1⟩, hn0, hn1⟩ := hb
  obtain ⟨ht0, ht1⟩ := ht
  have w1 : IntKind.i64.wrap (t - f) = t - f := by rw [IntKind.wrap_i64]; omega
  have w2 : IntKind.i64.wrap (t - f + n) = t - f + n := by rw [IntKind.wrap_i64]; omega
  have w3 : IntKind.i64.wrap (t - f + n - 1) = t - f + n - 1 := by rw [IntKind.wrap_i64]; omega
  have hz : (n == 0) = false := by simp; omega
  have w0 : wrap64 0 = 0 := by unfold wrap64; omega
  have wf : wrap64 f = f := by unfold wrap64; omega
  have hp : pulM t (s, f, n) = (f + max 0 ((t - f + n - 1).tdiv n) * n, s, n) := rfl
  obtain ⟨q, hq⟩ : ∃ q, (t - f + n - 1).tdiv n = q := ⟨_, rfl⟩
  rw [hq] at hp
  have hqb : 0 ≤ q → 0 ≤ q * n ∧ q * n ≤ 19998 := fun h0 => by
    refine ⟨Int.mul_nonneg h0 (by omega), ?_⟩
    by_cases hd : 0 ≤ t - f + n - 1
    · have h1 := Int.mul_tdiv_add_tmod (t - f + n - 1) n
      have h2 := Int.tmod_nonneg n hd
      rw [hq, Int.mul_comm] at h1
      omega
    · have h1 := Int.mul_tdiv_add_tmod (t - f + n - 1) n
      have h2 := Int.tmod_nonneg n (show 0 ≤ -(t - f + n - 1) by omega)
      rw [Int.neg_tmod] at h2
      rw [hq, Int.mul_comm] at h1
      have h3 : (t - f + n - 1).tmod n > -n := by
        have := Int.tmod_lt_of_pos (-(t - f + n - 1)) (show 0 < n by omega)
        rw [Int.neg_tmod] at this
        omega
      omega
  have HQ := hidOf hqb
  have HPM := hidOf hp
  clear hqb hp
  by_cases hq0 : q < 0
  · have hlow : -20000 ≤ q := by
      by_cases hd : 0 ≤ t - f + n - 1
      · have := Int.tdiv_nonneg hd (show 0 ≤ n by omega)
        omega
      · have h1 : (-(t - f + n - 1)).tdiv n = -q := by rw [Int.neg_tdiv, hq]
        have h2 := Int.tdiv_le_self n (show 0 ≤ -(t - f + n - 1) by omega)
        omega
    have wq1 : wrap64 q = q := by unfold wrap64; omega
    go_enter Try.func44, Try.ntmps44
    go_wp2
    all_goals
      first
        | (exfalso; omega)
        | (go_ret
           refine ⟨_, rfl, by simp, ?_, by go_grown⟩
           rw [HPM.out, show max 0 q = 0 by omega, Int.zero_mul, Int.add_zero]
           have := PulAt.new (w.alloc (Obj.cells #[Value.int IntKind.i64 s, Value.int IntKind.i64 f, Value.int IntKind.i64 n] 34)) (f) s n
           simpa [w0, wf] using this)
  by_cases hq1 : q = 0
  · subst hq1
    have wz : wrap64 (0 * n) = 0 := by rw [Int.zero_mul]; exact w0
    go_enter Try.func44, Try.ntmps44
    go_wp2
    all_goals
      first
        | (exfalso; omega)
        | (go_ret
           refine ⟨_, rfl, by simp, ?_, by go_grown⟩
           rw [HPM.out, show max 0 (0 : Int) = 0 by omega, Int.zero_mul, Int.add_zero]
           have := PulAt.new (w.alloc (Obj.cells #[Value.int IntKind.i64 s, Value.int IntKind.i64 f, Value.int IntKind.i64 n] 34)) (f) s n
           simpa [w0, wf, wz] using this)
  · have hqn := HQ.out (by omega)
    have hq3 : q ≤ q * n := by
      have := Int.mul_le_mul_of_nonneg_left (show 1 ≤ n by omega) (show 0 ≤ q by omega)
      omega
    have wq1 : wrap64 q = q := by unfold wrap64; omega
    have wq : wrap64 (q * n) = q * n := by unfold wrap64; omega
    have wfq : wrap64 (f + q * n) = f + q * n := by unfold wrap64; omega
    clear hqn hq3
    go_enter Try.func44, Try.ntmps44
    go_wp2
    all_goals
      first
        | (exfalso; omega)
        | (go_ret
           refine ⟨_, rfl, by simp, ?_, by go_grown⟩
           rw [HPM.out, show max 0 q = q by omega]
           have := PulAt.new (w.alloc (Obj.cells #[Value.int IntKind.i64 s, Value.int IntKind.i64 f, Value.int IntKind.i64 n] 34)) (f + q * n) s n
           simpa [wq1, wq, wfq] using this)
end Go.Proofs.Ytlpdilmdhfemdaa
