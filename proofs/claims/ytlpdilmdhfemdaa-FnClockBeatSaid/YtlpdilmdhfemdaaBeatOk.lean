/- Whether beats are ok: by the model and by the program. -/
import Derived.Test.YtlpdilmdhfemdaaBeatMem
import Derived.Deep.RegionHeld3
import Derived.BigQuiet
namespace Go.Proofs.Ytlpdilmdhfemdaa
open Go Go.RowKit Go.PlainAid
set_option linter.unusedSimpArgs false
set_option linter.unusedVariables false

/-- whether a beat is ok -/
def btB (x : Bt) : Bool := decide (0 ≤ x.1 ∧ x.1 ≤ 2) && decide (0 ≤ x.2.1 ∧ x.2.1 ≤ 9999) && decide (1 ≤ x.2.2 ∧ x.2.2 ≤ 9999)
/-- whether beats are ok -/
def btsB (l : List Bt) : Bool := l.all btB && decide (l.length ≤ 3)

theorem eqBeat_same (x y z : Int) (w : World) : Calls Try.prog 39 #[.agg #[.int .i64 x, .int .i64 y, .int .i64 z], .agg #[.int .i64 x, .int .i64 y, .int .i64 z]] w fun e w' => e = .returned (.bool true) ∧ Below w.heap.size w w' := by
  go_enter Try.func39, Try.ntmps39
  go_wp2
  go_ret
  refine ⟨rfl, ?_⟩
  go_grown
set_option maxHeartbeats 800000 in
/-- two slices that read as the same beats are the same -/
theorem eqBeatS_same (B : Nat) (a a' : Option Addr) (n cap cap' : Nat) (l : List Bt) (w : World) (hn : n ≤ 1048576) (hB : B ≤ w.heap.size) (hz : IsBts B w a n l) (hz' : IsBts B w a' n l) :
    Calls Try.prog 20 #[.slice a n cap, .slice a' n cap'] w fun e w' => e = .returned (.bool true) ∧ Below w.heap.size w w' := by
  have hlen := hz.1
  have HZ := hidOf hz
  have HZ' := hidOf hz'
  clear hz hz'
  go_enter Try.func20, Try.ntmps20
  go_wp2
  go_loopw [5] (fun i wr => ∃ k : Nat, k ≤ n ∧ i = .int .i64 k ∧ Below w.heap.size w wr) (fun i _ => n - (intOf i).toNat)
  case atStart => exact ⟨0, Nat.zero_le _, rfl, Below.refl _ _⟩
  case round =>
    obtain ⟨k, hk, rfl, hbel⟩ := hrel
    by_cases hlt : k < n
    · obtain ⟨b, off, rfl, hb, q0, q1, q2⟩ := bts_at HZ.out hlt (show k < l.length by omega)
      obtain ⟨b', off', rfl, hb', r0, r1, r2⟩ := bts_at HZ'.out hlt (show k < l.length by omega)
      have c0 := (hbel.cell (p := ⟨b, off + k * 3, none⟩) (Nat.lt_of_lt_of_le hb hB)).trans q0
      have c1 := (hbel.cell (p := ⟨b, off + k * 3 + 1, none⟩) (Nat.lt_of_lt_of_le hb hB)).trans q1
      have c2 := (hbel.cell (p := ⟨b, off + k * 3 + 2, none⟩) (Nat.lt_of_lt_of_le hb hB)).trans q2
      have d0 := (hbel.cell (p := ⟨b', off' + k * 3, none⟩) (Nat.lt_of_lt_of_le hb' hB)).trans r0
      have d1 := (hbel.cell (p := ⟨b', off' + k * 3 + 1, none⟩) (Nat.lt_of_lt_of_le hb' hB)).trans r1
      have d2 := (hbel.cell (p := ⟨b', off' + k * 3 + 2, none⟩) (Nat.lt_of_lt_of_le hb' hB)).trans r2
      have hbr : b < wr.heap.size := by have := hbel.size; omega
      have hbr' : b' < wr.heap.size := by have := hbel.size; omega
      clear q0 q1 q2 r0 r1 r2
      obtain ⟨⟨x0, x1, x2⟩, hx⟩ : ∃ x, l[k]'(by omega) = x := ⟨_, rfl⟩
      rw [hx] at c0 c1 c2 d0 d1 d2
      clear hx
      dsimp only at c0 c1 c2 d0 d1 d2
      go_wp2
      go_region_held3 (fun w' => w'.cell? ⟨b, off + k * 3, none⟩ = some (.int .i64 x0) ∧ w'.cell? ⟨b, off + k * 3 + 1, none⟩ = some (.int .i64 x1) ∧ w'.cell? ⟨b, off + k * 3 + 2, none⟩ = some (.int .i64 x2) ∧ w'.cell? ⟨b', off' + k * 3, none⟩ = some (.int .i64 x0) ∧ w'.cell? ⟨b', off' + k * 3 + 1, none⟩ = some (.int .i64 x1) ∧ w'.cell? ⟨b', off' + k * 3 + 2, none⟩ = some (.int .i64 x2)) (simp [go_sem, *])
        (first | (go_at_call 39; refine (eqBeat_same _ _ _ _).mono ?_; rintro e w' ⟨rfl, hb1⟩; replace hb1 := undrew hb1; obtain ⟨hc1, hf1⟩ := bcell hb1))
      go_wp2
      go_roundw
      case rel => exact ⟨k + 1, by omega, by go_num, hbel.trans (hb1.mono hbel.size)⟩
      case measure => simp [intOf]; omega
    · go_wp2
      go_ret
      exact ⟨rfl, hbel⟩

theorem all_no {α : Type} {f : α → Bool} {l : List α} {k : Nat} (h : k < l.length) (hn : f l[k] = false) : l.all f = false := by
  rw [List.all_eq_false]; exact ⟨l[k], List.getElem_mem h, by simp [hn]⟩
theorem all_yes {α : Type} {f : α → Bool} {l : List α} (h : ∀ k, (hk : k < l.length) → f l[k] = true) : l.all f = true := by
  rw [List.all_eq_true]
  intro x hx
  obtain ⟨k, hk, rfl⟩ := List.mem_iff_getElem.1 hx
  exact h k hk

set_option maxHeartbeats 1600000 in
set_option maxRecDepth 100000 in
theorem l24Ok_any (B : Nat) (a : Option Addr) (n c : Nat) (l : List Bt) (w : World) (hB : B ≤ w.heap.size) (hn : n ≤ 1048576) (hz : IsBts B w a n l) :
    Calls Try.prog 31 #[.slice a n c] w fun e w' => e = .returned (.bool (btsB l)) ∧ Below w.heap.size w w' := by
  have hlen := hz.1
  have HZ := hidOf hz
  clear hz
  obtain ⟨D, hD⟩ : ∃ D, btsB l = D := ⟨_, rfl⟩
  have HD := hidOf hD
  rw [hD]
  clear hD
  go_enter Try.func31, Try.ntmps31
  go_wp2
  go_loopw [3] (fun i wr => ∃ k : Nat, k ≤ n ∧ i = .int .i64 k ∧ Hid (∀ j, (h : j < l.length) → j < k → btB l[j] = true) ∧ Below w.heap.size w wr) (fun i _ => n - (intOf i).toNat)
  case atStart => exact ⟨0, Nat.zero_le _, rfl, fun j _ h => absurd h (Nat.not_lt_zero _), Below.refl _ _⟩
  case round =>
    obtain ⟨k, hk, rfl, HK, hbel⟩ := hrel
    by_cases hlt : k < n
    · have hle := hbel.size
      obtain ⟨b, off, rfl, hb, q0, q1, q2⟩ := bts_at HZ.out hlt (show k < l.length by omega)
      have c0 := (hbel.cell (p := ⟨b, off + k * 3, none⟩) (Nat.lt_of_lt_of_le hb hB)).trans q0
      have c1 := (hbel.cell (p := ⟨b, off + k * 3 + 1, none⟩) (Nat.lt_of_lt_of_le hb hB)).trans q1
      have c2 := (hbel.cell (p := ⟨b, off + k * 3 + 2, none⟩) (Nat.lt_of_lt_of_le hb hB)).trans q2
      clear q0 q1 q2
      obtain ⟨P, hP⟩ : ∃ P, btB (l[k]'(by omega)) = P := ⟨_, rfl⟩
      have HP := hidOf hP
      clear hP
      obtain ⟨⟨x0, x1, x2⟩, hx⟩ : ∃ x, l[k]'(by omega) = x := ⟨_, rfl⟩
      have HP2 : Hid (btB (x0, x1, x2) = P) := by show _ = _; rw [← hx]; exact HP.out
      rw [hx] at c0 c1 c2
      clear hx
      dsimp only at c0 c1 c2
      by_cases h0 : 0 ≤ x0 ∧ x0 ≤ 2
      · by_cases h1 : 0 ≤ x1 ∧ x1 ≤ 9999
        · by_cases h2 : 1 ≤ x2 ∧ x2 ≤ 9999
          · go_wp2_with (first | (go_at_call 37; refine (l1In_any _ _ _ _).mono ?_; rintro e w' ⟨rfl, rfl⟩; first | rw [decide_eq_true h0] | rw [decide_eq_true h1] | rw [decide_eq_true h2]))
            go_roundw
            case rel => exact ⟨k + 1, by omega, by go_num, fun j hj hjk => by
                by_cases e : j = k
                · subst e; rw [HP.out, ← HP2.out]; simp [btB, h0, h1, h2]
                · exact HK.out j hj (by omega), by first | exact hbel | (go_grown; omega) | go_grown⟩
            case measure => simp [intOf]; omega
          · go_wp2_with (first | (go_at_call 37; refine (l1In_any _ _ _ _).mono ?_; rintro e w' ⟨rfl, rfl⟩; first | rw [decide_eq_true h0] | rw [decide_eq_true h1] | rw [decide_eq_false h2]))
            go_ret
            refine ⟨ret_bool ?_, by (go_grown; try omega)⟩
            rw [← HD.out]; unfold btsB; rw [all_no (show k < l.length by omega) (by rw [HP.out, ← HP2.out]; simp [btB]; omega)]; rfl
        · go_wp2_with (first | (go_at_call 37; refine (l1In_any _ _ _ _).mono ?_; rintro e w' ⟨rfl, rfl⟩; first | rw [decide_eq_true h0] | rw [decide_eq_false h1]))
          go_ret
          refine ⟨ret_bool ?_, by (go_grown; try omega)⟩
          rw [← HD.out]; unfold btsB; rw [all_no (show k < l.length by omega) (by rw [HP.out, ← HP2.out]; simp [btB]; omega)]; rfl
      · go_wp2_with (first | (go_at_call 37; refine (l1In_any _ _ _ _).mono ?_; rintro e w' ⟨rfl, rfl⟩; rw [decide_eq_false h0]))
        go_ret
        refine ⟨ret_bool ?_, by (go_grown; try omega)⟩
        rw [← HD.out]; unfold btsB; rw [all_no (show k < l.length by omega) (by rw [HP.out, ← HP2.out]; simp [btB]; omega)]; rfl
    · have : k = n := by omega
      subst this
      go_wp2
      go_ret
      refine ⟨ret_bool ?_, hbel⟩
      rw [← HD.out]; unfold btsB; rw [all_yes (fun j hj => HK.out j hj (by omega)), hlen]; simp; try omega

theorem specClockOk_any (B : Nat) (a : Option Addr) (n c : Nat) (l : List Bt) (w : World) (hB : B ≤ w.heap.size) (hn : n ≤ 1048576) (hz : IsBts B w a n l) :
    Calls Try.prog 14 #[.slice a n c] w fun e w' => e = .returned (.bool (btsB l)) ∧ Below w.heap.size w w' := by
  have HC := hidOf (l24Ok_any B a n c l w hB hn hz)
  clear hz
  go_enter Try.func14, Try.ntmps14
  go_wp2_with fail
  refine HC.out.mono ?_
  rintro e w1 ⟨rfl, hb⟩
  go_wp2_with fail
  go_ret
  exact ⟨rfl, hb⟩

theorem isTime_any (x : Int) (w : World) : Calls Try.prog 36 #[.int .i64 x] w fun e w' => e = .returned (.bool (decide (0 ≤ x ∧ x ≤ 9999))) ∧ w' = w := by
  by_cases h1 : 0 ≤ x
  · go_enter Try.func36, Try.ntmps36
    go_wp2
    go_ret
    exact ⟨ret_bool (by simp [h1]), rfl⟩
  · go_enter Try.func36, Try.ntmps36
    go_wp2
    go_ret
    exact ⟨ret_bool (by simp; omega), rfl⟩
set_option maxHeartbeats 800000 in
theorem badBeat_any (x y z : Int) (w : World) : Calls Try.prog 35 #[.agg #[.int .i64 x, .int .i64 y, .int .i64 z]] w fun e w' => e = .returned (.bool (!btB (x, y, z))) ∧ Below w.heap.size w w' := by
  have hG : Below w.heap.size w (w.alloc (.cells #[.int .i64 x, .int .i64 y, .int .i64 z] 34)) := by go_grown
  by_cases h0 : x < 0
  · go_enter Try.func35, Try.ntmps35
    go_wp2
    go_ret
    exact ⟨ret_bool (by simp [btB]; omega), by go_grown⟩
  by_cases h0' : 3 ≤ x
  · go_enter Try.func35, Try.ntmps35
    go_wp2
    go_ret
    exact ⟨ret_bool (by simp [btB]; omega), by go_grown⟩
  by_cases h1 : 0 ≤ y ∧ y ≤ 9999
  · by_cases h2 : z < 1
    · go_enter Try.func35, Try.ntmps35
      go_wp2_with (go_at_call 36; refine (isTime_any _ _).mono ?_; rintro e w' ⟨rfl, rfl⟩; rw [decide_eq_true h1])
      go_ret
      exact ⟨ret_bool (by simp [btB]; omega), by go_grown⟩
    · by_cases h3 : 9999 < z
      · go_enter Try.func35, Try.ntmps35
        go_wp2_with (go_at_call 36; refine (isTime_any _ _).mono ?_; rintro e w' ⟨rfl, rfl⟩; rw [decide_eq_true h1])
        go_ret
        refine ⟨ret_bool ?_, by go_grown⟩
        have e : btB (x, y, z) = false := by (simp [btB]; omega)
        rw [e]; simp; try omega
      · go_enter Try.func35, Try.ntmps35
        go_wp2_with (go_at_call 36; refine (isTime_any _ _).mono ?_; rintro e w' ⟨rfl, rfl⟩; rw [decide_eq_true h1])
        go_ret
        refine ⟨ret_bool ?_, by go_grown⟩
        have e : btB (x, y, z) = true := by (simp [btB]; omega)
        rw [e]; simp; try omega
  · go_enter Try.func35, Try.ntmps35
    go_wp2_with (go_at_call 36; refine (isTime_any _ _).mono ?_; rintro e w' ⟨rfl, rfl⟩; rw [decide_eq_false h1])
    go_ret
    exact ⟨ret_bool (by simp [btB]; omega), by go_grown⟩
end Go.Proofs.Ytlpdilmdhfemdaa
