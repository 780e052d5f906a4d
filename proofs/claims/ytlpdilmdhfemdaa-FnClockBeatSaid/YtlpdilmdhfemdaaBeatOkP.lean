/- ClockOk of the program. -/
import Derived.Test.YtlpdilmdhfemdaaBeatOk
namespace Go.Proofs.Ytlpdilmdhfemdaa
open Go Go.RowKit Go.PlainAid
set_option linter.unusedSimpArgs false
set_option linter.unusedVariables false

set_option maxHeartbeats 1600000 in
set_option maxRecDepth 100000 in
theorem idxBeat_any (B : Nat) (a : Option Addr) (n c : Nat) (l : List Bt) (w : World) (hB : B ≤ w.heap.size) (hn : n ≤ 1048576) (hz : IsBts B w a n l) :
    Calls Try.prog 49 #[.slice a n c, .func (Fn.func 35) #[] #[]] w fun e w' => ∃ r : Int, e = .returned (.int .i64 r) ∧ decide (0 ≤ r) = !(l.all btB) ∧ Below w.heap.size w w' := by
  have hlen := hz.1
  have HZ := hidOf hz
  clear hz
  obtain ⟨D, hD⟩ : ∃ D, l.all btB = D := ⟨_, rfl⟩
  have HD := hidOf hD
  rw [hD]
  clear hD
  go_enter Try.func49, Try.ntmps49
  go_wp2
  go_loopw [8] (fun i wr => ∃ k : Nat, k ≤ n ∧ i = .int .i64 k ∧ Hid (∀ j, (h : j < l.length) → j < k → btB l[j] = true) ∧ Below w.heap.size w wr) (fun i _ => n - (intOf i).toNat)
  case atStart => exact ⟨0, Nat.zero_le _, rfl, fun j _ h => absurd h (Nat.not_lt_zero _), Below.refl _ _⟩
  case round =>
    obtain ⟨k, hk, rfl, HK, hbel⟩ := hrel
    by_cases hlt : k < n
    · have hle := hbel.size
      obtain ⟨b, off, rfl, hb, q0, q1, q2⟩ := bts_at HZ.out hlt (show k < l.length by omega)
      have c0 := (hbel.cell (p := ⟨b, off + k * 3, none⟩) (Nat.lt_of_lt_of_le hb hB)).trans q0
      have c1 := (hbel.cell (p := ⟨b, off + k * 3 + 1, none⟩) (Nat.lt_of_lt_of_le hb hB)).trans q1
      have c2 := (hbel.cell (p := ⟨b, off + k * 3 + 2, none⟩) (Nat.lt_of_lt_of_le hb hB)).trans q2
      clear q0 q1 q2
      obtain ⟨P, hP⟩ : ∃ P, btB (l[k]'(by omega)) = P := ⟨_, rfl⟩
      have HP := hidOf hP
      clear hP
      obtain ⟨⟨x0, x1, x2⟩, hx⟩ : ∃ x, l[k]'(by omega) = x := ⟨_, rfl⟩
      have hP2 : btB (x0, x1, x2) = P := by rw [← hx]; exact HP.out
      have HE := hidOf (badBeat_any x0 x1 x2 wr)
      rw [hP2] at HE
      rw [hx] at c0 c1 c2
      clear hx hP2
      dsimp only at c0 c1 c2
      cases P with
      | true =>
        go_wp2_with fail
        refine HE.out.mono ?_
        rintro e w1 ⟨rfl, hb1⟩
        go_wp2_with fail
        go_roundw
        case rel => exact ⟨k + 1, by omega, by go_num, fun j hj hjk => by
            by_cases e : j = k
            · subst e; exact HP.out
            · exact HK.out j hj (by omega), hbel.trans (hb1.mono hbel.size)⟩
        case measure => simp [intOf]; omega
      | false =>
        go_wp2_with fail
        refine HE.out.mono ?_
        rintro e w1 ⟨rfl, hb1⟩
        go_wp2_with fail
        go_ret
        refine ⟨_, rfl, ?_, hbel.trans (hb1.mono hbel.size)⟩
        rw [← HD.out, all_no (show k < l.length by omega) HP.out]; simp
    · have : k = n := by omega
      subst this
      go_wp2
      go_ret
      refine ⟨_, rfl, ?_, hbel⟩
      rw [← HD.out, all_yes (fun j hj => HK.out j hj (by omega))]; rfl

theorem hasBeat_any (B : Nat) (a : Option Addr) (n c : Nat) (l : List Bt) (w : World) (hB : B ≤ w.heap.size) (hn : n ≤ 1048576) (hz : IsBts B w a n l) :
    Calls Try.prog 34 #[.slice a n c, .func (Fn.func 35) #[] #[]] w fun e w' => e = .returned (.bool (!(l.all btB))) ∧ Below w.heap.size w w' := by
  have HI := hidOf (idxBeat_any B a n c l w hB hn hz)
  clear hz
  obtain ⟨D, hD⟩ : ∃ D, (!(l.all btB)) = D := ⟨_, rfl⟩
  rw [hD] at HI ⊢
  go_enter Try.func34, Try.ntmps34
  go_wp2_with fail
  refine HI.out.mono ?_
  rintro e w1 ⟨r, rfl, hr, hb⟩
  have HR := hidOf hr
  clear hr
  go_wp2_with fail
  go_ret
  exact ⟨ret_bool HR.out, hb⟩

theorem implClockOk_any (B : Nat) (a : Option Addr) (n c : Nat) (l : List Bt) (w : World) (hB : B ≤ w.heap.size) (hn : n ≤ 1048576) (hz : IsBts B w a n l) :
    Calls Try.prog 13 #[.slice a n c] w fun e w' => e = .returned (.bool (btsB l)) ∧ Below w.heap.size w w' := by
  have HI := hidOf (hasBeat_any B a n c l w hB hn hz)
  have hlen := hz.1
  clear hz
  unfold btsB
  rw [hlen]
  by_cases h : n ≤ 3
  · have h' : (n : Int) ≤ 3 := by omega
    rw [decide_eq_true h]
    go_enter Try.func13, Try.ntmps13
    go_wp2_with fail
    refine HI.out.mono ?_
    rintro e w1 ⟨rfl, hb⟩
    go_wp2_with fail
    go_ret
    exact ⟨ret_bool (by simp), hb⟩
  · have h' : ¬ (n : Int) ≤ 3 := by omega
    rw [decide_eq_false h]
    go_enter Try.func13, Try.ntmps13
    go_wp2_with fail
    go_ret
    exact ⟨ret_bool (by simp), Below.refl _ _⟩
end Go.Proofs.Ytlpdilmdhfemdaa
