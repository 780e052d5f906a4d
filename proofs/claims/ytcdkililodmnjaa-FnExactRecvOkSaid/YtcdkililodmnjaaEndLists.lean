/- What can be at an end of a wire: by the model and by the program. -/
import Derived.Test.YtcdkililodmnjaaListMem
import Derived.Test.YtcdkililodmnjaaSent
namespace Go.Proofs.Ytcdkililodmnjaa
open Go Go.RowKit Go.PlainAid
set_option linter.unusedSimpArgs false
set_option linter.unusedVariables false

/-- at most three lists, each of which can go by a wire -/
def listsB (l : List (List Int)) : Bool := decide (l.length ≤ 3) && l.all sentB
def sendB (b : Int) (l : List (List Int)) : Bool := listsB l && decide (0 ≤ b ∧ b ≤ 9999 - l.length)
def recvB (x : Int) (l : List (List Int)) : Bool := listsB l && decide ((l.length : Int) ≤ x ∧ x ≤ 9999)
theorem all_no {α : Type} {f : α → Bool} {l : List α} {k : Nat} (h : k < l.length) (hn : f l[k] = false) : l.all f = false := by
  rw [List.all_eq_false]; exact ⟨l[k], List.getElem_mem h, by simp [hn]⟩
theorem all_yes {α : Type} {f : α → Bool} {l : List α} (h : ∀ k, (hk : k < l.length) → f l[k] = true) : l.all f = true := by
  rw [List.all_eq_true]
  intro x hx
  obtain ⟨k, hk, rfl⟩ := List.mem_iff_getElem.1 hx
  exact h k hk

set_option maxHeartbeats 800000 in
set_option maxRecDepth 100000 in
theorem l8Lists_any (B : Nat) (a : Option Addr) (n cap : Nat) (l : List (List Int)) (w : World) (hn : n ≤ maxLen) (hB : B ≤ w.heap.size) (hz : IsArr 1 QIs B w a n l) :
    Calls Try.prog 41 #[.slice a n cap] w fun e w' => e = .returned (.bool (listsB l)) ∧ Below w.heap.size w w' := by
  have hlen := hz.1
  have HZ := hidOf hz
  clear hz
  unfold maxLen at hn
  obtain ⟨R, hR⟩ : ∃ R, listsB l = R := ⟨_, rfl⟩
  have HR := hidOf hR
  rw [hR]
  clear hR
  go_enter Try.func41, Try.ntmps41
  go_wp2
  go_loopw [3] (fun i wr => ∃ k : Nat, k ≤ n ∧ i = .int .i64 k ∧ Hid (∀ j, (h : j < l.length) → j < k → sentB l[j] = true) ∧ Below w.heap.size w wr) (fun i _ => n - (intOf i).toNat)
  case atStart => exact ⟨0, Nat.zero_le _, rfl, fun j _ h => absurd h (Nat.not_lt_zero _), Below.refl _ _⟩
  case round =>
    obtain ⟨k, hk, rfl, HK, hbel⟩ := hrel
    by_cases hlt : k < n
    · obtain ⟨b, off, cs, rfl, hb, hq, hcell⟩ := IsArr.at (HZ.out.below (QIs.below (hbel.mono hB)) (hbel.mono hB)) hlt (show k < l.length by omega)
      have hbr : b < wr.heap.size := by have := hbel.size; omega
      obtain ⟨x, hx⟩ : ∃ x, l[k]'(by omega) = x := ⟨_, rfl⟩
      have HX := hidOf hx
      rw [hx] at hq
      obtain ⟨a', n', c', rfl, q1, q2, q3⟩ := hq
      have hxl := q3.1
      have c0 : wr.cell? ⟨b, off + k, none⟩ = some (.slice a' n' c') := by have := hcell 0 _ rfl; simpa using this
      have hBr : B ≤ wr.heap.size := by have := hbel.size; omega
      have HV := hidOf (l4Vals_any B a' n' c' x wr (by unfold maxLen at q2 ⊢; omega) hBr q3)
      have hn' : n' ≤ 9223372036854775807 := by unfold maxLen at q2; omega
      clear hcell hx q3
      obtain ⟨D, hD⟩ : ∃ D, all32 x = D := ⟨_, rfl⟩
      rw [hD] at HV
      have HD := hidOf hD
      clear hD
      by_cases h3 : n' ≤ 3
      · cases D with
        | true =>
          go_wp2_with fail
          refine HV.out.mono ?_
          rintro e w1 ⟨rfl, hb1⟩
          have HB1 : Hid (Below w.heap.size w w1) := hbel.trans (hb1.mono hbel.size)
          clear hb1
          go_wp2_with fail
          go_roundw
          case rel =>
            refine ⟨k + 1, by omega, by go_num, ?_, HB1.out⟩
            intro j hj hjk
            by_cases e : j = k
            · subst e
              rw [HX.out]
              unfold sentB
              rw [HD.out, hxl, decide_eq_true h3]
              rfl
            · exact HK.out j hj (by omega)
          case measure => simp [intOf]; omega
        | false =>
          have hRf : R = false := by
            rw [← HR.out]
            unfold listsB
            rw [all_no (k := k) (by omega) (by rw [HX.out]; unfold sentB; rw [HD.out]; simp)]
            simp
          go_wp2_with fail
          refine HV.out.mono ?_
          rintro e w1 ⟨rfl, hb1⟩
          have HB1 : Hid (Below w.heap.size w w1) := hbel.trans (hb1.mono hbel.size)
          clear hb1
          go_wp2_with fail
          go_ret
          exact ⟨ret_bool hRf.symm, HB1.out⟩
      · have hRf : R = false := by
          rw [← HR.out]
          unfold listsB
          rw [all_no (k := k) (by omega) (by rw [HX.out]; unfold sentB; rw [hxl, decide_eq_false h3]; simp)]
          simp
        go_wp2_with fail
        go_ret
        exact ⟨by simp [hRf], hbel⟩
    · have : k = n := by omega
      subst this
      have hRt : R = decide (k ≤ 3) := by
        rw [← HR.out]
        unfold listsB
        rw [all_yes (fun j hj => HK.out j hj (by omega)), hlen]
        simp
      go_wp2_with fail
      go_ret
      exact ⟨ret_bool (by rw [hRt]; by_cases h3 : k ≤ 3 <;> simp [h3] <;> omega), hbel⟩

theorem areAtEnd1_any (B : Nat) (a : Option Addr) (n cap : Nat) (vs : List Int) (w : World) (hn : n ≤ maxLen) (hz : IsInts B w a n vs) : Calls Try.prog 43 #[.slice a n cap] w fun e w' => e = .returned (.bool (!sentB vs)) ∧ w' = w := by
  have HS := hidOf (areSent_any B a n cap vs w hn hz)
  clear hz
  go_enter Try.func43, Try.ntmps43
  go_wp2_with fail
  refine HS.out.mono ?_
  rintro e w' ⟨rfl, rfl⟩
  go_wp2_with fail
  go_ret
  exact ⟨rfl, rfl⟩
set_option maxHeartbeats 800000 in
theorem indexFuncL_any (B : Nat) (a : Option Addr) (n cap : Nat) (l : List (List Int)) (w : World) (hn : n ≤ maxLen) (hz : IsArr 1 QIs B w a n l) :
    Calls Try.prog 48 #[.slice a n cap, .func (Fn.func 43) #[] #[]] w fun e w' => ∃ i : Int, e = .returned (.int .i64 i) ∧ (0 ≤ i ↔ l.all sentB = false) ∧ w' = w := by
  have hlen := hz.1
  have HZ := hidOf hz
  clear hz
  unfold maxLen at hn
  obtain ⟨D, hD⟩ : ∃ D, l.all sentB = D := ⟨_, rfl⟩
  have HD := hidOf hD
  rw [hD]
  clear hD
  go_enter Try.func48, Try.ntmps48
  go_wp2
  go_loop [8] (fun i => ∃ k : Nat, k ≤ n ∧ i = .int .i64 k ∧ Hid (∀ j, (h : j < l.length) → j < k → sentB l[j] = true)) (fun i => n - (intOf i).toNat)
  case atStart => exact ⟨0, Nat.zero_le _, rfl, fun j _ h => absurd h (Nat.not_lt_zero _)⟩
  case round =>
    obtain ⟨k, hk, rfl, HK⟩ := hrel
    by_cases hlt : k < n
    · obtain ⟨b, off, cs, rfl, hb, hq, hcell⟩ := IsArr.at HZ.out hlt (show k < l.length by omega)
      obtain ⟨x, hx⟩ : ∃ x, l[k]'(by omega) = x := ⟨_, rfl⟩
      have HX := hidOf hx
      rw [hx] at hq
      obtain ⟨a', n', c', rfl, q1, q2, q3⟩ := hq
      have c0 : w.cell? ⟨b, off + k, none⟩ = some (.slice a' n' c') := by have := hcell 0 _ rfl; simpa using this
      have HW := hidOf (areAtEnd1_any B a' n' c' x w (by omega) q3)
      clear hcell hx q3
      cases e : sentB x with
      | true =>
        rw [e] at HW
        have HE := hidOf e
        clear e
        go_wp2_with fail
        refine HW.out.mono ?_
        rintro e w' ⟨rfl, rfl⟩
        go_wp2_with fail
        go_round
        case rel =>
          refine ⟨k + 1, by omega, by go_num, ?_⟩
          intro j hj hjk
          by_cases e : j = k
          · subst e; rw [HX.out]; exact HE.out
          · exact HK.out j hj (by omega)
        case measure => simp [intOf]; omega
      | false =>
        have hDf : D = false := by rw [← HD.out]; exact all_no (k := k) (by omega) (by rw [HX.out]; exact e)
        rw [e] at HW
        clear e
        go_wp2_with fail
        refine HW.out.mono ?_
        rintro e w' ⟨rfl, rfl⟩
        go_wp2_with fail
        go_ret
        exact ⟨k, rfl, by simp [hDf], rfl⟩
    · have : k = n := by omega
      subst this
      have hDt : D = true := by rw [← HD.out]; exact all_yes fun j hj => HK.out j hj (by omega)
      go_wp2
      go_ret
      exact ⟨-1, rfl, by simp [hDt], rfl⟩
theorem containsFuncL_any (B : Nat) (a : Option Addr) (n cap : Nat) (l : List (List Int)) (w : World) (hn : n ≤ maxLen) (hz : IsArr 1 QIs B w a n l) :
    Calls Try.prog 42 #[.slice a n cap, .func (Fn.func 43) #[] #[]] w fun e w' => e = .returned (.bool (!l.all sentB)) ∧ w' = w := by
  have HI := hidOf (indexFuncL_any B a n cap l w hn hz)
  go_enter Try.func42, Try.ntmps42
  go_wp2_with fail
  refine HI.out.mono ?_
  rintro e w' ⟨i, rfl, hi, rfl⟩
  have HI2 := hidOf hi
  clear hi
  go_wp2_with fail
  go_ret
  exact ⟨ret_bool (by have := HI2.out; cases h : l.all sentB <;> rw [h] at this <;> simp at this ⊢ <;> omega), rfl⟩
theorem areAtEnd_any (B : Nat) (a : Option Addr) (n cap : Nat) (l : List (List Int)) (w : World) (hn : n ≤ maxLen) (hz : IsArr 1 QIs B w a n l) :
    Calls Try.prog 35 #[.slice a n cap] w fun e w' => e = .returned (.bool (listsB l)) ∧ w' = w := by
  have HC := hidOf (containsFuncL_any B a n cap l w hn hz)
  have hl := hz.1
  unfold listsB
  rw [hl]
  obtain ⟨D, hD⟩ : ∃ D, l.all sentB = D := ⟨_, rfl⟩
  rw [hD] at HC ⊢
  clear hD hz
  unfold maxLen at hn
  by_cases h : n ≤ 3
  · go_enter Try.func35, Try.ntmps35
    go_wp2_with fail
    refine HC.out.mono ?_
    rintro e w' ⟨rfl, rfl⟩
    go_wp2_with fail
    go_ret
    exact ⟨ret_bool (by simp [h]), rfl⟩
  · go_enter Try.func35, Try.ntmps35
    go_wp2_with fail
    go_ret
    exact ⟨ret_bool (by simp [h]), rfl⟩
end Go.Proofs.Ytcdkililodmnjaa
