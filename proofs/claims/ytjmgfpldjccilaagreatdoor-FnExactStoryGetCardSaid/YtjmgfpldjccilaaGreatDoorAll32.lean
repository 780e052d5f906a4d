/- Values of 32 bits: what the program and the model ask of them. -/
import Derived.Test.YtjmgfpldjccilaaGreatDoorIntMem
import Derived.Test.YtjmgfpldjccilaaGreatDoorSmall
import Derived.Test.YtjmgfpldjccilaaGreatDoorWord32
import Derived.BigQuiet
namespace Go.Proofs.YtjmgfpldjccilaaGreatDoor
open Go Go.RowKit Go.PlainAid
set_option linter.unusedSimpArgs false
set_option linter.unusedVariables false

def in32 (n : Int) : Bool := decide (-2147483648 ≤ n ∧ n ≤ 2147483647)
def all32 (l : List Int) : Bool := l.all in32
theorem wr32_fit (n : Int) : wr32 n = n ↔ in32 n = true := by unfold wr32 in32; simp; omega
theorem getD_at {l : List Int} {k : Nat} (h : k < l.length) : l.getD k 0 = l[k] := by rw [List.getD_eq_getElem?_getD, List.getElem?_eq_getElem h]; rfl
theorem all32_no {l : List Int} {k : Nat} (h : k < l.length) (hn : in32 (l.getD k 0) = false) : all32 l = false := by
  rw [getD_at h] at hn
  unfold all32
  rw [List.all_eq_false]
  exact ⟨l[k], List.getElem_mem h, by simp [hn]⟩
theorem all32_yes {l : List Int} (h : ∀ k, k < l.length → in32 (l.getD k 0) = true) : all32 l = true := by
  unfold all32
  rw [List.all_eq_true]
  intro x hx
  obtain ⟨k, hk, rfl⟩ := List.mem_iff_getElem.1 hx
  have := h k hk
  rw [getD_at hk] at this
  exact this

set_option maxHeartbeats 400000 in
theorem l4Vals_any (B : Nat) (a : Option Addr) (n cap : Nat) (vs : List Int) (w : World) (hn : n ≤ maxLen) (hB : B ≤ w.heap.size) (hz : IsInts B w a n vs) :
    Calls Tryz.prog 66 #[.slice a n cap] w fun e w' => e = .returned (.bool (all32 vs)) ∧ Below w.heap.size w w' := by
  obtain ⟨hlen, hcells⟩ := hz
  unfold maxLen at hn
  obtain ⟨D, hD⟩ : ∃ D, all32 vs = D := ⟨_, rfl⟩
  have HD := hidOf hD
  rw [hD]
  clear hD
  go_enter Tryz.func66, Tryz.ntmps66
  go_wp2
  go_loopw [3] (fun i wr => ∃ k : Nat, k ≤ n ∧ i = .int .i64 k ∧ Hid (∀ j, j < k → in32 (vs.getD j 0) = true) ∧ Below w.heap.size w wr) (fun i _ => n - (intOf i).toNat)
  case atStart => exact ⟨0, Nat.zero_le _, rfl, fun j h => absurd h (Nat.not_lt_zero _), Below.refl _ _⟩
  case round =>
    obtain ⟨k, hk, rfl, HK, hbel⟩ := hrel
    by_cases hlt : k < n
    · rcases hcells with h0 | ⟨b, off, rfl, hb, hc⟩
      · omega
      obtain ⟨x, hx⟩ : ∃ x, vs.getD k 0 = x := ⟨_, rfl⟩
      have HX := hidOf hx
      have c0 := (hbel.cell (p := ⟨b, off + k, none⟩) (by simp; omega)).trans (hc k hlt)
      rw [hx] at c0
      clear hc hx
      by_cases h32 : wr32 x = x
      · have h32' : (wr32 x == x) = true := by simp [h32]
        have HW := hidOf (fun w => l1Wrap_any x w)
        rw [h32] at HW
        clear h32'
        have H32 := hidOf h32
        clear h32
        go_wp2
        go_quiet ((go_at_call 80; exact Calls.quiet_of_same (HW.out _)))
        go_wp2
        go_roundw
        case rel =>
          refine ⟨k + 1, by omega, by go_num, ?_, drewN hbel _⟩
          intro j hj
          by_cases e : j = k
          · subst e; rw [HX.out]; exact (wr32_fit x).1 H32.out
          · exact HK.out j (by omega)
        case measure => simp [intOf]; omega
      · obtain ⟨y, hy⟩ : ∃ y, wr32 x = y := ⟨_, rfl⟩
        have HW := hidOf (fun w => l1Wrap_any x w)
        rw [hy] at HW h32
        have hDf : D = false := by
          rw [← HD.out]
          refine all32_no (k := k) (by omega) ?_
          rw [HX.out]
          cases e : in32 x with
          | false => rfl
          | true => exact absurd ((wr32_fit x).2 e) (by rw [hy]; exact h32)
        clear hy
        go_wp2
        go_quiet ((go_at_call 80; exact Calls.quiet_of_same (HW.out _)))
        go_wp2
        go_ret
        exact ⟨ret_bool hDf.symm, drewN hbel _⟩
    · have : k = n := by omega
      subst this
      have hDt : D = true := by rw [← HD.out]; exact all32_yes fun j hj => HK.out j (by omega)
      go_wp2
      go_ret
      exact ⟨ret_bool hDt.symm, hbel⟩

theorem areValues1_any (x : Int) (w : World) : Calls Tryz.prog 87 #[.int .i64 x] w fun e w' => e = .returned (.bool (!in32 x)) ∧ w' = w := by
  go_enter Tryz.func87, Tryz.ntmps87
  go_wp2_with (go_at_call 88; refine (is32_any _ _).mono ?_; rintro e w' ⟨rfl, rfl⟩)
  go_ret
  exact ⟨ret_bool (by simp [in32]), rfl⟩
set_option maxHeartbeats 400000 in
theorem indexFuncI_any (B : Nat) (a : Option Addr) (n cap : Nat) (vs : List Int) (w : World) (hn : n ≤ maxLen) (hz : IsInts B w a n vs) :
    Calls Tryz.prog 102 #[.slice a n cap, .func (Fn.func 87) #[] #[]] w fun e w' => ∃ i : Int, e = .returned (.int .i64 i) ∧ (0 ≤ i ↔ all32 vs = false) ∧ w' = w := by
  obtain ⟨hlen, hcells⟩ := hz
  unfold maxLen at hn
  obtain ⟨D, hD⟩ : ∃ D, all32 vs = D := ⟨_, rfl⟩
  have HD := hidOf hD
  rw [hD]
  clear hD
  go_enter Tryz.func102, Tryz.ntmps102
  go_wp2
  go_loop [8] (fun i => ∃ k : Nat, k ≤ n ∧ i = .int .i64 k ∧ Hid (∀ j, j < k → in32 (vs.getD j 0) = true)) (fun i => n - (intOf i).toNat)
  case atStart => exact ⟨0, Nat.zero_le _, rfl, fun j h => absurd h (Nat.not_lt_zero _)⟩
  case round =>
    obtain ⟨k, hk, rfl, HK⟩ := hrel
    by_cases hlt : k < n
    · rcases hcells with h0 | ⟨b, off, rfl, hb, hc⟩
      · omega
      obtain ⟨x, hx⟩ : ∃ x, vs.getD k 0 = x := ⟨_, rfl⟩
      have HX := hidOf hx
      have c0 := hc k hlt
      rw [hx] at c0
      clear hc hx
      have HW := hidOf (fun w => areValues1_any x w)
      cases e : in32 x with
      | true =>
        rw [e] at HW
        have HE := hidOf e
        clear e
        go_wp2_with fail
        refine (HW.out _).mono ?_
        rintro e w' ⟨rfl, rfl⟩
        go_wp2_with fail
        go_round
        case rel =>
          refine ⟨k + 1, by omega, by go_num, ?_⟩
          intro j hj
          by_cases e : j = k
          · subst e; rw [HX.out]; exact HE.out
          · exact HK.out j (by omega)
        case measure => simp [intOf]; omega
      | false =>
        have hDf : D = false := by
          rw [← HD.out]
          exact all32_no (k := k) (by omega) (by rw [HX.out]; exact e)
        rw [e] at HW
        clear e
        go_wp2_with fail
        refine (HW.out _).mono ?_
        rintro e w' ⟨rfl, rfl⟩
        go_wp2_with fail
        go_ret
        exact ⟨k, rfl, by simp [hDf], rfl⟩
    · have : k = n := by omega
      subst this
      have hDt : D = true := by rw [← HD.out]; exact all32_yes fun j hj => HK.out j (by omega)
      go_wp2
      go_ret
      exact ⟨-1, rfl, by simp [hDt], rfl⟩
theorem containsFuncI_any (B : Nat) (a : Option Addr) (n cap : Nat) (vs : List Int) (w : World) (hn : n ≤ maxLen) (hz : IsInts B w a n vs) :
    Calls Tryz.prog 86 #[.slice a n cap, .func (Fn.func 87) #[] #[]] w fun e w' => e = .returned (.bool (!all32 vs)) ∧ w' = w := by
  have HI := hidOf (indexFuncI_any B a n cap vs w hn hz)
  go_enter Tryz.func86, Tryz.ntmps86
  go_wp2_with fail
  refine HI.out.mono ?_
  rintro e w' ⟨i, rfl, hi, rfl⟩
  have HI2 := hidOf hi
  clear hi
  go_wp2_with fail
  go_ret
  exact ⟨ret_bool (by have := HI2.out; cases h : all32 vs <;> simp [h] at this ⊢ <;> omega), rfl⟩
/-- areValues, as many as there are -/
theorem areValues_any (B : Nat) (a : Option Addr) (n cap : Nat) (m : Nat) (vs : List Int) (w : World) (hn : n ≤ maxLen) (hz : IsInts B w a n vs) :
    Calls Tryz.prog 76 #[.slice a n cap, .int .i64 m] w fun e w' => e = .returned (.bool (decide (n = m) && all32 vs)) ∧ w' = w := by
  have HC := hidOf (containsFuncI_any B a n cap vs w hn hz)
  obtain ⟨D, hD⟩ : ∃ D, all32 vs = D := ⟨_, rfl⟩
  rw [hD] at HC ⊢
  clear hD
  unfold maxLen at hn
  by_cases h : n = m
  · subst h
    go_enter Tryz.func76, Tryz.ntmps76
    go_wp2_with (go_at_call 86; refine HC.out.mono ?_; rintro e w' ⟨rfl, hw⟩; rw [hw]; clear hw w')
    go_ret
    exact ⟨ret_bool (by simp), rfl⟩
  · have h' : ((n : Int) == m) = false := by simp; omega
    go_enter Tryz.func76, Tryz.ntmps76
    go_wp2_with (go_at_call 86; refine HC.out.mono ?_; rintro e w' ⟨rfl, hw⟩; rw [hw]; clear hw w')
    go_ret
    exact ⟨ret_bool (by simp [h]), rfl⟩
end Go.Proofs.YtjmgfpldjccilaaGreatDoor
