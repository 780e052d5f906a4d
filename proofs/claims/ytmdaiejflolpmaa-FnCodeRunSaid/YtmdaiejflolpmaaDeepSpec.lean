/- What CodeDeep of the model comes to. -/
import Derived.Test.YtmdaiejflolpmaaDeepWalks
namespace Go.Proofs.Ytmdaiejflolpmaa
open Go.RowKit Go.PlainAid

theorem wr32_eq (y : Int) : (wr32 y == y) = decide (-2147483648 ≤ y ∧ y ≤ 2147483647) := by
  unfold wr32
  rw [Bool.eq_iff_iff]; simp; omega

/-- the way of the step, op by op -/
theorem step1 (slots y d m : Int) (hy : (wr32 y == y) = true) (hd : 0 ≤ d) : stepOp slots (1, y) (d, m) = some (d + 1, max m (d + 1)) := by
  rw [wr32_eq] at hy
  simp [stepOp, okB, tk] at *
  simp [hy]; omega
theorem step1n (slots y d m : Int) (hy : (wr32 y == y) = false) : stepOp slots (1, y) (d, m) = none := by
  rw [wr32_eq] at hy
  simp [stepOp, okB, tk] at *
  omega
theorem step2 (slots y d m : Int) (hy : decide (0 ≤ y ∧ y ≤ slots - 1) = true) (hd : 0 ≤ d) : stepOp slots (2, y) (d, m) = some (d + 1, max m (d + 1)) := by
  simp [stepOp, okB, tk] at *
  omega
theorem step2n (slots y d m : Int) (hy : decide (0 ≤ y ∧ y ≤ slots - 1) = false) : stepOp slots (2, y) (d, m) = none := by
  simp [stepOp, okB, tk] at *
  omega
theorem step3 (slots x y d m : Int) (hx : x = 3 ∨ x = 4) (hy : y = 0) (hd : 0 < d) : stepOp slots (x, y) (d, m) = some (d, max m d) := by
  rcases hx with rfl | rfl <;> simp [stepOp, okB, tk, hy] <;> omega
theorem step3n (slots x y d m : Int) (hx : x = 3 ∨ x = 4) (h : ¬ (y = 0 ∧ 0 < d)) : stepOp slots (x, y) (d, m) = none := by
  rcases hx with rfl | rfl <;> simp [stepOp, okB, tk] <;> omega
theorem step4 (slots x y d m : Int) (hx : 5 ≤ x ∧ x ≤ 13) (hy : y = 0) (hd : 1 < d) : stepOp slots (x, y) (d, m) = some (d - 1, max m (d - 1)) := by
  have h1 : ¬ (x = 1 ∨ x = 2) := by omega
  have h2 : ¬ (x = 3 ∨ x = 4) := by omega
  simp only [stepOp, okB, tk, if_neg h1, if_neg h2, if_neg (show ¬ x = 1 by omega), if_neg (show ¬ x = 2 by omega)]
  rw [if_pos (by simp; omega)]
  simp; omega
theorem step4n (slots x y d m : Int) (h1 : x ≠ 1) (h2 : x ≠ 2) (h3 : x ≠ 3) (h4 : x ≠ 4) (h : ¬ ((5 ≤ x ∧ x ≤ 13) ∧ y = 0 ∧ 1 < d)) : stepOp slots (x, y) (d, m) = none := by
  have g1 : ¬ (x = 1 ∨ x = 2) := by omega
  have g2 : ¬ (x = 3 ∨ x = 4) := by omega
  simp only [stepOp, okB, tk, if_neg g1, if_neg g2, if_neg h1, if_neg h2]
  rw [if_neg (by simp; omega)]

set_option maxHeartbeats 1600000 in
set_option maxRecDepth 100000 in
theorem l2Deep_any (a : Option Addr) (n cap : Nat) (slots : Int) (zs : List (Int × Int)) (w : World) (hn : n ≤ 1048576) (hs0 : 0 ≤ slots) (hs1 : slots ≤ 16) (hz : IsOps w a n zs) :
    Calls Try.prog 29 #[.slice a n cap, .int .i64 slots] w fun e w' => e = .returned (.int .i64 (deepOf slots zs)) ∧ Below w.heap.size w w' := by
  obtain ⟨hlen, hcells⟩ := hz
  obtain ⟨D, hD⟩ : ∃ D, deepOf slots zs = D := ⟨_, rfl⟩
  have HD : Hid (deepOf slots zs = D) := hD
  rw [hD]; clear hD
  go_enter Try.func29, Try.ntmps29
  go_wp2_with fail
  go_loopw [5, 6, 7] (fun vd vm i wr => ∃ (k : Nat) (d m : Int), k ≤ n ∧ i = .int .i64 k ∧ vd = .int .i64 d ∧ vm = .int .i64 m ∧ Hid (deepTo slots zs k = some (d, m)) ∧ Below w.heap.size w wr) (fun _ _ i _ => n - (intOf i).toNat)
  case atStart => exact ⟨0, 0, 0, Nat.zero_le _, rfl, rfl, rfl, rfl, Below.refl _ _⟩
  case round =>
    obtain ⟨k, d, m, hk, rfl, rfl, rfl, hd, hbel⟩ := hrel
    obtain ⟨r1, r2, r3, r4⟩ := deepTo_range hd.out
    by_cases hlt : k < n
    · rcases hcells with h0 | ⟨b, off, rfl, hb, hc⟩
      · omega
      have c0 := (hbel.cell (p := ⟨b, off + k * 2, none⟩) hb).trans (hc k hlt).1
      have c1 := (hbel.cell (p := ⟨b, off + k * 2 + 1, none⟩) hb).trans (hc k hlt).2
      obtain ⟨⟨x, y⟩, hxy⟩ : ∃ xy, zs.getD k (0, 0) = xy := ⟨_, rfl⟩
      rw [hxy] at c0 c1
      have hbs := hbel.size
      have HX : Hid (zs.getD k (0, 0) = (x, y)) := hxy
      have hno : stepOp slots (x, y) (d, m) = none → D = -1 := fun hs => HD.out.symm.trans (deepTo_no hd.out (by omega) (by rw [HX.out]; exact hs))
      have hyes : ∀ d' m', stepOp slots (x, y) (d, m) = some (d', m') → deepTo slots zs (k + 1) = some (d', m') := fun d' m' hs => by simp only [deepTo, hd.out, HX.out]; exact hs
      clear hc hxy
      by_cases x1 : x = 1
      · subst x1
        cases hy : (wr32 y == y)
        · have HN : Hid (D = -1) := hno (step1n _ _ _ _ hy)
          clear hno hyes
          go_wp2_with fail
          go_quiet ((go_at_call 45; exact Calls.quiet_of_same (l1Wrap_any _ _)))
          go_wp2_with (go_at_call 28; refine (l1In_any _ _ _ _).mono ?_; rintro e w' ⟨rfl, rfl⟩)
          go_ret
          exact ⟨ret_int HN.out.symm, drewN (hbel.alloc hbs _) _⟩
        · have HY : Hid (deepTo slots zs (k + 1) = some (d + 1, max m (d + 1))) := hyes _ _ (step1 _ _ _ _ hy r1)
          clear hno hyes
          go_wp2_with fail
          go_quiet ((go_at_call 45; exact Calls.quiet_of_same (l1Wrap_any _ _)))
          go_wp2_with (go_at_call 28; refine (l1In_any _ _ _ _).mono ?_; rintro e w' ⟨rfl, rfl⟩)
          · go_roundw
            case rel => exact ⟨k + 1, d + 1, d + 1, by omega, by go_num, rfl, rfl, by have h := HY.out; rw [Int.max_eq_right (by omega)] at h; exact h, drewN (hbel.alloc hbs _) _⟩
            case measure => simp [intOf]; omega
          · go_roundw
            case rel => exact ⟨k + 1, d + 1, m, by omega, by go_num, rfl, rfl, by have h := HY.out; rw [Int.max_eq_left (by omega)] at h; exact h, drewN (hbel.alloc hbs _) _⟩
            case measure => simp [intOf]; omega
      have e1 : (x == 1) = false := by simp [x1]
      by_cases x2 : x = 2
      · subst x2
        cases hy : decide (0 ≤ y ∧ y ≤ slots - 1)
        · have HN : Hid (D = -1) := hno (step2n _ _ _ _ hy)
          clear hno hyes
          go_wp2_with fail
          go_quiet ((go_at_call 45; exact Calls.quiet_of_same (l1Wrap_any _ _)))
          go_wp2_with (go_at_call 28; refine (l1In_any _ _ _ _).mono ?_; rintro e w' ⟨rfl, rfl⟩)
          go_ret
          exact ⟨ret_int HN.out.symm, drewN (hbel.alloc hbs _) _⟩
        · have HY : Hid (deepTo slots zs (k + 1) = some (d + 1, max m (d + 1))) := hyes _ _ (step2 _ _ _ _ hy r1)
          clear hno hyes
          go_wp2_with fail
          go_quiet ((go_at_call 45; exact Calls.quiet_of_same (l1Wrap_any _ _)))
          go_wp2_with (go_at_call 28; refine (l1In_any _ _ _ _).mono ?_; rintro e w' ⟨rfl, rfl⟩)
          · go_roundw
            case rel => exact ⟨k + 1, d + 1, d + 1, by omega, by go_num, rfl, rfl, by have h := HY.out; rw [Int.max_eq_right (by omega)] at h; exact h, drewN (hbel.alloc hbs _) _⟩
            case measure => simp [intOf]; omega
          · go_roundw
            case rel => exact ⟨k + 1, d + 1, m, by omega, by go_num, rfl, rfl, by have h := HY.out; rw [Int.max_eq_left (by omega)] at h; exact h, drewN (hbel.alloc hbs _) _⟩
            case measure => simp [intOf]; omega
      have e2 : (x == 2) = false := by simp [x2]
      by_cases x3 : x = 3
      · subst x3
        by_cases y0 : y = 0
        · subst y0
          by_cases d0 : 0 < d
          · have HY : Hid (deepTo slots zs (k + 1) = some (d, max m (d))) := hyes _ _ (step3 _ _ _ _ _ (Or.inl rfl) rfl d0)
            clear hno hyes
            go_wp2_with fail
            go_quiet ((go_at_call 45; exact Calls.quiet_of_same (l1Wrap_any _ _)))
            go_wp2_with (go_at_call 28; refine (l1In_any _ _ _ _).mono ?_; rintro e w' ⟨rfl, rfl⟩)
            · go_roundw
              case rel => exact ⟨k + 1, d, d, by omega, by go_num, rfl, rfl, by have h := HY.out; rw [Int.max_eq_right (by omega)] at h; exact h, drewN (hbel.alloc hbs _) _⟩
              case measure => simp [intOf]; omega
            · go_roundw
              case rel => exact ⟨k + 1, d, m, by omega, by go_num, rfl, rfl, by have h := HY.out; rw [Int.max_eq_left (by omega)] at h; exact h, drewN (hbel.alloc hbs _) _⟩
              case measure => simp [intOf]; omega
          · have HN : Hid (D = -1) := hno (step3n _ _ _ _ _ (Or.inl rfl) (by omega))
            clear hno hyes
            go_wp2_with fail
            go_quiet ((go_at_call 45; exact Calls.quiet_of_same (l1Wrap_any _ _)))
            go_wp2_with (go_at_call 28; refine (l1In_any _ _ _ _).mono ?_; rintro e w' ⟨rfl, rfl⟩)
            go_ret
            exact ⟨ret_int HN.out.symm, drewN (hbel.alloc hbs _) _⟩
        · have y0' : (y == 0) = false := by simp [y0]
          have HN : Hid (D = -1) := hno (step3n _ _ _ _ _ (Or.inl rfl) (by omega))
          clear hno hyes
          go_wp2_with fail
          go_quiet ((go_at_call 45; exact Calls.quiet_of_same (l1Wrap_any _ _)))
          go_wp2_with (go_at_call 28; refine (l1In_any _ _ _ _).mono ?_; rintro e w' ⟨rfl, rfl⟩)
          go_ret
          exact ⟨ret_int HN.out.symm, drewN (hbel.alloc hbs _) _⟩
      have e3 : (x == 3) = false := by simp [x3]
      by_cases x4 : x = 4
      · subst x4
        by_cases y0 : y = 0
        · subst y0
          by_cases d0 : 0 < d
          · have HY : Hid (deepTo slots zs (k + 1) = some (d, max m (d))) := hyes _ _ (step3 _ _ _ _ _ (Or.inr rfl) rfl d0)
            clear hno hyes
            go_wp2_with fail
            go_quiet ((go_at_call 45; exact Calls.quiet_of_same (l1Wrap_any _ _)))
            go_wp2_with (go_at_call 28; refine (l1In_any _ _ _ _).mono ?_; rintro e w' ⟨rfl, rfl⟩)
            · go_roundw
              case rel => exact ⟨k + 1, d, d, by omega, by go_num, rfl, rfl, by have h := HY.out; rw [Int.max_eq_right (by omega)] at h; exact h, drewN (hbel.alloc hbs _) _⟩
              case measure => simp [intOf]; omega
            · go_roundw
              case rel => exact ⟨k + 1, d, m, by omega, by go_num, rfl, rfl, by have h := HY.out; rw [Int.max_eq_left (by omega)] at h; exact h, drewN (hbel.alloc hbs _) _⟩
              case measure => simp [intOf]; omega
          · have HN : Hid (D = -1) := hno (step3n _ _ _ _ _ (Or.inr rfl) (by omega))
            clear hno hyes
            go_wp2_with fail
            go_quiet ((go_at_call 45; exact Calls.quiet_of_same (l1Wrap_any _ _)))
            go_wp2_with (go_at_call 28; refine (l1In_any _ _ _ _).mono ?_; rintro e w' ⟨rfl, rfl⟩)
            go_ret
            exact ⟨ret_int HN.out.symm, drewN (hbel.alloc hbs _) _⟩
        · have y0' : (y == 0) = false := by simp [y0]
          have HN : Hid (D = -1) := hno (step3n _ _ _ _ _ (Or.inr rfl) (by omega))
          clear hno hyes
          go_wp2_with fail
          go_quiet ((go_at_call 45; exact Calls.quiet_of_same (l1Wrap_any _ _)))
          go_wp2_with (go_at_call 28; refine (l1In_any _ _ _ _).mono ?_; rintro e w' ⟨rfl, rfl⟩)
          go_ret
          exact ⟨ret_int HN.out.symm, drewN (hbel.alloc hbs _) _⟩
      have e4 : (x == 4) = false := by simp [x4]
      by_cases h5 : 5 ≤ x ∧ x ≤ 13
      · have h5' : decide (5 ≤ x ∧ x ≤ 13) = true := by simp [h5]
        by_cases y0 : y = 0
        · subst y0
          by_cases d0 : 1 < d
          · have HY : Hid (deepTo slots zs (k + 1) = some (d - 1, max m (d - 1))) := hyes _ _ (step4 _ _ _ _ _ h5 rfl d0)
            clear hno hyes
            go_wp2_with fail
            go_quiet ((go_at_call 45; exact Calls.quiet_of_same (l1Wrap_any _ _)))
            go_wp2_with (go_at_call 28; refine (l1In_any _ _ _ _).mono ?_; rintro e w' ⟨rfl, rfl⟩)
            · go_roundw
              case rel => exact ⟨k + 1, d - 1, d - 1, by omega, by go_num, rfl, rfl, by have h := HY.out; rw [Int.max_eq_right (by omega)] at h; exact h, drewN (hbel.alloc hbs _) _⟩
              case measure => simp [intOf]; omega
            · go_roundw
              case rel => exact ⟨k + 1, d - 1, m, by omega, by go_num, rfl, rfl, by have h := HY.out; rw [Int.max_eq_left (by omega)] at h; exact h, drewN (hbel.alloc hbs _) _⟩
              case measure => simp [intOf]; omega
          · have HN : Hid (D = -1) := hno (step4n _ _ _ _ _ x1 x2 x3 x4 (by omega))
            clear hno hyes
            go_wp2_with fail
            go_quiet ((go_at_call 45; exact Calls.quiet_of_same (l1Wrap_any _ _)))
            go_wp2_with (go_at_call 28; refine (l1In_any _ _ _ _).mono ?_; rintro e w' ⟨rfl, rfl⟩)
            go_ret
            exact ⟨ret_int HN.out.symm, drewN (hbel.alloc hbs _) _⟩
        · have y0' : (y == 0) = false := by simp [y0]
          have HN : Hid (D = -1) := hno (step4n _ _ _ _ _ x1 x2 x3 x4 (by omega))
          clear hno hyes
          go_wp2_with fail
          go_quiet ((go_at_call 45; exact Calls.quiet_of_same (l1Wrap_any _ _)))
          go_wp2_with (go_at_call 28; refine (l1In_any _ _ _ _).mono ?_; rintro e w' ⟨rfl, rfl⟩)
          go_ret
          exact ⟨ret_int HN.out.symm, drewN (hbel.alloc hbs _) _⟩
      · have h5' : decide (5 ≤ x ∧ x ≤ 13) = false := by simp; omega
        have HN : Hid (D = -1) := hno (step4n _ _ _ _ _ x1 x2 x3 x4 (by omega))
        clear hno hyes
        go_wp2_with fail
        go_quiet ((go_at_call 45; exact Calls.quiet_of_same (l1Wrap_any _ _)))
        go_wp2_with (go_at_call 28; refine (l1In_any _ _ _ _).mono ?_; rintro e w' ⟨rfl, rfl⟩)
        go_ret
        exact ⟨ret_int HN.out.symm, drewN (hbel.alloc hbs _) _⟩
    · have : k = n := by omega
      subst this
      by_cases h1 : d = 1
      · subst h1
        by_cases h24 : 24 < k
        · have HN : Hid (D = -1) := by
            show D = -1
            rw [← HD.out, deepOf, if_neg (by omega)]
          go_wp2_with fail
          go_ret
          exact ⟨ret_int HN.out.symm, hbel⟩
        · have HN : Hid (D = m) := by
            show D = m
            rw [← HD.out, deepOf, if_pos (by omega), hlen, hd.out]; rfl
          go_wp2_with fail
          go_ret
          exact ⟨ret_int HN.out.symm, hbel⟩
      · have h1' : (d != 1) = true := by simp [h1]
        have HN : Hid (D = -1) := by
          show D = -1
          rw [← HD.out, deepOf]
          split
          · rw [hlen, hd.out]
            split
            · rename_i h; simp at h; omega
            · rfl
          · rfl
        go_wp2_with fail
        go_ret
        exact ⟨ret_int HN.out.symm, hbel⟩

theorem specDeep_any (a : Option Addr) (n cap : Nat) (slots : Int) (zs : List (Int × Int)) (w : World) (hn : n ≤ 1048576) (hz : IsOps w a n zs) :
    Calls Try.prog 11 #[.slice a n cap, .int .i64 slots] w fun e w' => e = .returned (.int .i64 (deepOf slots zs)) ∧ Below w.heap.size w w' := by
  by_cases h : 0 ≤ slots ∧ slots ≤ 16
  · have h' : decide (0 ≤ slots ∧ slots ≤ 16) = true := by simp [h]
    have h1 := h.1
    have h2 := h.2
    clear h
    go_enter Try.func11, Try.ntmps11
    go_wp2_with (first | (go_at_call 28; refine (l1In_any _ _ _ _).mono ?_; rintro e w' ⟨rfl, rfl⟩) | (go_at_call 29; refine (l2Deep_any _ _ _ _ zs _ hn h1 h2 hz).mono ?_; rintro e w' ⟨rfl, hb⟩))
    go_ret
    exact ⟨rfl, hb⟩
  · have h' : decide (0 ≤ slots ∧ slots ≤ 16) = false := by simp; omega
    have HN : Hid (deepOf slots zs = -1) := by
      show deepOf slots zs = -1
      rw [deepOf, if_neg (by omega)]
    clear h
    go_enter Try.func11, Try.ntmps11
    go_wp2_with (first | (go_at_call 28; refine (l1In_any _ _ _ _).mono ?_; rintro e w' ⟨rfl, rfl⟩))
    go_ret
    exact ⟨ret_int HN.out.symm, Below.refl _ _⟩
end Go.Proofs.Ytmdaiejflolpmaa
