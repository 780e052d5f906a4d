/- Whether an event has just what its kind has, by the model. -/
import Derived.Test.YtjmgfpldjccilaaGreatDoorEvDec
import Derived.Test.YtjmgfpldjccilaaGreatDoorBoxNew
namespace Go.Proofs.YtjmgfpldjccilaaGreatDoor
open Go Go.RowKit Go.PlainAid
set_option linter.unusedSimpArgs false
set_option linter.unusedVariables false

set_option maxHeartbeats 6400000 in
set_option maxRecDepth 100000 in
theorem l26Ok_any (B : Nat) (k t m : Int) (a : Option Addr) (n c : Nat) (l : List Int) (w : World) (hB : B ≤ w.heap.size) (hn : n ≤ 1048577) (hz : IsInts B w a n l) :
    Calls Tryz.prog 38 #[.agg #[.int .i64 k, .int .i64 t, .int .i64 m, .slice a n c]] w fun e w' => e = .returned (.bool (okE (k, t, m, l))) ∧ Below w.heap.size w w' := by
  obtain ⟨R, hR⟩ : ∃ R, okE (k, t, m, l) = R := ⟨_, rfl⟩
  have HR := hidOf hR
  rw [hR]
  clear hR
  have hl := hz.1
  have HBX : Hid (Below w.heap.size w (w.alloc (.cells #[.int .i64 k, .int .i64 t, .int .i64 m, .slice a n c] 26))) := (Below.refl _ _).alloc (Nat.le_refl _) _
  have BX0 := hidOf (boxAt_new w [.int .i64 k, .int .i64 t, .int .i64 m, .slice a n c] 26)
  have HV : Hid (∀ o, Calls Tryz.prog 66 #[.slice a n c] (w.alloc o) fun e w' => e = .returned (.bool (all32 l)) ∧ Below (w.alloc o).heap.size (w.alloc o) w') := fun o => l4Vals_any B a n c l (w.alloc o) (by unfold maxLen; omega) (by simp; omega) (hz.below ((Below.refl _ _).alloc hB _))
  have HK := hidOf (fun w => l1In_any k 1 9 w)
  have HT := hidOf (fun w => l1In_any t 0 999999 w)
  have HM := hidOf (fun w => l1In_any m 0 999999 w)
  clear hz
  cases g1 : decide (1 ≤ k ∧ k ≤ 9) with
  | false =>
    have HRf : Hid (R = false) := by show _ = _; rw [← HR.out]; simp only [okE, g1]; simp
    rw [g1] at HK
    clear g1
    go_enter Tryz.func38, Tryz.ntmps38
    go_wp2_with fail
    refine (HK.out _).mono ?_
    rintro e w' ⟨rfl, hw⟩; rw [hw]; clear hw w'
    go_wp2_with fail
    go_ret
    exact ⟨ret_bool HRf.out.symm, HBX.out⟩
  | true =>
  rw [g1] at HK
  cases g2 : numB t with
  | false =>
    have HRf : Hid (R = false) := by show _ = _; rw [← HR.out]; simp only [okE, g1, g2]; simp
    unfold numB at g2
    rw [g2] at HT
    clear g1 g2
    go_enter Tryz.func38, Tryz.ntmps38
    go_wp2_with fail
    refine (HK.out _).mono ?_
    rintro e w' ⟨rfl, hw⟩; rw [hw]; clear hw w'
    go_wp2_with fail
    refine (HT.out _).mono ?_
    rintro e w' ⟨rfl, hw⟩; rw [hw]; clear hw w'
    go_wp2_with fail
    go_ret
    exact ⟨ret_bool HRf.out.symm, HBX.out⟩
  | true =>
  cases g3 : numB m with
  | false =>
    have HRf : Hid (R = false) := by show _ = _; rw [← HR.out]; simp only [okE, g1, g2, g3]; simp
    unfold numB at g2 g3
    rw [g2] at HT
    rw [g3] at HM
    clear g1 g2 g3
    go_enter Tryz.func38, Tryz.ntmps38
    go_wp2_with fail
    refine (HK.out _).mono ?_
    rintro e w' ⟨rfl, hw⟩; rw [hw]; clear hw w'
    go_wp2_with fail
    refine (HT.out _).mono ?_
    rintro e w' ⟨rfl, hw⟩; rw [hw]; clear hw w'
    go_wp2_with fail
    refine (HM.out _).mono ?_
    rintro e w' ⟨rfl, hw⟩; rw [hw]; clear hw w'
    go_wp2_with fail
    go_ret
    exact ⟨ret_bool HRf.out.symm, HBX.out⟩
  | true =>
  have HN : Hid (R = ((decide (m = 0) || decide (k = 7)) && (l.isEmpty || (decide (k = 1) && sentB l)))) := by
    show _ = _
    rw [← HR.out]
    simp only [okE, g1, g2, g3]
    simp
  unfold numB at g2 g3
  rw [g2] at HT
  rw [g3] at HM
  clear g1 g2 g3 HR
  by_cases g4 : n ≤ 3
  case neg =>
    have hl0 : l.isEmpty = false := by cases l with | nil => simp at hl; omega | cons _ _ => rfl
    have hs : sentB l = false := by unfold sentB; rw [decide_eq_false (by omega)]; rfl
    have HRf : Hid (R = false) := by show _ = _; rw [HN.out, hl0, hs]; simp
    have g4' : (3 : Int) < n := by omega
    clear hs
    go_enter Tryz.func38, Tryz.ntmps38
    go_wp2_with fail
    refine (HK.out _).mono ?_
    rintro e w' ⟨rfl, hw⟩; rw [hw]; clear hw w'
    go_wp2_with fail
    refine (HT.out _).mono ?_
    rintro e w' ⟨rfl, hw⟩; rw [hw]; clear hw w'
    go_wp2_with fail
    refine (HM.out _).mono ?_
    rintro e w' ⟨rfl, hw⟩; rw [hw]; clear hw w'
    go_wp2_with fail
    go_ret
    exact ⟨ret_bool HRf.out.symm, HBX.out⟩
  have g4' : ¬ (3 : Int) < n := by omega
  cases g5 : all32 l with
  | false =>
    have hl0 : l.isEmpty = false := by cases l with | nil => simp [all32] at g5 | cons _ _ => rfl
    have hs : sentB l = false := by unfold sentB; rw [g5]; simp
    have HRf : Hid (R = false) := by show _ = _; rw [HN.out, hl0, hs]; simp
    rw [g5] at HV
    clear g5 hs
    go_enter Tryz.func38, Tryz.ntmps38
    go_wp2_with fail
    refine (HK.out _).mono ?_
    rintro e w' ⟨rfl, hw⟩; rw [hw]; clear hw w'
    go_wp2_with fail
    refine (HT.out _).mono ?_
    rintro e w' ⟨rfl, hw⟩; rw [hw]; clear hw w'
    go_wp2_with fail
    refine (HM.out _).mono ?_
    rintro e w' ⟨rfl, hw⟩; rw [hw]; clear hw w'
    go_wp2_with fail
    refine (HV.out _).mono ?_
    rintro e w1 ⟨rfl, hb1⟩
    have HB1 := hidOf (HBX.out.trans (hb1.mono HBX.out.size))
    have BX1 := hidOf (BX0.out.below hb1)
    have c0 : w1.cell? ⟨w.heap.size, 0, none⟩ = some _ := (BX1.out.2 0 _ rfl).1
    have c1 : w1.cell? ⟨w.heap.size, 1, none⟩ = some _ := (BX1.out.2 1 _ rfl).1
    have c2 : w1.cell? ⟨w.heap.size, 2, none⟩ = some _ := (BX1.out.2 2 _ rfl).1
    have c3 : w1.cell? ⟨w.heap.size, 3, none⟩ = some _ := (BX1.out.2 3 _ rfl).1
    have s1 := BX1.out.1
    clear hb1
    go_wp2_with fail
    go_ret
    exact ⟨ret_bool HRf.out.symm, HB1.out⟩
  | true =>
  have hs : sentB l = true := by unfold sentB; rw [g5, decide_eq_true (by omega)]; rfl
  rw [hs] at HN
  rw [g5] at HV
  clear g5 hs
  by_cases g6 : m = 0
  · by_cases g7 : n = 0
    · have hl0 : l = [] := List.length_eq_zero_iff.1 (by omega)
      have HRf : Hid (R = true) := by show _ = _; rw [HN.out]; simp [g6, hl0]
      subst g6 g7 hl0
      go_enter Tryz.func38, Tryz.ntmps38
      go_wp2_with fail
      refine (HK.out _).mono ?_
      rintro e w' ⟨rfl, hw⟩; rw [hw]; clear hw w'
      go_wp2_with fail
      refine (HT.out _).mono ?_
      rintro e w' ⟨rfl, hw⟩; rw [hw]; clear hw w'
      go_wp2_with fail
      refine (HM.out _).mono ?_
      rintro e w' ⟨rfl, hw⟩; rw [hw]; clear hw w'
      go_wp2_with fail
      refine (HV.out _).mono ?_
      rintro e w1 ⟨rfl, hb1⟩
      have HB1 := hidOf (HBX.out.trans (hb1.mono HBX.out.size))
      have BX1 := hidOf (BX0.out.below hb1)
      have c0 : w1.cell? ⟨w.heap.size, 0, none⟩ = some _ := (BX1.out.2 0 _ rfl).1
      have c1 : w1.cell? ⟨w.heap.size, 1, none⟩ = some _ := (BX1.out.2 1 _ rfl).1
      have c2 : w1.cell? ⟨w.heap.size, 2, none⟩ = some _ := (BX1.out.2 2 _ rfl).1
      have c3 : w1.cell? ⟨w.heap.size, 3, none⟩ = some _ := (BX1.out.2 3 _ rfl).1
      have s1 := BX1.out.1
      clear hb1
      go_wp2_with fail
      go_ret
      exact ⟨ret_bool HRf.out.symm, HB1.out⟩
    · have hl0 : l.isEmpty = false := by cases l with | nil => simp at hl; omega | cons _ _ => rfl
      have hn0 : ((n : Int) == 0) = false := by simp; omega
      by_cases g8 : k = 1
      · skip
        have HRf : Hid (R = true) := by show _ = _; rw [HN.out]; simp [g6, g8]
        subst g6 g8
        go_enter Tryz.func38, Tryz.ntmps38
        go_wp2_with fail
        refine (HK.out _).mono ?_
        rintro e w' ⟨rfl, hw⟩; rw [hw]; clear hw w'
        go_wp2_with fail
        refine (HT.out _).mono ?_
        rintro e w' ⟨rfl, hw⟩; rw [hw]; clear hw w'
        go_wp2_with fail
        refine (HM.out _).mono ?_
        rintro e w' ⟨rfl, hw⟩; rw [hw]; clear hw w'
        go_wp2_with fail
        refine (HV.out _).mono ?_
        rintro e w1 ⟨rfl, hb1⟩
        have HB1 := hidOf (HBX.out.trans (hb1.mono HBX.out.size))
        have BX1 := hidOf (BX0.out.below hb1)
        have c0 : w1.cell? ⟨w.heap.size, 0, none⟩ = some _ := (BX1.out.2 0 _ rfl).1
        have c1 : w1.cell? ⟨w.heap.size, 1, none⟩ = some _ := (BX1.out.2 1 _ rfl).1
        have c2 : w1.cell? ⟨w.heap.size, 2, none⟩ = some _ := (BX1.out.2 2 _ rfl).1
        have c3 : w1.cell? ⟨w.heap.size, 3, none⟩ = some _ := (BX1.out.2 3 _ rfl).1
        have s1 := BX1.out.1
        clear hb1
        go_wp2_with fail
        go_ret
        exact ⟨ret_bool HRf.out.symm, HB1.out⟩
      · skip
        have HRf : Hid (R = false) := by show _ = _; rw [HN.out]; simp [hl0, g8]
        have hk1b : (k == 1) = false := by simp [g8]
        subst g6
        go_enter Tryz.func38, Tryz.ntmps38
        go_wp2_with fail
        refine (HK.out _).mono ?_
        rintro e w' ⟨rfl, hw⟩; rw [hw]; clear hw w'
        go_wp2_with fail
        refine (HT.out _).mono ?_
        rintro e w' ⟨rfl, hw⟩; rw [hw]; clear hw w'
        go_wp2_with fail
        refine (HM.out _).mono ?_
        rintro e w' ⟨rfl, hw⟩; rw [hw]; clear hw w'
        go_wp2_with fail
        refine (HV.out _).mono ?_
        rintro e w1 ⟨rfl, hb1⟩
        have HB1 := hidOf (HBX.out.trans (hb1.mono HBX.out.size))
        have BX1 := hidOf (BX0.out.below hb1)
        have c0 : w1.cell? ⟨w.heap.size, 0, none⟩ = some _ := (BX1.out.2 0 _ rfl).1
        have c1 : w1.cell? ⟨w.heap.size, 1, none⟩ = some _ := (BX1.out.2 1 _ rfl).1
        have c2 : w1.cell? ⟨w.heap.size, 2, none⟩ = some _ := (BX1.out.2 2 _ rfl).1
        have c3 : w1.cell? ⟨w.heap.size, 3, none⟩ = some _ := (BX1.out.2 3 _ rfl).1
        have s1 := BX1.out.1
        clear hb1
        go_wp2_with fail
        go_ret
        exact ⟨ret_bool HRf.out.symm, HB1.out⟩
  · by_cases g8 : k = 7
    · have hk1 : ¬ k = 1 := by omega
      by_cases g7 : n = 0
      · have hl0 : l = [] := List.length_eq_zero_iff.1 (by omega)
        have HRf : Hid (R = true) := by show _ = _; rw [HN.out]; simp [g8, hl0]
        subst g8 g7 hl0
        go_enter Tryz.func38, Tryz.ntmps38
        go_wp2_with fail
        refine (HK.out _).mono ?_
        rintro e w' ⟨rfl, hw⟩; rw [hw]; clear hw w'
        go_wp2_with fail
        refine (HT.out _).mono ?_
        rintro e w' ⟨rfl, hw⟩; rw [hw]; clear hw w'
        go_wp2_with fail
        refine (HM.out _).mono ?_
        rintro e w' ⟨rfl, hw⟩; rw [hw]; clear hw w'
        go_wp2_with fail
        refine (HV.out _).mono ?_
        rintro e w1 ⟨rfl, hb1⟩
        have HB1 := hidOf (HBX.out.trans (hb1.mono HBX.out.size))
        have BX1 := hidOf (BX0.out.below hb1)
        have c0 : w1.cell? ⟨w.heap.size, 0, none⟩ = some _ := (BX1.out.2 0 _ rfl).1
        have c1 : w1.cell? ⟨w.heap.size, 1, none⟩ = some _ := (BX1.out.2 1 _ rfl).1
        have c2 : w1.cell? ⟨w.heap.size, 2, none⟩ = some _ := (BX1.out.2 2 _ rfl).1
        have c3 : w1.cell? ⟨w.heap.size, 3, none⟩ = some _ := (BX1.out.2 3 _ rfl).1
        have s1 := BX1.out.1
        clear hb1
        go_wp2_with fail
        go_ret
        exact ⟨ret_bool HRf.out.symm, HB1.out⟩
      · have hl0 : l.isEmpty = false := by cases l with | nil => simp at hl; omega | cons _ _ => rfl
        have hn0 : ((n : Int) == 0) = false := by simp; omega
        have HRf : Hid (R = false) := by show _ = _; rw [HN.out]; simp [hk1, hl0]
        subst g8
        go_enter Tryz.func38, Tryz.ntmps38
        go_wp2_with fail
        refine (HK.out _).mono ?_
        rintro e w' ⟨rfl, hw⟩; rw [hw]; clear hw w'
        go_wp2_with fail
        refine (HT.out _).mono ?_
        rintro e w' ⟨rfl, hw⟩; rw [hw]; clear hw w'
        go_wp2_with fail
        refine (HM.out _).mono ?_
        rintro e w' ⟨rfl, hw⟩; rw [hw]; clear hw w'
        go_wp2_with fail
        refine (HV.out _).mono ?_
        rintro e w1 ⟨rfl, hb1⟩
        have HB1 := hidOf (HBX.out.trans (hb1.mono HBX.out.size))
        have BX1 := hidOf (BX0.out.below hb1)
        have c0 : w1.cell? ⟨w.heap.size, 0, none⟩ = some _ := (BX1.out.2 0 _ rfl).1
        have c1 : w1.cell? ⟨w.heap.size, 1, none⟩ = some _ := (BX1.out.2 1 _ rfl).1
        have c2 : w1.cell? ⟨w.heap.size, 2, none⟩ = some _ := (BX1.out.2 2 _ rfl).1
        have c3 : w1.cell? ⟨w.heap.size, 3, none⟩ = some _ := (BX1.out.2 3 _ rfl).1
        have s1 := BX1.out.1
        clear hb1
        go_wp2_with fail
        go_ret
        exact ⟨ret_bool HRf.out.symm, HB1.out⟩
    · skip
      have HRf : Hid (R = false) := by show _ = _; rw [HN.out]; simp [g6, g8]
      go_enter Tryz.func38, Tryz.ntmps38
      go_wp2_with fail
      refine (HK.out _).mono ?_
      rintro e w' ⟨rfl, hw⟩; rw [hw]; clear hw w'
      go_wp2_with fail
      refine (HT.out _).mono ?_
      rintro e w' ⟨rfl, hw⟩; rw [hw]; clear hw w'
      go_wp2_with fail
      refine (HM.out _).mono ?_
      rintro e w' ⟨rfl, hw⟩; rw [hw]; clear hw w'
      go_wp2_with fail
      refine (HV.out _).mono ?_
      rintro e w1 ⟨rfl, hb1⟩
      have HB1 := hidOf (HBX.out.trans (hb1.mono HBX.out.size))
      have BX1 := hidOf (BX0.out.below hb1)
      have c0 : w1.cell? ⟨w.heap.size, 0, none⟩ = some _ := (BX1.out.2 0 _ rfl).1
      have c1 : w1.cell? ⟨w.heap.size, 1, none⟩ = some _ := (BX1.out.2 1 _ rfl).1
      have c2 : w1.cell? ⟨w.heap.size, 2, none⟩ = some _ := (BX1.out.2 2 _ rfl).1
      have c3 : w1.cell? ⟨w.heap.size, 3, none⟩ = some _ := (BX1.out.2 3 _ rfl).1
      have s1 := BX1.out.1
      clear hb1
      go_wp2_with fail
      go_ret
      exact ⟨ret_bool HRf.out.symm, HB1.out⟩
end Go.Proofs.YtjmgfpldjccilaaGreatDoor
