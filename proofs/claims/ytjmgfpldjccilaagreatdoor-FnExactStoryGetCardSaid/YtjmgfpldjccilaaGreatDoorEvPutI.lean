/- How the program writes an event. -/
import Derived.Test.YtjmgfpldjccilaaGreatDoorEvTab
import Derived.Test.YtjmgfpldjccilaaGreatDoorBoxNew
import Derived.Deep.RegionHeld3
namespace Go.Proofs.YtjmgfpldjccilaaGreatDoor
open Go Go.RowKit Go.PlainAid
set_option linter.unusedSimpArgs false
set_option linter.unusedVariables false

theorem ret_txt {a b : ByteArray} (h : a = b) : Ending.returned (.string a) = .returned (.string b) := by rw [h]

theorem OwnS.join {B : Nat} {w : World} {u : Value} {l : List ByteArray} (h : OwnS B w u l) (hl : l ≠ []) (hn : (Lib.join (l.map (·.data.toList)) [44]).length ≤ 140737488355328) (h6 : l.length ≤ 140737488355328) :
    Calls Tryz.prog 59 #[u, .string ⟨#[44]⟩] w fun e w' => e = .returned (.string (bt8 (Lib.join (l.map (·.data.toList)) [44]))) ∧ Below w.heap.size w w' := by
  obtain ⟨a, c, rfl, hc, hs, _⟩ := h.form
  rcases hs.2 with h0 | ⟨b, off, rfl, hb, hcell⟩
  · exact absurd (List.length_eq_zero_iff.1 h0) hl
  · refine Tryz.strings_Join b off c l ⟨#[44]⟩ w ?_ hb h6 hc hn
    intro j x hx
    obtain ⟨hj, e⟩ := List.getElem?_eq_some_iff.1 hx
    rw [hcell j hj, e]

theorem valuesText_any (B : Nat) (a : Option Addr) (n c : Nat) (l : List Int) (w : World) (hT : TbP w) (hB : B ≤ w.heap.size) (hz : IsInts B w a n l) (hs : sentB l = true) (h0 : l ≠ []) :
    Calls Tryz.prog 33 #[.slice a n c] w fun e w' => e = .returned (.string (bt8 (valsT l))) ∧ Below w.heap.size w w' := by
  have hlen := hz.1
  have h3 : l.length ≤ 3 ∧ l.all in32 = true := by simpa [sentB, all32] using hs
  have hn0 : ¬ n = 0 := fun e => h0 (List.length_eq_zero_iff.1 (by omega))
  have HL := hidOf (listOfItoa_any B a n c l w hT hB (by omega) hz h3.2)
  have HJ : Hid (∀ u W, OwnS w.heap.size W u (l.map fun x => bt8 (Lib.itoa x)) → Calls Tryz.prog 59 #[u, .string ⟨#[44]⟩] W fun e w' => e = .returned (.string (bt8 (valsT l))) ∧ Below W.heap.size W w') := fun u W h => by
    have e1 : (l.map fun x => bt8 (Lib.itoa x)).map (·.data.toList) = l.map Lib.itoa := by
      rw [List.map_map]
      exact List.map_congr_left fun x _ => bt8_list _
    have := OwnS.join h (by simpa using h0) (by rw [e1]; have := valsT_len l h3.2; unfold valsT at this; omega) (by simp; omega)
    rw [e1] at this
    exact this
  have hn0' : ((n : Int) == 0) = false := by simp; omega
  clear hz hT hs h3 h0
  generalize bt8 (valsT l) = y at *
  go_enter Tryz.func33, Tryz.ntmps33
  go_wp2_with fail
  refine HL.out.mono ?_
  rintro e w1 ⟨u, rfl, hu, hb1⟩
  have HU := hidOf hu
  have HB1 := hidOf hb1
  clear hu hb1
  go_wp2_with fail
  refine (HJ.out _ _ HU.out).mono ?_
  rintro e w2 ⟨rfl, hb2⟩
  have HB2 := hidOf (HB1.out.trans (hb2.mono HB1.out.size))
  clear hb2
  go_wp2_with fail
  go_ret
  exact ⟨rfl, HB2.out⟩

theorem isEventNum_any (n : Int) (w : World) : Calls Tryz.prog 56 #[.int .i64 n] w fun e w' => e = .returned (.bool (numB n)) ∧ w' = w := by
  unfold numB
  by_cases h : 0 ≤ n
  · go_enter Tryz.func56, Tryz.ntmps56
    go_wp2
    go_ret
    exact ⟨ret_bool (by simp [h]), rfl⟩
  · go_enter Tryz.func56, Tryz.ntmps56
    go_wp2
    go_ret
    exact ⟨ret_bool (by simp; omega), rfl⟩

set_option maxHeartbeats 3200000 in
set_option maxRecDepth 100000 in
theorem isWritten_any (B : Nat) (k t m : Int) (a : Option Addr) (n c : Nat) (l : List Int) (w : World) (hB : B ≤ w.heap.size) (hn : n ≤ 1048577) (hz : IsInts B w a n l) :
    Calls Tryz.prog 31 #[.agg #[.int .i64 k, .int .i64 t, .int .i64 m, .slice a n c]] w fun e w' => e = .returned (.bool (okE (k, t, m, l))) ∧ Below w.heap.size w w' := by
  obtain ⟨R, hR⟩ : ∃ R, okE (k, t, m, l) = R := ⟨_, rfl⟩
  have HR := hidOf hR
  rw [hR]
  clear hR
  have hl := hz.1
  have HA : Hid (∀ o, Calls Tryz.prog 57 #[.slice a n c] (w.alloc o) fun e w' => e = .returned (.bool (sentB l)) ∧ w' = w.alloc o) := fun o => areSent_any B a n c l (w.alloc o) (by unfold maxLen; omega) (hz.below ((Below.refl _ _).alloc hB _))
  have HT := hidOf (fun w => isEventNum_any t w)
  have HM := hidOf (fun w => isEventNum_any m w)
  clear hz
  by_cases g1 : 1 ≤ k
  case neg =>
    have HRf : Hid (R = false) := by show _ = _; rw [← HR.out]; simp [okE]; omega
    go_enter Tryz.func31, Tryz.ntmps31
    go_wp2_with fail
    go_ret
    exact ⟨ret_bool HRf.out.symm, by go_grown⟩
  by_cases g2 : k ≤ 9
  case neg =>
    have HRf : Hid (R = false) := by show _ = _; rw [← HR.out]; simp [okE]; omega
    go_enter Tryz.func31, Tryz.ntmps31
    go_wp2_with fail
    go_ret
    exact ⟨ret_bool HRf.out.symm, by go_grown⟩
  cases g3 : numB t with
  | false =>
    have HRf : Hid (R = false) := by show _ = _; rw [← HR.out]; simp [okE, g3]
    rw [g3] at HT
    clear g3
    go_enter Tryz.func31, Tryz.ntmps31
    go_wp2_with (go_at_call 56; refine (HT.out _).mono ?_; rintro e w' ⟨rfl, hw⟩; rw [hw]; clear hw w')
    go_ret
    exact ⟨ret_bool HRf.out.symm, by go_grown⟩
  | true =>
  cases g4 : numB m with
  | false =>
    have HRf : Hid (R = false) := by show _ = _; rw [← HR.out]; simp [okE, g4]
    rw [g3] at HT
    rw [g4] at HM
    clear g3 g4
    go_enter Tryz.func31, Tryz.ntmps31
    go_wp2_with fail
    refine (HT.out _).mono ?_
    rintro e w' ⟨rfl, hw⟩; rw [hw]; clear hw w'
    go_wp2_with fail
    refine (HM.out _).mono ?_
    rintro e w' ⟨rfl, hw⟩; rw [hw]; clear hw w'
    go_wp2_with fail
    go_ret
    exact ⟨ret_bool HRf.out.symm, by go_grown⟩
  | true =>
  have HK : Hid (R = ((decide (m = 0) || decide (k = 7)) && (l.isEmpty || (decide (k = 1) && sentB l)))) := by
    show _ = _
    rw [← HR.out]
    simp [okE, g3, g4, g1, g2]
  rw [g3] at HT
  rw [g4] at HM
  clear g3 g4 HR
  by_cases g5 : m = 0
  · by_cases g7 : n = 0
    · have hl0 : l = [] := List.length_eq_zero_iff.1 (by omega)
      have HRf : Hid (R = true) := by show _ = _; rw [HK.out]; simp [g5, hl0]
      subst g5 g7 hl0
      go_enter Tryz.func31, Tryz.ntmps31
      go_wp2_with fail
      refine (HT.out _).mono ?_
      rintro e w' ⟨rfl, hw⟩; rw [hw]; clear hw w'
      go_wp2_with fail
      refine (HM.out _).mono ?_
      rintro e w' ⟨rfl, hw⟩; rw [hw]; clear hw w'
      go_wp2_with fail
      go_ret
      exact ⟨ret_bool HRf.out.symm, by go_grown⟩
    · have hl0 : l.isEmpty = false := by cases l with | nil => simp at hl; omega | cons _ _ => rfl
      have hn0 : ((n : Int) == 0) = false := by simp; omega
      by_cases g8 : k = 1
      · have HRf : Hid (R = sentB l) := by show _ = _; rw [HK.out]; simp [g5, hl0, g8]
        subst g5 g8
        obtain ⟨S, hS⟩ : ∃ S, sentB l = S := ⟨_, rfl⟩
        rw [hS] at HA HRf
        clear hS
        go_enter Tryz.func31, Tryz.ntmps31
        go_wp2_with fail
        refine (HT.out _).mono ?_
        rintro e w' ⟨rfl, hw⟩; rw [hw]; clear hw w'
        go_wp2_with fail
        refine (HM.out _).mono ?_
        rintro e w' ⟨rfl, hw⟩; rw [hw]; clear hw w'
        go_wp2_with fail
        refine (HA.out _).mono ?_
        rintro e w' ⟨rfl, hw⟩; rw [hw]; clear hw w'
        go_wp2_with fail
        go_ret
        exact ⟨ret_bool HRf.out.symm, by go_grown⟩
      · have HRf : Hid (R = false) := by show _ = _; rw [HK.out]; simp [g8, hl0]
        subst g5
        go_enter Tryz.func31, Tryz.ntmps31
        go_wp2_with fail
        refine (HT.out _).mono ?_
        rintro e w' ⟨rfl, hw⟩; rw [hw]; clear hw w'
        go_wp2_with fail
        refine (HM.out _).mono ?_
        rintro e w' ⟨rfl, hw⟩; rw [hw]; clear hw w'
        go_wp2_with fail
        go_ret
        exact ⟨ret_bool HRf.out.symm, by go_grown⟩
  · by_cases g6 : k = 7
    · have hk1 : ¬ k = 1 := by omega
      by_cases g7 : n = 0
      · have hl0 : l = [] := List.length_eq_zero_iff.1 (by omega)
        have HRf : Hid (R = true) := by show _ = _; rw [HK.out]; simp [g6, hl0]
        subst g6 g7 hl0
        go_enter Tryz.func31, Tryz.ntmps31
        go_wp2_with fail
        refine (HT.out _).mono ?_
        rintro e w' ⟨rfl, hw⟩; rw [hw]; clear hw w'
        go_wp2_with fail
        refine (HM.out _).mono ?_
        rintro e w' ⟨rfl, hw⟩; rw [hw]; clear hw w'
        go_wp2_with fail
        go_ret
        exact ⟨ret_bool HRf.out.symm, by go_grown⟩
      · have hl0 : l.isEmpty = false := by cases l with | nil => simp at hl; omega | cons _ _ => rfl
        have hn0 : ((n : Int) == 0) = false := by simp; omega
        have HRf : Hid (R = false) := by show _ = _; rw [HK.out]; simp [hk1, hl0]
        subst g6
        go_enter Tryz.func31, Tryz.ntmps31
        go_wp2_with fail
        refine (HT.out _).mono ?_
        rintro e w' ⟨rfl, hw⟩; rw [hw]; clear hw w'
        go_wp2_with fail
        refine (HM.out _).mono ?_
        rintro e w' ⟨rfl, hw⟩; rw [hw]; clear hw w'
        go_wp2_with fail
        go_ret
        exact ⟨ret_bool HRf.out.symm, by go_grown⟩
    · have HRf : Hid (R = false) := by show _ = _; rw [HK.out]; simp [g5, g6]
      go_enter Tryz.func31, Tryz.ntmps31
      go_wp2_with fail
      refine (HT.out _).mono ?_
      rintro e w' ⟨rfl, hw⟩; rw [hw]; clear hw w'
      go_wp2_with fail
      refine (HM.out _).mono ?_
      rintro e w' ⟨rfl, hw⟩; rw [hw]; clear hw w'
      go_wp2_with fail
      go_ret
      exact ⟨ret_bool HRf.out.symm, by go_grown⟩
end Go.Proofs.YtjmgfpldjccilaaGreatDoor
