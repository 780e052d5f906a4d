/- The program's firstCodeOf: one check at each of a list. -/
import Derived.Test.YtchemhjcknkbgaaGreatDoorBunY43
namespace Go.Proofs.YtchemhjcknkbgaaGreatDoor
open Go Go.RowKit Go.PlainAid
set_option linter.unusedSimpArgs false
set_option linter.unusedVariables false


set_option maxHeartbeats 1600000 in
set_option maxRecDepth 100000 in
theorem fcoMove_any (B : Nat) (a : Option Addr) (n c : Nat) (l : List Mo) (fv : Value) (code : Mo → Int) (w : World) (hB : B ≤ w.heap.size) (hn : n ≤ 1048576) (hz : IsArr 3 QMo B w a n l)
    (hcall : ∀ (W : World) (y : Mo) , Below w.heap.size w W → y ∈ l → Calls Tryz.prog 174 #[fv, .agg #[.string y.event, .string y.cond, .string y.to]] W fun e w' => e = .returned (.int .i64 (code y)) ∧ Below W.heap.size W w') :
    Calls Tryz.prog 173 #[.slice a n c, .func (Fn.func 174) #[fv] #[]] w fun e w' => e = .returned (.int .i64 (firstC code l)) ∧ Below w.heap.size w w' := by
  have HL := hidOf hz.1
  have HZ := hidOf hz
  have HCA := hidOf hcall
  clear hz hcall
  obtain ⟨R, hR⟩ : ∃ R, firstC code l = R := ⟨_, rfl⟩
  have HR := hidOf hR
  rw [hR]
  clear hR
  go_enter Tryz.func173, Tryz.ntmps173
  go_wp2_with fail
  go_loopw [10] (fun i wr => ∃ k : Nat, k ≤ n ∧ i = .int .i64 k ∧ Hid (∀ j, (h : j < l.length) → j < k → code l[j] = 0) ∧ Below w.heap.size w wr) (fun i _ => n - (intOf i).toNat)
  case atStart => exact ⟨0, Nat.zero_le _, rfl, fun j _ h => absurd h (Nat.not_lt_zero _), Below.refl _ _⟩
  case round =>
    obtain ⟨k, hk, rfl, HK, hbel⟩ := hrel
    by_cases hlt : k < n
    · have hkl : k < l.length := by have := HL.out; omega
      obtain ⟨b, off, cs, rfl, hb, hq, hcell⟩ := IsArr.at (HZ.out.below (QMo.lift (hbel.mono hB)) (hbel.mono hB)) hlt hkl
      have hbr : b < wr.heap.size := by have := hbel.size; omega
      have hB2 : B ≤ wr.heap.size := by have := hbel.size; omega
      have hmem : l[k] ∈ l := List.getElem_mem _
      obtain ⟨y, hy⟩ : ∃ y, l[k] = y := ⟨_, rfl⟩
      rw [hy] at hq hmem
      obtain ⟨C, hC⟩ : ∃ C, code y = C := ⟨_, rfl⟩
      have HCC : Hid (code l[k] = C) := by show _ = _; rw [hy]; exact hC
      have HKL := hidOf hkl
      unfold QMo at hq
      subst hq
      obtain ⟨y0, hy0⟩ : ∃ s, y.event = s := ⟨_, rfl⟩
      obtain ⟨y1, hy1⟩ : ∃ s, y.cond = s := ⟨_, rfl⟩
      obtain ⟨y2, hy2⟩ : ∃ s, y.to = s := ⟨_, rfl⟩
      have HE : Hid (∀ o, Calls Tryz.prog 174 #[fv, .agg #[.string y.event, .string y.cond, .string y.to]] (wr.alloc o) fun e w' => e = .returned (.int .i64 (code y)) ∧ Below (wr.alloc o).heap.size (wr.alloc o) w') := fun o => by
        have hb2 : Below wr.heap.size wr (wr.alloc o) := (Below.refl _ _).alloc (Nat.le_refl _) _
        exact HCA.out (wr.alloc o) y (hbel.trans (hb2.mono hbel.size)) hmem
      rw [hC] at HE
      rw [hy0, hy1, hy2] at HE hcell
      clear hy0 hy1 hy2
      have e0 : wr.cell? ⟨b, off + k * 3, none⟩ = some (.string y0) := hcell 0 _ rfl
      have e1 : wr.cell? ⟨b, off + k * 3 + 1, none⟩ = some (.string y1) := hcell 1 _ rfl
      have e2 : wr.cell? ⟨b, off + k * 3 + 1 + 1, none⟩ = some (.string y2) := hcell 2 _ rfl
      clear hC hy hmem hcell
      by_cases hC0 : C = 0
      · subst hC0
        go_wp2_with fail
        refine (HE.out _).mono ?_
        rintro e w1 ⟨rfl, hb1⟩
        have HB1 : Hid (Below w.heap.size w w1) := hbel.trans ((below_boxed hb1).mono hbel.size)
        clear hb1
        go_wp2_with fail
        go_roundw
        case rel =>
          refine ⟨k + 1, by omega, by go_num, ?_, HB1.out⟩
          intro j hj hjk
          by_cases e : j = k
          · subst e; exact HCC.out
          · exact HK.out j hj (by omega)
        case measure => simp [intOf]; omega
      · have hC1 : (C == 0) = false := by simp [hC0]
        go_wp2_with fail
        refine (HE.out _).mono ?_
        rintro e w1 ⟨rfl, hb1⟩
        have HB1 : Hid (Below w.heap.size w w1) := hbel.trans ((below_boxed hb1).mono hbel.size)
        clear hb1
        go_wp2_with fail
        go_ret
        exact ⟨ret_int (by rw [← HR.out, firstC_at HKL.out (fun i h1 h2 => HK.out i h1 h2) (fun h => hC0 (HCC.out.symm.trans h))]; exact HCC.out.symm), HB1.out⟩
    · have HR0 : Hid (R = 0) := by show R = 0; rw [← HR.out]; exact firstC_zero fun i h => HK.out i h (by have := HL.out; omega)
      go_wp2_with fail
      go_ret
      exact ⟨ret_int HR0.out.symm, hbel⟩

set_option maxHeartbeats 1600000 in
set_option maxRecDepth 100000 in
theorem fcoAct_any (B : Nat) (a : Option Addr) (n c : Nat) (l : List Ac) (fv : Value) (code : Ac → Int) (w : World) (hB : B ≤ w.heap.size) (hn : n ≤ 1048576) (hz : IsArr 3 QAc B w a n l)
    (hcall : ∀ (W : World) (y : Ac) , Below w.heap.size w W → y ∈ l → Calls Tryz.prog 177 #[fv, .agg #[.int .i64 y.kind, .string y.name, .string y.sum]] W fun e w' => e = .returned (.int .i64 (code y)) ∧ Below W.heap.size W w') :
    Calls Tryz.prog 176 #[.slice a n c, .func (Fn.func 177) #[fv] #[]] w fun e w' => e = .returned (.int .i64 (firstC code l)) ∧ Below w.heap.size w w' := by
  have HL := hidOf hz.1
  have HZ := hidOf hz
  have HCA := hidOf hcall
  clear hz hcall
  obtain ⟨R, hR⟩ : ∃ R, firstC code l = R := ⟨_, rfl⟩
  have HR := hidOf hR
  rw [hR]
  clear hR
  go_enter Tryz.func176, Tryz.ntmps176
  go_wp2_with fail
  go_loopw [10] (fun i wr => ∃ k : Nat, k ≤ n ∧ i = .int .i64 k ∧ Hid (∀ j, (h : j < l.length) → j < k → code l[j] = 0) ∧ Below w.heap.size w wr) (fun i _ => n - (intOf i).toNat)
  case atStart => exact ⟨0, Nat.zero_le _, rfl, fun j _ h => absurd h (Nat.not_lt_zero _), Below.refl _ _⟩
  case round =>
    obtain ⟨k, hk, rfl, HK, hbel⟩ := hrel
    by_cases hlt : k < n
    · have hkl : k < l.length := by have := HL.out; omega
      obtain ⟨b, off, cs, rfl, hb, hq, hcell⟩ := IsArr.at (HZ.out.below (QAc.lift (hbel.mono hB)) (hbel.mono hB)) hlt hkl
      have hbr : b < wr.heap.size := by have := hbel.size; omega
      have hB2 : B ≤ wr.heap.size := by have := hbel.size; omega
      have hmem : l[k] ∈ l := List.getElem_mem _
      obtain ⟨y, hy⟩ : ∃ y, l[k] = y := ⟨_, rfl⟩
      rw [hy] at hq hmem
      obtain ⟨C, hC⟩ : ∃ C, code y = C := ⟨_, rfl⟩
      have HCC : Hid (code l[k] = C) := by show _ = _; rw [hy]; exact hC
      have HKL := hidOf hkl
      unfold QAc at hq
      subst hq
      obtain ⟨y0, hy0⟩ : ∃ s, y.kind = s := ⟨_, rfl⟩
      obtain ⟨y1, hy1⟩ : ∃ s, y.name = s := ⟨_, rfl⟩
      obtain ⟨y2, hy2⟩ : ∃ s, y.sum = s := ⟨_, rfl⟩
      have HE : Hid (∀ o, Calls Tryz.prog 177 #[fv, .agg #[.int .i64 y.kind, .string y.name, .string y.sum]] (wr.alloc o) fun e w' => e = .returned (.int .i64 (code y)) ∧ Below (wr.alloc o).heap.size (wr.alloc o) w') := fun o => by
        have hb2 : Below wr.heap.size wr (wr.alloc o) := (Below.refl _ _).alloc (Nat.le_refl _) _
        exact HCA.out (wr.alloc o) y (hbel.trans (hb2.mono hbel.size)) hmem
      rw [hC] at HE
      rw [hy0, hy1, hy2] at HE hcell
      clear hy0 hy1 hy2
      have e0 : wr.cell? ⟨b, off + k * 3, none⟩ = some (.int .i64 y0) := hcell 0 _ rfl
      have e1 : wr.cell? ⟨b, off + k * 3 + 1, none⟩ = some (.string y1) := hcell 1 _ rfl
      have e2 : wr.cell? ⟨b, off + k * 3 + 1 + 1, none⟩ = some (.string y2) := hcell 2 _ rfl
      clear hC hy hmem hcell
      by_cases hC0 : C = 0
      · subst hC0
        go_wp2_with fail
        refine (HE.out _).mono ?_
        rintro e w1 ⟨rfl, hb1⟩
        have HB1 : Hid (Below w.heap.size w w1) := hbel.trans ((below_boxed hb1).mono hbel.size)
        clear hb1
        go_wp2_with fail
        go_roundw
        case rel =>
          refine ⟨k + 1, by omega, by go_num, ?_, HB1.out⟩
          intro j hj hjk
          by_cases e : j = k
          · subst e; exact HCC.out
          · exact HK.out j hj (by omega)
        case measure => simp [intOf]; omega
      · have hC1 : (C == 0) = false := by simp [hC0]
        go_wp2_with fail
        refine (HE.out _).mono ?_
        rintro e w1 ⟨rfl, hb1⟩
        have HB1 : Hid (Below w.heap.size w w1) := hbel.trans ((below_boxed hb1).mono hbel.size)
        clear hb1
        go_wp2_with fail
        go_ret
        exact ⟨ret_int (by rw [← HR.out, firstC_at HKL.out (fun i h1 h2 => HK.out i h1 h2) (fun h => hC0 (HCC.out.symm.trans h))]; exact HCC.out.symm), HB1.out⟩
    · have HR0 : Hid (R = 0) := by show R = 0; rw [← HR.out]; exact firstC_zero fun i h => HK.out i h (by have := HL.out; omega)
      go_wp2_with fail
      go_ret
      exact ⟨ret_int HR0.out.symm, hbel⟩

set_option maxHeartbeats 1600000 in
set_option maxRecDepth 100000 in
theorem fcoState_any (B : Nat) (a : Option Addr) (n c : Nat) (l : List St) (fv : Value) (code : St → Int) (w : World) (hB : B ≤ w.heap.size) (hn : n ≤ 1048576) (hz : IsArr 3 QSt B w a n l)
    (hcall : ∀ (W : World) (y : St) (ma : Option Addr) (mn mc : Nat) (ra : Option Addr) (rn rc : Nat), Below w.heap.size w W → y ∈ l → IsArr 3 QMo B W ma mn y.moves → IsArr 3 QAc B W ra rn y.acts → Calls Tryz.prog 128 #[fv, .agg #[.string y.name, .slice ma mn mc, .slice ra rn rc]] W fun e w' => e = .returned (.int .i64 (code y)) ∧ Below W.heap.size W w') :
    Calls Tryz.prog 127 #[.slice a n c, .func (Fn.func 128) #[fv] #[]] w fun e w' => e = .returned (.int .i64 (firstC code l)) ∧ Below w.heap.size w w' := by
  have HL := hidOf hz.1
  have HZ := hidOf hz
  have HCA := hidOf hcall
  clear hz hcall
  obtain ⟨R, hR⟩ : ∃ R, firstC code l = R := ⟨_, rfl⟩
  have HR := hidOf hR
  rw [hR]
  clear hR
  go_enter Tryz.func127, Tryz.ntmps127
  go_wp2_with fail
  go_loopw [10] (fun i wr => ∃ k : Nat, k ≤ n ∧ i = .int .i64 k ∧ Hid (∀ j, (h : j < l.length) → j < k → code l[j] = 0) ∧ Below w.heap.size w wr) (fun i _ => n - (intOf i).toNat)
  case atStart => exact ⟨0, Nat.zero_le _, rfl, fun j _ h => absurd h (Nat.not_lt_zero _), Below.refl _ _⟩
  case round =>
    obtain ⟨k, hk, rfl, HK, hbel⟩ := hrel
    by_cases hlt : k < n
    · have hkl : k < l.length := by have := HL.out; omega
      obtain ⟨b, off, cs, rfl, hb, hq, hcell⟩ := IsArr.at (HZ.out.below (QSt.lift (hbel.mono hB)) (hbel.mono hB)) hlt hkl
      have hbr : b < wr.heap.size := by have := hbel.size; omega
      have hB2 : B ≤ wr.heap.size := by have := hbel.size; omega
      have hmem : l[k] ∈ l := List.getElem_mem _
      obtain ⟨y, hy⟩ : ∃ y, l[k] = y := ⟨_, rfl⟩
      rw [hy] at hq hmem
      obtain ⟨C, hC⟩ : ∃ C, code y = C := ⟨_, rfl⟩
      have HCC : Hid (code l[k] = C) := by show _ = _; rw [hy]; exact hC
      have HKL := hidOf hkl
      obtain ⟨ma, mn, mc, ra, rn, rc, rfl, q1, q2, q3, q4, q5, q6⟩ := hq
      obtain ⟨y0, hy0⟩ : ∃ s, y.name = s := ⟨_, rfl⟩
      have HE : Hid (∀ o, Calls Tryz.prog 128 #[fv, .agg #[.string y.name, .slice ma mn mc, .slice ra rn rc]] (wr.alloc o) fun e w' => e = .returned (.int .i64 (code y)) ∧ Below (wr.alloc o).heap.size (wr.alloc o) w') := fun o => by
        have hb2 : Below wr.heap.size wr (wr.alloc o) := (Below.refl _ _).alloc (Nat.le_refl _) _
        exact HCA.out (wr.alloc o) y ma mn mc ra rn rc (hbel.trans (hb2.mono hbel.size)) hmem (q5.below (QMo.lift (hb2.mono hB2)) (hb2.mono hB2)) (q6.below (QAc.lift (hb2.mono hB2)) (hb2.mono hB2))
      rw [hC] at HE
      rw [hy0] at HE hcell
      clear hy0 q5 q6
      have e0 : wr.cell? ⟨b, off + k * 3, none⟩ = some (.string y0) := hcell 0 _ rfl
      have e1 : wr.cell? ⟨b, off + k * 3 + 1, none⟩ = some (.slice ma mn mc) := hcell 1 _ rfl
      have e2 : wr.cell? ⟨b, off + k * 3 + 1 + 1, none⟩ = some (.slice ra rn rc) := hcell 2 _ rfl
      clear hC hy hmem hcell
      by_cases hC0 : C = 0
      · subst hC0
        go_wp2_with fail
        refine (HE.out _).mono ?_
        rintro e w1 ⟨rfl, hb1⟩
        have HB1 : Hid (Below w.heap.size w w1) := hbel.trans ((below_boxed hb1).mono hbel.size)
        clear hb1
        go_wp2_with fail
        go_roundw
        case rel =>
          refine ⟨k + 1, by omega, by go_num, ?_, HB1.out⟩
          intro j hj hjk
          by_cases e : j = k
          · subst e; exact HCC.out
          · exact HK.out j hj (by omega)
        case measure => simp [intOf]; omega
      · have hC1 : (C == 0) = false := by simp [hC0]
        go_wp2_with fail
        refine (HE.out _).mono ?_
        rintro e w1 ⟨rfl, hb1⟩
        have HB1 : Hid (Below w.heap.size w w1) := hbel.trans ((below_boxed hb1).mono hbel.size)
        clear hb1
        go_wp2_with fail
        go_ret
        exact ⟨ret_int (by rw [← HR.out, firstC_at HKL.out (fun i h1 h2 => HK.out i h1 h2) (fun h => hC0 (HCC.out.symm.trans h))]; exact HCC.out.symm), HB1.out⟩
    · have HR0 : Hid (R = 0) := by show R = 0; rw [← HR.out]; exact firstC_zero fun i h => HK.out i h (by have := HL.out; omega)
      go_wp2_with fail
      go_ret
      exact ⟨ret_int HR0.out.symm, hbel⟩
end Go.Proofs.YtchemhjcknkbgaaGreatDoor
