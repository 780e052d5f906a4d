/- The model's decimals, of every number of 32 bits. -/
import Derived.Test.YtjmgfpldjccilaaGreatDoorEvTab
import Derived.Laws.IdiomStrings
import Derived.Deep.RegionHeld3
namespace Go.Proofs.YtjmgfpldjccilaaGreatDoor
open Go Go.RowKit Go.PlainAid
set_option linter.unusedSimpArgs false
set_option linter.unusedVariables false

theorem ret_txt' {a b : ByteArray} (h : a = b) : Ending.returned (.string a) = .returned (.string b) := by rw [h]
/-- one figure -/
def fig (x : Nat) : ByteArray := bt8 [UInt8.ofNat (48 + x)]
theorem conv_fig (x : Nat) (hx : x < 10) (W : World) (b : Nat) (hc : W.cell? ⟨b, 0, none⟩ = some (.int .u8 (48 + (x : Int)))) : (convert 22 9 (.slice (some ⟨b, 0, none⟩) 1 1)).run Tryz.prog W = .ok (.string (fig x)) W := by
  refine run_convert_bytes_back (P := Tryz.prog) W 22 9 5 ⟨b, 0, none⟩ 1 [UInt8.ofNat (48 + x)] Tryz.underlying22 Tryz.underlying5 Tryz.underlying9 ?_
  intro j hj
  match j, hj with
  | 0, _ =>
    have e : ((UInt8.ofNat (48 + x)).toNat : Int) = 48 + (x : Int) := by rw [UInt8.toNat_ofNat']; omega
    simp only [List.getElem_cons_zero, e]
    simpa [Addr.add] using hc
theorem bel_after' {w w' : World} (h : Below w.drew.heap.size w.drew w') (o : Obj) : Below w.heap.size w (w'.alloc o) := (undrew h).alloc h.size o
theorem bel_before' {w w' : World} {o : Obj} (h : Below (w.alloc o).drew.heap.size (w.alloc o).drew w') : Below w.heap.size w w' :=
  ((Below.refl _ w).alloc (Nat.le_refl _) o).trans ((undrew h).mono (by simp))
theorem digits_small {u : Nat} (h : u < 10) : bt8 (Lib.decDigits u) = fig u := by unfold fig; rw [Lib.decDigits, dif_pos h]
theorem digits_big {u : Nat} (h : ¬ u < 10) : bt8 (Lib.decDigits u) = bt8 (Lib.decDigits (u / 10)) ++ fig (u % 10) := by
  unfold fig; rw [bt8_app, Lib.decDigits, dif_neg h]
theorem digits_size {u : Nat} (h : u < 10000000000) : (bt8 (Lib.decDigits u)).size ≤ 10 := by
  rw [bt8_size, Lib.decDigits_length]
  exact nDigits_le (k := 9) (by omega)

set_option maxHeartbeats 800000 in
set_option maxRecDepth 100000 in
theorem l1Dec_nat (u : Nat) : u < 10000000000 → ∀ (w : World), Calls Tryz.prog 67 #[.int .i64 u] w fun e w' => e = .returned (.string (bt8 (Lib.decDigits u))) ∧ Below w.heap.size w w' := by
  induction u using Nat.strongRecOn with
  | _ u ih =>
    intro hu w
    by_cases h10 : u < 10
    · have hcv := conv_fig u h10
      have HN := hidOf (digits_small h10)
      have p2 : IntKind.i64.wrap (48 + (u : Int)) = 48 + (u : Int) := IntWalk.i64_in _ ⟨by omega, by omega⟩
      have p3 : IntKind.u8.wrap (48 + (u : Int)) = 48 + (u : Int) := IntWalk.u8_in _ ⟨by omega, by omega⟩
      have h10' : (u : Int) < 10 := by omega
      clear ih
      go_enter Tryz.func67, Tryz.ntmps67
      go_wp2_with fail
      go_ret
      exact ⟨ret_txt' HN.out.symm, (Below.refl _ _).alloc (Nat.le_refl _) _⟩
    · obtain ⟨q, hq⟩ : ∃ q, u / 10 = q := ⟨_, rfl⟩
      obtain ⟨r, hr⟩ : ∃ r, u % 10 = r := ⟨_, rfl⟩
      have t1 : (u : Int).tdiv 10 = (q : Int) := by rw [Int.tdiv_eq_ediv_of_nonneg (by omega)]; omega
      have t2 : (u : Int).tmod 10 = (r : Int) := by rw [Int.tmod_eq_emod_of_nonneg (by omega)]; omega
      have hcv := conv_fig r (by omega)
      have HN : Hid (bt8 (Lib.decDigits u) = bt8 (Lib.decDigits q) ++ fig r) := by
        show _ = _
        rw [digits_big h10, hq, hr]
      have HI : Hid (∀ W : World, Calls Tryz.prog 67 #[.int .i64 q] W fun e w' => e = .returned (.string (bt8 (Lib.decDigits q))) ∧ Below W.heap.size W w') := fun W => ih q (by omega) (by omega) W
      have hz8 := digits_size (u := q) (by omega)
      obtain ⟨X, hX⟩ : ∃ X, bt8 (Lib.decDigits q) = X := ⟨_, rfl⟩
      obtain ⟨Y, hY⟩ : ∃ Y, fig r = Y := ⟨_, rfl⟩
      have hd1 : Y.size = 1 := by rw [← hY]; rfl
      rw [hX] at HI hz8 HN
      rw [hY] at hcv HN
      have hz9 : X.size + Y.size ≤ 9223372036854775807 := by omega
      have hz9' : ¬ 9223372036854775807 < X.size + Y.size := by omega
      have hm2 : r < 10 := by omega
      have hq2 : q < 1000000000 := by omega
      have h10' : ¬ (u : Int) < 10 := by omega
      have p1 : IntKind.i64.wrap (q : Int) = q := IntWalk.i64_in _ ⟨by omega, by omega⟩
      have p2 : IntKind.i64.wrap (48 + (r : Int)) = 48 + (r : Int) := IntWalk.i64_in _ ⟨by omega, by omega⟩
      have p3 : IntKind.u8.wrap (48 + (r : Int)) = 48 + (r : Int) := IntWalk.u8_in _ ⟨by omega, by omega⟩
      have p4 : IntKind.i64.wrap (r : Int) = r := IntWalk.i64_in _ ⟨by omega, by omega⟩
      clear ih hq hr hX hY
      go_enter Tryz.func67, Tryz.ntmps67
      go_wp2_with fail
      go_region_with (go_at_call 67; refine (HI.out _).mono ?_; rintro e w' ⟨rfl, hb⟩; obtain ⟨hc', hf'⟩ := bcell hb)
      all_goals
        go_wp2_with fail
        go_ret
        refine ⟨ret_txt' HN.out.symm, ?_⟩
        first
          | exact bel_after' hb _
          | exact bel_before' hb

theorem l1Dec_any (n : Int) (w : World) (hn : in32 n = true) : Calls Tryz.prog 67 #[.int .i64 n] w fun e w' => e = .returned (.string (bt8 (Lib.itoa n))) ∧ Below w.heap.size w w' := by
  simp [in32] at hn
  by_cases h : n < 0
  · rw [itoa_neg h]
    have hz8 := digits_size (u := n.natAbs) (by omega)
    have HI := hidOf (fun w => l1Dec_nat n.natAbs (by omega) w)
    have e1 : ((n.natAbs : Nat) : Int) = -n := by omega
    rw [e1] at HI
    obtain ⟨X, hX⟩ : ∃ X, bt8 (Lib.decDigits n.natAbs) = X := ⟨_, rfl⟩
    rw [hX] at HI hz8
    have HR : Hid (bt8 (45 :: Lib.decDigits n.natAbs) = ⟨#[45]⟩ ++ X) := by
      show _ = _
      rw [← hX, show (⟨#[45]⟩ : ByteArray) = bt8 [45] from rfl, bt8_app]; rfl
    have p1 : IntKind.i64.wrap (-n) = -n := IntWalk.i64_in _ ⟨by omega, by omega⟩
    have hz9' : ¬ 9223372036854775807 < 1 + X.size := by omega
    have h2 : ¬ n < -9223372036854775807 := by omega
    clear hX e1
    go_enter Tryz.func67, Tryz.ntmps67
    go_wp2_with fail
    refine (HI.out _).mono ?_
    rintro e w1 ⟨rfl, hb⟩
    have HB := hidOf hb
    clear hb
    go_wp2_with fail
    go_ret
    exact ⟨ret_txt' HR.out.symm, HB.out⟩
  · rw [itoa_nonneg (by omega)]
    have := l1Dec_nat n.toNat (by omega) w
    rw [show ((n.toNat : Nat) : Int) = n by omega] at this
    exact this

set_option maxHeartbeats 800000 in
set_option maxRecDepth 100000 in
theorem l7Vals_any (B : Nat) (a : Option Addr) (n c : Nat) (l : List Int) (w : World) (hB : B ≤ w.heap.size) (hz : IsInts B w a n l) (hs : l.all in32 = true) (h3 : l.length ≤ 3) (h0 : l ≠ []) :
    Calls Tryz.prog 68 #[.slice a n c] w fun e w' => e = .returned (.string (bt8 (valsT l))) ∧ Below w.heap.size w w' := by
  have hlen := hz.1
  have HZ := hidOf hz
  have HS := hidOf hs
  have H0 := hidOf h0
  have hn0 : 0 < n := by have := List.length_pos_iff.2 h0; omega
  clear hz hs h0
  go_enter Tryz.func68, Tryz.ntmps68
  go_wp2_with fail
  go_loopw [3, 4] (fun o i wr => ∃ (k : Nat) (x : ByteArray), k ≤ n ∧ i = .int .i64 k ∧ o = .string x ∧ x.size ≤ 12 * k ∧ Hid (x = bt8 (valsT (l.take k))) ∧ Below w.heap.size w wr) (fun _ i _ => n - (intOf i).toNat)
  case atStart => exact ⟨0, bt8 [], Nat.zero_le _, rfl, rfl, by simp [bt8_size], by show _ = _; simp [valsT, Lib.join], Below.refl _ _⟩
  case round =>
    obtain ⟨k, x, hk, rfl, rfl, hxs, HX, hbel⟩ := hrel
    by_cases hlt : k < n
    · have hws := hbel.size
      rcases (HZ.out.below (hbel.mono hB)).2 with h0 | ⟨b, off, rfl, hb, hc⟩
      · omega
      have hbr : b < wr.heap.size := by omega
      have c0 := hc k hlt
      have hin : in32 (l.getD k 0) = true := by rw [getD_at (by omega)]; exact List.all_eq_true.1 HS.out _ (List.getElem_mem _)
      have ht : l.take (k + 1) = l.take k ++ [l.getD k 0] := by rw [List.take_succ_eq_append_getElem (by omega), getD_at (by omega)]
      obtain ⟨v, hv⟩ : ∃ v, l.getD k 0 = v := ⟨_, rfl⟩
      rw [hv] at c0 hin ht
      have HI := hidOf (fun W => l1Dec_any v W hin)
      have hy := itoa_len11 hin
      obtain ⟨y, hY⟩ : ∃ y, bt8 (Lib.itoa v) = y := ⟨_, rfl⟩
      have sy : y.size ≤ 11 := by rw [← hY, bt8_size]; exact hy
      rw [hY] at HI
      by_cases hk0 : k = 0
      · subst hk0
        have hx0 : x = bt8 [] := by rw [HX.out]; simp [valsT, Lib.join]
        have HN : Hid (bt8 [] ++ y = bt8 (valsT (l.take (0 + 1)))) := by
          show _ = _
          rw [ht, ← hY, bt8_app]
          simp [valsT_one]
        have u2 : ¬ 9223372036854775807 < (bt8 []).size + y.size := by rw [bt8_size]; simp; omega
        have u3 : (bt8 [] ++ y).size ≤ 12 := by rw [ByteArray.size_append, bt8_size]; simp; omega
        subst hx0
        obtain ⟨N, hN⟩ : ∃ N, bt8 [] = N := ⟨_, rfl⟩
        rw [hN] at HN u2 u3 hxs HX ⊢
        have c0' : wr.cell? ⟨b, off, none⟩ = some (.int .i64 v) := by simpa using c0
        clear hc hv hin ht hy hY hN c0
        go_wp2_with fail
        refine (HI.out _).mono ?_
        rintro e w1 ⟨rfl, hb1⟩
        have HB1 := hidOf (hbel.trans (hb1.mono hws))
        clear hb1
        go_wp2_with fail
        go_roundw
        case rel => exact ⟨0 + 1, N ++ y, by omega, by go_num, rfl, by omega, HN, HB1.out⟩
        case measure => simp [intOf]; omega
      · have HN : Hid (x ++ ⟨#[44]⟩ ++ y = bt8 (valsT (l.take (k + 1)))) := by
          show _ = _
          rw [ht, HX.out, ← hY, show (⟨#[44]⟩ : ByteArray) = bt8 [44] from rfl, bt8_app, bt8_app]
          congr 1
          have hne : l.take k ≠ [] := by
            intro e
            have h := congrArg List.length e
            rw [List.length_take, List.length_nil] at h
            omega
          generalize l.take k = r at hne
          have key : ∀ r : List Int, r ≠ [] → valsT (r ++ [v]) = valsT r ++ [44] ++ Lib.itoa v := by
            intro r
            induction r with
            | nil => intro h; exact absurd rfl h
            | cons z r ih =>
              intro _
              cases r with
              | nil => rw [List.singleton_append, valsT_cons, valsT_one, valsT_one]; simp
              | cons z' r =>
                rw [List.cons_append, List.cons_append, valsT_cons, valsT_cons]
                have := ih (by simp)
                rw [List.cons_append] at this
                rw [this]
                simp
          exact (key r hne).symm
        have u1 : ¬ 9223372036854775807 < x.size + 1 := by omega
        have u2 : ¬ 9223372036854775807 < x.size + 1 + y.size := by omega
        have u3 : (x ++ (⟨#[44]⟩ : ByteArray) ++ y).size ≤ 12 * (k + 1) := by
          rw [ByteArray.size_append, ByteArray.size_append]
          have : (⟨#[44]⟩ : ByteArray).size = 1 := rfl
          omega
        have hkp : (0 : Int) < k := by omega
        clear hc hv hin ht hy hY
        go_wp2_with fail
        refine (HI.out _).mono ?_
        rintro e w1 ⟨rfl, hb1⟩
        have HB1 := hidOf (hbel.trans (hb1.mono hws))
        clear hb1
        go_wp2_with fail
        go_roundw
        case rel => exact ⟨k + 1, x ++ ⟨#[44]⟩ ++ y, by omega, by go_num, rfl, u3, HN, HB1.out⟩
        case measure => simp [intOf]; omega
    · have : k = n := by omega
      subst this
      have hx1 : x = bt8 (valsT l) := by rw [HX.out, List.take_of_length_le (by omega)]
      have hx2 : x ≠ ⟨#[]⟩ := by
        rw [hx1]
        intro e
        have := bt8_inj (a := valsT l) (b := []) e
        exact valsT_ne H0.out this
      have hx3 : x.toList.isEmpty = false := by
        rw [Lib.toList_data]
        cases h : x.data.toList with
        | nil => exact absurd (by rw [← bt8_of x, h]; rfl) hx2
        | cons _ _ => rfl
      have HX1 := hidOf hx1
      clear hx1 hx2 HX
      go_wp2_with fail
      go_ret
      exact ⟨ret_txt' HX1.out, hbel⟩
end Go.Proofs.YtjmgfpldjccilaaGreatDoor
