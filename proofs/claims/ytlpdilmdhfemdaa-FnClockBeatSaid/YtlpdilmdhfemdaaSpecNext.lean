/- ClockNext of the model. -/
import Derived.Test.YtlpdilmdhfemdaaNextM
import Derived.BigQuiet
namespace Go.Proofs.Ytlpdilmdhfemdaa
open Go Go.RowKit Go.PlainAid
set_option linter.unusedSimpArgs false
set_option linter.unusedVariables false

theorem fire_set0 {W : World} {b : Nat} {x y : Int} (h : W.heap[b]? = some (fireO x y)) (x' : Int) : (W.setCell ⟨b, 0, none⟩ (.int .i64 x')).heap[b]? = some (fireO x' y) := by
  obtain ⟨hlt, hk⟩ := Array.getElem?_eq_some_iff.1 h
  show (W.heap.modify b _)[b]? = _
  rw [Array.getElem?_eq_getElem (by rw [Array.size_modify]; exact hlt), Array.getElem_modify_self, hk]
  rfl
theorem fire_set1 {W : World} {b : Nat} {x y : Int} (h : W.heap[b]? = some (fireO x y)) (y' : Int) : (W.setCell ⟨b, 1, none⟩ (.int .i64 y')).heap[b]? = some (fireO x y') := by
  obtain ⟨hlt, hk⟩ := Array.getElem?_eq_some_iff.1 h
  show (W.heap.modify b _)[b]? = _
  rw [Array.getElem?_eq_getElem (by rw [Array.size_modify]; exact hlt), Array.getElem_modify_self, hk]
  rfl
theorem fire_set {W : World} {b : Nat} {x y : Int} (h : W.heap[b]? = some (fireO x y)) (x' y' : Int) : ((W.setCell ⟨b, 0, none⟩ (.int .i64 x')).setCell ⟨b, 1, none⟩ (.int .i64 y')).heap[b]? = some (fireO x' y') := fire_set1 (fire_set0 h x') y'
theorem cells_set {W : World} {b : Nat} (p : Addr) (u : Value) (h : b ≠ p.block) : (W.setCell p u).heap[b]? = W.heap[b]? := Below.heap_setCell _ _ _ _ h

set_option maxRecDepth 100000 in
set_option maxHeartbeats 8000000 in
theorem specClockNext_any (B : Nat) (a : Option Addr) (n c : Nat) (l : List Bt) (t : Int) (w : World) (hB : B ≤ w.heap.size) (hn : n ≤ 1048576) (hz : IsBts B w a n l) :
    Calls Try.prog 17 #[.slice a n c, .int .i64 t] w fun e w' => e = .returned (.tuple #[.agg #[.int .i64 (nextM l t).1, .int .i64 (nextM l t).2], .bool (isNextM l t)]) ∧ Below w.heap.size w w' := by
  have HZ := hidOf hz
  have hlen := hz.1
  have HOK : Hid (∀ W, Below w.heap.size w W → Calls Try.prog 31 #[.slice a n c] W fun e w' => e = .returned (.bool (btsB l)) ∧ Below W.heap.size W w') := fun W hb => l24Ok_any B a n c l W (Nat.le_trans hB hb.size) hn (hz.belowBt (hb.mono hB))
  clear hz
  cases hok : btsB l with
  | false =>
    have hN : nextM l t = (0, 0) := by simp [nextM, hok]
    have hI : isNextM l t = false := by simp [isNextM, hok]
    rw [hok] at HOK
    rw [hN, hI]
    clear hN hI
    go_enter Try.func17, Try.ntmps17
    go_wp2_with fail
    refine (HOK.out _ (by go_grown)).mono ?_
    rintro e w1 ⟨rfl, hb1⟩
    obtain ⟨o0, o1, hbw, hsw⟩ := two_boxes hb1
    have HB1 := hidOf hbw
    have g0 : w1.cell? ⟨w.heap.size, 0, none⟩ = some (.int .i64 0) := (obj_cell o0 0).1
    have g1 : w1.cell? ⟨w.heap.size, 1, none⟩ = some (.int .i64 0) := (obj_cell o0 1).1
    have g2 : w1.cell? ⟨w.heap.size + 1, 0, none⟩ = some (.int .i64 0) := (obj_cell o1 0).1
    have g3 : w1.cell? ⟨w.heap.size + 1, 1, none⟩ = some (.int .i64 0) := (obj_cell o1 1).1
    have f0 := (obj_cell o0 0).2
    have f1 := (obj_cell o0 1).2
    clear hb1 o0 o1 hbw
    go_wp2_with fail
    have c0 : (((w1.setCell ⟨w.heap.size, 0, none⟩ (.int .i64 0)).setCell ⟨w.heap.size, 1, none⟩ (.int .i64 0)).cell? ⟨w.heap.size, 0, none⟩) = some (.int .i64 0) := by simp [go_sem, g0, g1]
    have c1 : (((w1.setCell ⟨w.heap.size, 0, none⟩ (.int .i64 0)).setCell ⟨w.heap.size, 1, none⟩ (.int .i64 0)).cell? ⟨w.heap.size, 1, none⟩) = some (.int .i64 0) := by simp [go_sem, g0, g1]
    refine bodyPost_ret (by simp [results, Try.results17, go_sem, c0, c1]; try rfl) rfl ?_
    exact ⟨rfl, (HB1.out.setCell (by simp) _).setCell (by simp) _⟩
  | true =>
    rw [hok] at HOK
    have hlall : ∀ x ∈ l, btB x = true := by
      have h : l.all btB = true ∧ l.length ≤ 3 := by simpa [btsB] using hok
      exact fun x hx => List.all_eq_true.1 h.1 x hx
    by_cases ht : 0 ≤ t ∧ t ≤ 9999
    · have HIN := hidOf (fun W => (l1In_any t 0 9999 W))
      rw [decide_eq_true ht] at HIN
      have HLL := hidOf hlall
      have HTT := hidOf ht
      have HN : Hid (nextM l t = outS t l n ∧ isNextM l t = decide (0 < n)) := by
        by_cases hl0 : l = []
        · subst hl0
          simp at hlen
          subst hlen
          exact ⟨by simp [nextM, outS], by simp [isNextM]⟩
        · refine ⟨?_, ?_⟩
          · rw [← hlen, outS_all t l hl0]
            simp [nextM, hok, ht, hl0]
          · have : 0 < n := by rw [← hlen]; exact List.length_pos_iff.2 hl0
            simp [isNextM, hok, ht, hl0, this]
      obtain ⟨⟨N0, N1⟩, hN⟩ : ∃ r, nextM l t = r := ⟨_, rfl⟩
      obtain ⟨NB, hNB⟩ : ∃ r, isNextM l t = r := ⟨_, rfl⟩
      rw [hN, hNB] at HN ⊢
      clear hN hNB hlall ht hok
      go_enter Try.func17, Try.ntmps17
      go_wp2_with fail
      refine (HOK.out _ (by go_grown)).mono ?_
      rintro e w1 ⟨rfl, hb1⟩
      obtain ⟨o0, o1, hbw, hsw⟩ := two_boxes hb1
      have HB1 := hidOf hbw
      have O0 := hidOf o0
      have O1 := hidOf o1
      have HSW := hidOf hsw
      clear hb1 o0 o1 hbw
      go_wp2_with fail
      refine (HIN.out _).mono ?_
      rintro e w2 ⟨rfl, rfl⟩
      go_wp2_with fail
      go_loopw [7, 8] (fun f i wr => ∃ (k : Nat) (g : Bool), k ≤ n ∧ i = .int .i64 k ∧ f = .bool g ∧ Hid (g = decide (0 < k)) ∧ wr.heap[w.heap.size + 1]? = some (fireO (outS t l k).1 (outS t l k).2) ∧ wr.heap[w.heap.size]? = some (fireO 0 0) ∧ Below w.heap.size w wr) (fun _ i _ => n - (intOf i).toNat)
      case atStart => exact ⟨0, false, Nat.zero_le _, rfl, rfl, rfl, O1.out, O0.out, HB1.out⟩
      case round =>
        obtain ⟨k, g, hk, rfl, rfl, HG, o6, o4, hbel⟩ := hrel
        have O4 := hidOf o4
        have O6 := hidOf o6
        have f0 := (obj_cell o6 0).2
        have f1 := (obj_cell o6 1).2
        by_cases hlt : k < n
        · obtain ⟨b, off, rfl, hb, q0, q1, q2⟩ := bts_at HZ.out hlt (show k < l.length by omega)
          have hws := hbel.size
          have hbr : b < wr.heap.size := by omega
          have c0 := (hbel.cell (p := ⟨b, off + k * 3, none⟩) (Nat.lt_of_lt_of_le hb hB)).trans q0
          have c1 := (hbel.cell (p := ⟨b, off + k * 3 + 1, none⟩) (Nat.lt_of_lt_of_le hb hB)).trans q1
          have c2 := (hbel.cell (p := ⟨b, off + k * 3 + 2, none⟩) (Nat.lt_of_lt_of_le hb hB)).trans q2
          have a0 : wr.cell? ⟨w.heap.size + 1, 0, none⟩ = some (.int .i64 (outS t l k).1) := (obj_cell o6 0).1
          have a1 : wr.cell? ⟨w.heap.size + 1, 1, none⟩ = some (.int .i64 (outS t l k).2) := (obj_cell o6 1).1
          have hne : b ≠ w.heap.size + 1 := by omega
          clear q0 q1 q2 o4
          have hxb : btB (l[k]'(by omega)) = true := HLL.out _ (List.getElem_mem _)
          have hab := atS_bound hxb HTT.out
          obtain ⟨⟨x0, x1, x2⟩, hx⟩ : ∃ x, l[k]'(by omega) = x := ⟨_, rfl⟩
          have HX := hidOf hx
          rw [hx] at c0 c1 c2 hxb hab
          dsimp only at c0 c1 c2
          obtain ⟨AT, hat⟩ : ∃ AT, atS t (x0, x1, x2) = AT := ⟨_, rfl⟩
          have HAT := hidOf hat
          have hb4 : (0 ≤ x0 ∧ x0 ≤ 2) ∧ (0 ≤ x1 ∧ x1 ≤ 9999) ∧ (1 ≤ x2 ∧ x2 ≤ 9999) := by simpa [btB, and_assoc] using hxb
          obtain ⟨_, ⟨hf0, hf1⟩, hn0, hn1⟩ := hb4
          have ht0 := HTT.out.1
          have ht1 := HTT.out.2
          clear hx hab hxb
          by_cases hd : x1 < t
          · have w1 : IntKind.i64.wrap (t - x1) = t - x1 := by rw [IntKind.wrap_i64]; omega
            have hz2 : (x2 == 0) = false := by simp; omega
            have r1 := Int.tmod_nonneg x2 (show 0 ≤ t - x1 by omega)
            have r2 := Int.tmod_lt_of_pos (t - x1) (show 0 < x2 by omega)
            obtain ⟨m1, hm1⟩ : ∃ m, (t - x1).tmod x2 = m := ⟨_, rfl⟩
            rw [hm1] at r1 r2
            have w2 : IntKind.i64.wrap (x2 - m1) = x2 - m1 := by rw [IntKind.wrap_i64]; omega
            have r3 := Int.tmod_nonneg x2 (show 0 ≤ x2 - m1 by omega)
            have r4 := Int.tmod_lt_of_pos (x2 - m1) (show 0 < x2 by omega)
            obtain ⟨m2, hm2⟩ : ∃ m, (x2 - m1).tmod x2 = m := ⟨_, rfl⟩
            rw [hm2] at r3 r4
            have w3 : IntKind.i64.wrap (t + m2) = t + m2 := by rw [IntKind.wrap_i64]; omega
            obtain rfl : AT = t + m2 := by rw [← hat]; unfold atS; dsimp only; rw [if_pos hd, hm1, hm2]
            clear hat
            by_cases hk0 : k = 0
            · have HK0 := hidOf hk0
              obtain rfl : g = false := by rw [HG.out]; simp; omega
              clear hk0
              have HFIN : Hid (∀ W : World, W.heap[w.heap.size + 1]? = some (fireO (outS t l k).1 (outS t l k).2) → ((W.setCell ⟨w.heap.size + 1, 0, none⟩ (.int .i64 (t + m2))).setCell ⟨w.heap.size + 1, 1, none⟩ (.int .i64 x0)).heap[w.heap.size + 1]? = some (fireO (outS t l (k + 1)).1 (outS t l (k + 1)).2)) := fun W hW => by
                have := HK0.out
                subst this
                rw [show outS t l (0 + 1) = ((t + m2), x0) by rw [outS_first t l (by omega) (HLL.out _ (List.getElem_mem _)) HTT.out, HX.out, HAT.out]]
                exact fire_set hW _ _
              go_wp2_with fail
              go_quiet (fail)
              go_wp2_with fail
              go_roundw
              case rel => exact ⟨k + 1, true, by omega, by go_num, rfl, by (show _ = _; simp), HFIN.out _ O6.out, (cells_set _ _ (by show w.heap.size ≠ w.heap.size + 1; omega)).trans ((cells_set _ _ (by show w.heap.size ≠ w.heap.size + 1; omega)).trans O4.out), by first | exact (hbel.setCell (p := ⟨w.heap.size + 1, 0, none⟩) (by show w.heap.size ≤ w.heap.size + 1; omega) _).setCell (p := ⟨w.heap.size + 1, 1, none⟩) (by show w.heap.size ≤ w.heap.size + 1; omega) _ | exact ((drewN hbel _).setCell (p := ⟨w.heap.size + 1, 0, none⟩) (by show w.heap.size ≤ w.heap.size + 1; omega) _).setCell (p := ⟨w.heap.size + 1, 1, none⟩) (by show w.heap.size ≤ w.heap.size + 1; omega) _⟩
              case measure => simp [intOf]; omega
            · obtain rfl : g = true := by rw [HG.out]; simp; omega
              obtain ⟨k', rfl⟩ : ∃ k', k = k' + 1 := ⟨k - 1, by omega⟩
              obtain ⟨⟨y0, y1⟩, hy⟩ : ∃ y, outS t l (k' + 1) = y := ⟨_, rfl⟩
              rw [hy] at o6 a0 a1
              have O6' := hidOf o6
              have HY := hidOf hy
              dsimp only at a0 a1
              clear o6 hy
              by_cases hcmp : (t + m2) < y0
              · have HFIN : Hid (∀ W : World, W.heap[w.heap.size + 1]? = some (fireO y0 y1) → ((W.setCell ⟨w.heap.size + 1, 0, none⟩ (.int .i64 (t + m2))).setCell ⟨w.heap.size + 1, 1, none⟩ (.int .i64 x0)).heap[w.heap.size + 1]? = some (fireO (outS t l (k' + 1 + 1)).1 (outS t l (k' + 1 + 1)).2)) := fun W hW => by
                  rw [show outS t l (k' + 1 + 1) = ((t + m2), x0) by rw [outS_new t l k' (by omega) (HLL.out _ (List.getElem_mem _)) HTT.out (by rw [HX.out, HAT.out, HY.out]; exact hcmp), HX.out, HAT.out]]
                  exact fire_set hW _ _
                go_wp2_with fail
                go_quiet (fail)
                go_wp2_with fail
                go_roundw
                case rel => exact ⟨k' + 1 + 1, true, by omega, by go_num, rfl, by (show _ = _; simp), HFIN.out _ O6'.out, (cells_set _ _ (by show w.heap.size ≠ w.heap.size + 1; omega)).trans ((cells_set _ _ (by show w.heap.size ≠ w.heap.size + 1; omega)).trans O4.out), by first | exact (hbel.setCell (p := ⟨w.heap.size + 1, 0, none⟩) (by show w.heap.size ≤ w.heap.size + 1; omega) _).setCell (p := ⟨w.heap.size + 1, 1, none⟩) (by show w.heap.size ≤ w.heap.size + 1; omega) _ | exact ((drewN hbel _).setCell (p := ⟨w.heap.size + 1, 0, none⟩) (by show w.heap.size ≤ w.heap.size + 1; omega) _).setCell (p := ⟨w.heap.size + 1, 1, none⟩) (by show w.heap.size ≤ w.heap.size + 1; omega) _⟩
                case measure => simp [intOf]; omega
              · have HOLD : Hid (outS t l (k' + 1 + 1) = (y0, y1)) := by
                  show _ = _
                  rw [outS_old t l k' (by omega) (HLL.out _ (List.getElem_mem _)) HTT.out (by rw [HX.out, HAT.out, HY.out]; exact hcmp), HY.out]
                go_wp2_with fail
                go_quiet (fail)
                go_wp2_with fail
                go_roundw
                case rel => exact ⟨k' + 1 + 1, true, by omega, by go_num, rfl, by (show _ = _; simp), by rw [HOLD.out]; exact O6'.out, O4.out, by first | exact hbel | exact drewN hbel _⟩
                case measure => simp [intOf]; omega
          · obtain rfl : AT = x1 := by rw [← hat]; unfold atS; dsimp only; rw [if_neg hd]
            clear hat
            by_cases hk0 : k = 0
            · have HK0 := hidOf hk0
              obtain rfl : g = false := by rw [HG.out]; simp; omega
              clear hk0
              have HFIN : Hid (∀ W : World, W.heap[w.heap.size + 1]? = some (fireO (outS t l k).1 (outS t l k).2) → ((W.setCell ⟨w.heap.size + 1, 0, none⟩ (.int .i64 AT)).setCell ⟨w.heap.size + 1, 1, none⟩ (.int .i64 x0)).heap[w.heap.size + 1]? = some (fireO (outS t l (k + 1)).1 (outS t l (k + 1)).2)) := fun W hW => by
                have := HK0.out
                subst this
                rw [show outS t l (0 + 1) = (AT, x0) by rw [outS_first t l (by omega) (HLL.out _ (List.getElem_mem _)) HTT.out, HX.out, HAT.out]]
                exact fire_set hW _ _
              go_wp2_with fail
              go_roundw
              case rel => exact ⟨k + 1, true, by omega, by go_num, rfl, by (show _ = _; simp), HFIN.out _ O6.out, (cells_set _ _ (by show w.heap.size ≠ w.heap.size + 1; omega)).trans ((cells_set _ _ (by show w.heap.size ≠ w.heap.size + 1; omega)).trans O4.out), by first | exact (hbel.setCell (p := ⟨w.heap.size + 1, 0, none⟩) (by show w.heap.size ≤ w.heap.size + 1; omega) _).setCell (p := ⟨w.heap.size + 1, 1, none⟩) (by show w.heap.size ≤ w.heap.size + 1; omega) _ | exact ((drewN hbel _).setCell (p := ⟨w.heap.size + 1, 0, none⟩) (by show w.heap.size ≤ w.heap.size + 1; omega) _).setCell (p := ⟨w.heap.size + 1, 1, none⟩) (by show w.heap.size ≤ w.heap.size + 1; omega) _⟩
              case measure => simp [intOf]; omega
            · obtain rfl : g = true := by rw [HG.out]; simp; omega
              obtain ⟨k', rfl⟩ : ∃ k', k = k' + 1 := ⟨k - 1, by omega⟩
              obtain ⟨⟨y0, y1⟩, hy⟩ : ∃ y, outS t l (k' + 1) = y := ⟨_, rfl⟩
              rw [hy] at o6 a0 a1
              have O6' := hidOf o6
              have HY := hidOf hy
              dsimp only at a0 a1
              clear o6 hy
              by_cases hcmp : AT < y0
              · have HFIN : Hid (∀ W : World, W.heap[w.heap.size + 1]? = some (fireO y0 y1) → ((W.setCell ⟨w.heap.size + 1, 0, none⟩ (.int .i64 AT)).setCell ⟨w.heap.size + 1, 1, none⟩ (.int .i64 x0)).heap[w.heap.size + 1]? = some (fireO (outS t l (k' + 1 + 1)).1 (outS t l (k' + 1 + 1)).2)) := fun W hW => by
                  rw [show outS t l (k' + 1 + 1) = (AT, x0) by rw [outS_new t l k' (by omega) (HLL.out _ (List.getElem_mem _)) HTT.out (by rw [HX.out, HAT.out, HY.out]; exact hcmp), HX.out, HAT.out]]
                  exact fire_set hW _ _
                go_wp2_with fail
                go_roundw
                case rel => exact ⟨k' + 1 + 1, true, by omega, by go_num, rfl, by (show _ = _; simp), HFIN.out _ O6'.out, (cells_set _ _ (by show w.heap.size ≠ w.heap.size + 1; omega)).trans ((cells_set _ _ (by show w.heap.size ≠ w.heap.size + 1; omega)).trans O4.out), by first | exact (hbel.setCell (p := ⟨w.heap.size + 1, 0, none⟩) (by show w.heap.size ≤ w.heap.size + 1; omega) _).setCell (p := ⟨w.heap.size + 1, 1, none⟩) (by show w.heap.size ≤ w.heap.size + 1; omega) _ | exact ((drewN hbel _).setCell (p := ⟨w.heap.size + 1, 0, none⟩) (by show w.heap.size ≤ w.heap.size + 1; omega) _).setCell (p := ⟨w.heap.size + 1, 1, none⟩) (by show w.heap.size ≤ w.heap.size + 1; omega) _⟩
                case measure => simp [intOf]; omega
              · have HOLD : Hid (outS t l (k' + 1 + 1) = (y0, y1)) := by
                  show _ = _
                  rw [outS_old t l k' (by omega) (HLL.out _ (List.getElem_mem _)) HTT.out (by rw [HX.out, HAT.out, HY.out]; exact hcmp), HY.out]
                go_wp2_with fail
                go_roundw
                case rel => exact ⟨k' + 1 + 1, true, by omega, by go_num, rfl, by (show _ = _; simp), by rw [HOLD.out]; exact O6'.out, O4.out, by first | exact hbel | exact drewN hbel _⟩
                case measure => simp [intOf]; omega
        · have : k = n := by omega
          subst this
          have a0 : wr.cell? ⟨w.heap.size + 1, 0, none⟩ = some (.int .i64 (outS t l k).1) := (obj_cell o6 0).1
          have a1 : wr.cell? ⟨w.heap.size + 1, 1, none⟩ = some (.int .i64 (outS t l k).2) := (obj_cell o6 1).1
          have g0 : wr.cell? ⟨w.heap.size, 0, none⟩ = some (.int .i64 0) := (obj_cell o4 0).1
          have g1 : wr.cell? ⟨w.heap.size, 1, none⟩ = some (.int .i64 0) := (obj_cell o4 1).1
          have v0 := (obj_cell o4 0).2
          have v1 := (obj_cell o4 1).2
          obtain ⟨hN0, hN1⟩ := HN.out
          rw [← HG.out] at hN1
          rw [← hN0] at a0 a1
          subst hN1
          clear o6 o4 hN0
          go_wp2_with fail
          have c0 : (((wr.setCell ⟨w.heap.size, 0, none⟩ (.int .i64 N0)).setCell ⟨w.heap.size, 1, none⟩ (.int .i64 N1)).cell? ⟨w.heap.size, 0, none⟩) = some (.int .i64 N0) := by simp [go_sem, g0, g1]
          have c1 : (((wr.setCell ⟨w.heap.size, 0, none⟩ (.int .i64 N0)).setCell ⟨w.heap.size, 1, none⟩ (.int .i64 N1)).cell? ⟨w.heap.size, 1, none⟩) = some (.int .i64 N1) := by simp [go_sem, g0, g1]
          refine bodyPost_ret (by simp [results, Try.results17, go_sem, c0, c1]; try rfl) rfl ?_
          exact ⟨rfl, (hbel.setCell (by simp) _).setCell (by simp) _⟩
    · have hN : nextM l t = (0, 0) := by simp [nextM, ht]
      have hI : isNextM l t = false := by simp [isNextM, ht]
      have HIN := hidOf (fun W => (l1In_any t 0 9999 W))
      rw [decide_eq_false ht] at HIN
      rw [hN, hI]
      clear hN hI hlall ht
      go_enter Try.func17, Try.ntmps17
      go_wp2_with fail
      refine (HOK.out _ (by go_grown)).mono ?_
      rintro e w1 ⟨rfl, hb1⟩
      obtain ⟨o0, o1, hbw, hsw⟩ := two_boxes hb1
      have HB1 := hidOf hbw
      have g0 : w1.cell? ⟨w.heap.size, 0, none⟩ = some (.int .i64 0) := (obj_cell o0 0).1
      have g1 : w1.cell? ⟨w.heap.size, 1, none⟩ = some (.int .i64 0) := (obj_cell o0 1).1
      have g2 : w1.cell? ⟨w.heap.size + 1, 0, none⟩ = some (.int .i64 0) := (obj_cell o1 0).1
      have g3 : w1.cell? ⟨w.heap.size + 1, 1, none⟩ = some (.int .i64 0) := (obj_cell o1 1).1
      have f0 := (obj_cell o0 0).2
      have f1 := (obj_cell o0 1).2
      clear hb1 o0 o1 hbw
      go_wp2_with fail
      refine (HIN.out _).mono ?_
      rintro e w2 ⟨rfl, rfl⟩
      go_wp2_with fail
      have c0 : (((w2.setCell ⟨w.heap.size, 0, none⟩ (.int .i64 0)).setCell ⟨w.heap.size, 1, none⟩ (.int .i64 0)).cell? ⟨w.heap.size, 0, none⟩) = some (.int .i64 0) := by simp [go_sem, g0, g1]
      have c1 : (((w2.setCell ⟨w.heap.size, 0, none⟩ (.int .i64 0)).setCell ⟨w.heap.size, 1, none⟩ (.int .i64 0)).cell? ⟨w.heap.size, 1, none⟩) = some (.int .i64 0) := by simp [go_sem, g0, g1]
      refine bodyPost_ret (by simp [results, Try.results17, go_sem, c0, c1]; try rfl) rfl ?_
      exact ⟨rfl, (HB1.out.setCell (by simp) _).setCell (by simp) _⟩
end Go.Proofs.Ytlpdilmdhfemdaa
