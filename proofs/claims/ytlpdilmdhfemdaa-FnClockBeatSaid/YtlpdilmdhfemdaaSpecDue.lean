/- ClockDue of the model. -/
import Derived.Test.YtlpdilmdhfemdaaFireMem
import Derived.Test.YtlpdilmdhfemdaaSpecNext
import Derived.Deep.AppendLies
namespace Go.Proofs.Ytlpdilmdhfemdaa
open Go Go.RowKit Go.PlainAid
set_option linter.unusedSimpArgs false
set_option linter.unusedVariables false

theorem l24At_any (x : Bt) (t : Int) (w : World) (hx : btB x = true) (ht : 0 ≤ t ∧ t ≤ 9999) :
    Calls Try.prog 48 #[.agg #[.int .i64 x.1, .int .i64 x.2.1, .int .i64 x.2.2], .int .i64 t] w fun e w' => e = .returned (.bool (atB x t)) ∧ Below w.heap.size w w' := by
  obtain ⟨s, f, n⟩ := x
  have hb : (0 ≤ s ∧ s ≤ 2) ∧ (0 ≤ f ∧ f ≤ 9999) ∧ (1 ≤ n ∧ n ≤ 9999) := by simpa [btB, and_assoc] using hx
  obtain ⟨_, ⟨hf0, hf1⟩, hn0, hn1⟩ := hb
  obtain ⟨ht0, ht1⟩ := ht
  have w1 : IntKind.i64.wrap (t - f) = t - f := by rw [IntKind.wrap_i64]; omega
  have hz : (n == 0) = false := by simp; omega
  obtain ⟨D, hD⟩ : ∃ D, atB (s, f, n) t = D := ⟨_, rfl⟩
  have HD := hidOf hD
  rw [hD]
  clear hD
  by_cases h1 : f ≤ t
  · obtain ⟨m, hm⟩ : ∃ m, (t - f).tmod n = m := ⟨_, rfl⟩
    have HM := hidOf hm
    have hm2 : (t - f).tmod n = m := hm
    clear hm
    go_enter Try.func48, Try.ntmps48
    go_wp2
    go_ret
    refine ⟨ret_bool ?_, by go_grown⟩
    rw [← HD.out]
    simp [atB, h1, HM.out]
  · go_enter Try.func48, Try.ntmps48
    go_wp2
    go_ret
    refine ⟨ret_bool ?_, by go_grown⟩
    rw [← HD.out]
    unfold atB
    rw [decide_eq_false (show ¬ (s, f, n).2.1 ≤ t by show ¬ f ≤ t; omega)]
    rfl

def spanB (p q : Int) : Bool := decide (0 ≤ p ∧ p ≤ 9999) && decide (p ≤ q ∧ q ≤ 9999) && decide (q - p ≤ 40)
theorem l24Span_any (p q : Int) (w : World) : Calls Try.prog 32 #[.int .i64 p, .int .i64 q] w fun e w' => e = .returned (.bool (spanB p q)) ∧ w' = w := by
  obtain ⟨D, hD⟩ : ∃ D, spanB p q = D := ⟨_, rfl⟩
  have HD := hidOf hD
  rw [hD]
  clear hD
  by_cases h1 : 0 ≤ p ∧ p ≤ 9999
  · by_cases h2 : p ≤ q ∧ q ≤ 9999
    · have w1 : IntKind.i64.wrap (q - p) = q - p := by rw [IntKind.wrap_i64]; omega
      go_enter Try.func32, Try.ntmps32
      go_wp2_with (go_at_call 37; refine (l1In_any _ _ _ _).mono ?_; rintro e w' ⟨rfl, rfl⟩; first | rw [decide_eq_true h1] | rw [decide_eq_true h2])
      go_ret
      exact ⟨ret_bool (by rw [← HD.out]; simp [spanB, h1, h2]), rfl⟩
    · go_enter Try.func32, Try.ntmps32
      go_wp2_with (go_at_call 37; refine (l1In_any _ _ _ _).mono ?_; rintro e w' ⟨rfl, rfl⟩; first | rw [decide_eq_true h1] | rw [decide_eq_false h2])
      go_ret
      exact ⟨ret_bool (by rw [← HD.out]; unfold spanB; rw [decide_eq_false h2]; simp), rfl⟩
  · go_enter Try.func32, Try.ntmps32
    go_wp2_with (go_at_call 37; refine (l1In_any _ _ _ _).mono ?_; rintro e w' ⟨rfl, rfl⟩; rw [decide_eq_false h1])
    go_ret
    exact ⟨ret_bool (by rw [← HD.out]; unfold spanB; rw [decide_eq_false h1]; simp), rfl⟩

theorem infoFr : (Try.prog.info? 32).map (fun i => (i.zero, i.size, i.bytes)) = some (some (.agg #[.int .i64 0, .int .i64 0]), 2, 16) := by kernel_rfl
theorem two_new (w : World) (u v : Value) (t : TypeId) : ∀ j x, [u, v][j]? = some x → (w.alloc (.cells #[u, v] t)).cell? ((⟨w.heap.size, 0, none⟩ : Addr).add j) = some x := by
  intro j x hj
  match j, hj with
  | 0, hj => simp at hj; subst hj; simp [Addr.add]
  | 1, hj => simp at hj; subst hj; simp [Addr.add]

set_option maxRecDepth 100000 in
set_option maxHeartbeats 4000000 in
theorem l24Due_any (B : Nat) (a : Option Addr) (n c : Nat) (l : List Bt) (p q : Int) (w : World) (hB : B ≤ w.heap.size) (hn : n ≤ 3) (hz : IsBts B w a n l) (hl : ∀ x ∈ l, btB x = true) (hs : spanB p q = true) :
    Calls Try.prog 33 #[.slice a n c, .int .i64 p, .int .i64 q] w fun e w' => ∃ v, e = .returned v ∧ OwnF w.heap.size w' v (dueM l p (q - p).toNat) ∧ Below w.heap.size w w' := by
  obtain ⟨i0, hi, hz0, hz1, hz2⟩ := info_parts infoFr
  have hlen := hz.1
  have HZ := hidOf hz
  have HL := hidOf hl
  have hsp : (0 ≤ p ∧ p ≤ 9999) ∧ (p ≤ q ∧ q ≤ 9999) ∧ q - p ≤ 40 := by simpa [spanB, and_assoc] using hs
  obtain ⟨⟨hp0, hp1⟩, ⟨hpq, hq1⟩, hd⟩ := hsp
  obtain ⟨M, hM⟩ : ∃ M, (q - p).toNat = M := ⟨_, rfl⟩
  have HMM : Hid (q = p + M) := by show _ = _; omega
  have hM40 : M ≤ 40 := by omega
  rw [hM]
  clear hz hl hs hM
  go_enter Try.func33, Try.ntmps33
  go_wp2_with fail
  go_loopw [7, 8] (fun u i wr => ∃ k : Nat, k ≤ M ∧ i = .int .i64 (p + k) ∧ Hid (OwnF w.heap.size wr u (dueM l p k)) ∧ Below w.heap.size w wr) (fun _ i _ => M - (intOf i - p).toNat)
  case atStart => exact ⟨0, Nat.zero_le _, by simp, World.ownsRow_lit w #[] 0 (Nat.le_refl _) (by unfold maxLen; omega) rfl, by go_grown⟩
  case round =>
    obtain ⟨k, hk, rfl, HK, hbel⟩ := hrel
    by_cases hlt : k < M
    · have hq := HMM.out
      have hcmp : p + (k : Int) < q := by omega
      obtain ⟨WO, rfl⟩ : ∃ W, W = wr := ⟨wr, rfl⟩
      obtain ⟨T, hT⟩ : ∃ T : Int, p + (k : Int) = T := ⟨_, rfl⟩
      have HT := hidOf hT
      have hT0 : 0 ≤ T ∧ T ≤ 9999 := by omega
      rw [hT] at hcmp ⊢
      clear hT hq
      go_wp2_with fail
      go_loopw [7, 9] (fun u i wr => ∃ j : Nat, j ≤ n ∧ i = .int .i64 j ∧ Hid (OwnF w.heap.size wr u (dueM l p k ++ dueAt (l.take j) T)) ∧ Below w.heap.size w wr) (fun _ i _ => n - (intOf i).toNat)
      case atStart => exact ⟨0, Nat.zero_le _, rfl, by show OwnF _ _ _ _; simpa [dueAt] using HK.out, hbel⟩
      case round =>
        obtain ⟨j, hj, rfl, HJ, hbj⟩ := hrel
        by_cases hjn : j < n
        · obtain ⟨b, off, rfl, hb, q0, q1, q2⟩ := bts_at HZ.out hjn (show j < l.length by omega)
          have hws := hbj.size
          have c0 := (hbj.cell (p := ⟨b, off + j * 3, none⟩) (Nat.lt_of_lt_of_le hb hB)).trans q0
          have c1 := (hbj.cell (p := ⟨b, off + j * 3 + 1, none⟩) (Nat.lt_of_lt_of_le hb hB)).trans q1
          have c2 := (hbj.cell (p := ⟨b, off + j * 3 + 2, none⟩) (Nat.lt_of_lt_of_le hb hB)).trans q2
          have hbr : b < wr.heap.size := by omega
          have hsn := dueAt_snoc l T j (by omega)
          have hxb : btB (l[j]'(by omega)) = true := HL.out _ (List.getElem_mem _)
          have hl1 := dueM_len l k p
          have hl2 := dueAt_len (l.take j) T
          have hl3 : (l.take j).length = j := by simp; omega
          have hl4 : k * l.length ≤ 40 * 3 := Nat.mul_le_mul (by omega) (by omega)
          obtain ⟨⟨x0, x1, x2⟩, hx⟩ : ∃ x, l[j]'(by omega) = x := ⟨_, rfl⟩
          rw [hx] at c0 c1 c2 hsn hxb
          dsimp only at c0 c1 c2 hsn
          have HA := hidOf (l24At_any (x0, x1, x2) T wr hxb hT0)
          have hll : (dueM l p k ++ dueAt (l.take j) T).length ≤ 200 := by rw [List.length_append]; omega
          clear q0 q1 q2 hx hxb hl1 hl2 hl3 hl4
          obtain ⟨L, hL⟩ : ∃ L, dueM l p k ++ dueAt (l.take j) T = L := ⟨_, rfl⟩
          rw [hL] at HJ hll
          cases hat : atB (x0, x1, x2) T with
          | false =>
            rw [hat] at HA hsn
            have HN : Hid (dueM l p k ++ dueAt (l.take (j + 1)) T = L) := by
              show _ = _
              rw [hsn, if_neg (by simp), List.append_nil, hL]
            clear hsn hL hat
            go_wp2_with fail
            refine HA.out.mono ?_
            rintro e w1 ⟨rfl, hb1⟩
            have HB1 := hidOf (hbj.trans (hb1.mono hws))
            have HJ1 := hidOf (HJ.out.keep hb1)
            clear hb1
            go_wp2_with fail
            go_roundw
            case rel => exact ⟨j + 1, by omega, by go_num, by show OwnF _ _ _ _; rw [HN.out]; exact HJ1.out, HB1.out⟩
            case measure => simp [intOf]; omega
          | true =>
            rw [hat] at HA hsn
            have HN : Hid (dueM l p k ++ dueAt (l.take (j + 1)) T = L ++ [(T, x0)]) := by
              show _ = _
              rw [hsn, if_pos rfl, ← List.append_assoc, hL]
            clear hsn hL hat
            go_wp2_with fail
            refine HA.out.mono ?_
            rintro e w1 ⟨rfl, hb1⟩
            have HB1 := hidOf (hbj.trans (hb1.mono hws))
            have HJ1 := hidOf (HJ.out.keep hb1)
            have d0 := (hb1.cell (p := ⟨b, off + j * 3, none⟩) hbr).trans c0
            have hs1 := HB1.out.size
            clear hb1 c0 c1 c2
            go_wp2_with (at_builtin; (refine wpList_append_own _ rfl (.tmp 29) (.tmp 37) 26 rfl w.heap.size 32 i0 (.agg #[.int .i64 0, .int .i64 0]) 2 16 Try.underlying26 hi hz0 hz1 hz2 rfl (by decide) _ L.length (fireCells L) rfl (by exact (World.ownsRow.alloc HJ1.out _)) ⟨w1.heap.size, 0, none⟩ 1 1 [.int .i64 T, .int .i64 x0] rfl rfl (by exact two_new _ _ _ _) (by intro u hu; simp at hu; rcases hu with rfl | rfl <;> rfl) (by unfold maxLen; omega) (by omega) (by simp; omega) ?_))
            intro v' w2 hown' hgrow' _
            have HB2 : Hid (Below w.heap.size w w2) := (HB1.out.alloc (by omega) _).grown hgrow' (by simp; omega) (fun q hq => (World.ownsRow.lt HJ1.out q hq).1)
            have HO2 : Hid (OwnF w.heap.size w2 v' (L ++ [(T, x0)])) := by
              show World.ownsRow _ _ _ _ _ _ _
              rw [List.length_append, fireCells_app]
              exact hown'
            clear hown' hgrow'
            go_wp2_with fail
            go_roundw
            case rel => exact ⟨j + 1, by omega, by go_num, by show OwnF _ _ _ _; rw [HN.out]; exact HO2.out, HB2.out⟩
            case measure => simp [intOf]; omega
        · have : j = n := by omega
          subst this
          have HJ2 : Hid (OwnF w.heap.size wr u7 (dueM l p (k + 1))) := by
            show OwnF _ _ _ _
            rw [dueM_snoc, HT.out]
            have := HJ.out
            rw [List.take_of_length_le (by omega)] at this
            exact this
          have hTw : IntKind.i64.wrap (T + 1) = T + 1 := by rw [IntKind.wrap_i64]; omega
          go_wp2_with fail
          go_roundw
          case rel => exact ⟨k + 1, by omega, by rw [show p + ((k + 1 : Nat) : Int) = T + 1 by have := HT.out; omega], HJ2.out, hbj⟩
          case measure =>
            have := HT.out
            simp [intOf]
            omega
    · have : k = M := by omega
      subst this
      have hcmp : ¬ p + (k : Int) < q := by have := HMM.out; omega
      go_wp2_with fail
      go_ret
      exact ⟨_, rfl, HK.out, hbel⟩
def clockM (l : List Bt) (p q : Int) : List Fr := if (btsB l && spanB p q) = true then dueM l p (q - p).toNat else []
set_option maxRecDepth 100000 in
set_option maxHeartbeats 1600000 in
theorem specClockDue_any (B : Nat) (a : Option Addr) (n c : Nat) (l : List Bt) (p q : Int) (w : World) (hB : B ≤ w.heap.size) (hn : n ≤ 1048576) (hz : IsBts B w a n l) :
    Calls Try.prog 12 #[.slice a n c, .int .i64 p, .int .i64 q] w fun e w' => ∃ v, e = .returned v ∧ OwnF w.heap.size w' v (clockM l p q) ∧ Below w.heap.size w w' := by
  have hlen := hz.1
  have HOK : Hid (∀ W, Below w.heap.size w W → Calls Try.prog 31 #[.slice a n c] W fun e w' => e = .returned (.bool (btsB l)) ∧ Below W.heap.size W w') := fun W hb => l24Ok_any B a n c l W (Nat.le_trans hB hb.size) hn (hz.belowBt (hb.mono hB))
  have HSP := hidOf (fun W => l24Span_any p q W)
  have HDU : Hid (∀ W, Below w.heap.size w W → btsB l = true → spanB p q = true → Calls Try.prog 33 #[.slice a n c, .int .i64 p, .int .i64 q] W fun e w' => ∃ v, e = .returned v ∧ OwnF W.heap.size w' v (dueM l p (q - p).toNat) ∧ Below W.heap.size W w') := fun W hb h1 h2 => by
    have h : l.all btB = true ∧ l.length ≤ 3 := by simpa [btsB] using h1
    exact l24Due_any B a n c l p q W (Nat.le_trans hB hb.size) (by omega) (hz.belowBt (hb.mono hB)) (fun x hx => List.all_eq_true.1 h.1 x hx) h2
  clear hz
  obtain ⟨R, hR⟩ : ∃ R, clockM l p q = R := ⟨_, rfl⟩
  have HR : Hid ((btsB l = true → spanB p q = true → dueM l p (q - p).toNat = R) ∧ ((btsB l && spanB p q) = false → R = [])) := by
    refine ⟨fun h1 h2 => ?_, fun h => ?_⟩
    · rw [← hR]; unfold clockM; rw [h1, h2]; rfl
    · rw [← hR]; unfold clockM; rw [h]; rfl
  rw [hR]
  clear hR
  cases hok : btsB l with
  | false =>
    rw [hok] at HOK HR
    have hR := HR.out.2 rfl
    subst hR
    go_enter Try.func12, Try.ntmps12
    go_wp2_with fail
    refine (HOK.out _ (by first | exact Below.refl _ _ | go_grown)).mono ?_
    rintro e w1 ⟨rfl, hb1⟩
    go_wp2_with fail
    go_ret
    exact ⟨_, rfl, OwnF.nil _ _, hb1⟩
  | true =>
    cases hsp : spanB p q with
    | false =>
      rw [hsp] at HSP
      rw [hok, hsp] at HR
      rw [hok] at HOK
      have hR := HR.out.2 rfl
      subst hR
      go_enter Try.func12, Try.ntmps12
      go_wp2_with fail
      refine (HOK.out _ (by first | exact Below.refl _ _ | go_grown)).mono ?_
      rintro e w1 ⟨rfl, hb1⟩
      go_wp2_with fail
      refine (HSP.out _).mono ?_
      rintro e w2 ⟨rfl, rfl⟩
      go_wp2_with fail
      go_ret
      exact ⟨_, rfl, OwnF.nil _ _, hb1⟩
    | true =>
      have HD2 := hidOf (fun W hb => HDU.out W hb hok hsp)
      rw [HR.out.1 hok hsp] at HD2
      rw [hsp] at HSP
      rw [hok] at HOK
      clear hok hsp HDU HR
      go_enter Try.func12, Try.ntmps12
      go_wp2_with fail
      refine (HOK.out _ (by first | exact Below.refl _ _ | go_grown)).mono ?_
      rintro e w1 ⟨rfl, hb1⟩
      have HB1 := hidOf hb1
      clear hb1
      go_wp2_with fail
      refine (HSP.out _).mono ?_
      rintro e w2 ⟨rfl, rfl⟩
      go_wp2_with fail
      refine (HD2.out _ HB1.out).mono ?_
      rintro e w3 ⟨v, rfl, ho, hb3⟩
      have HO := hidOf ho
      have HB3 := hidOf (HB1.out.trans (hb3.mono HB1.out.size))
      clear ho hb3
      go_wp2_with fail
      go_ret
      exact ⟨v, rfl, ⟨HO.out.1, HO.out.2.imp id (fun ⟨g, cap, cur, h1, h2, h3⟩ => ⟨g, cap, cur, h1, Nat.le_trans HB1.out.size h2, h3⟩)⟩, HB3.out⟩
end Go.Proofs.Ytlpdilmdhfemdaa
