/- For every code of bytes the law FnClockBeat returns true: of the beats and the span that are drawn, what comes is what the model says, by time, as many as of each beat alone, which come each so far apart. No condition. -/
import Derived.Test.YtlpdilmdhfemdaaRows
import Derived.Test.YtlpdilmdhfemdaaBeatM
import Derived.Test.YtlpdilmdhfemdaaTtFires
import Derived.Test.YtlpdilmdhfemdaaDrawClk
import Derived.Test.YtlpdilmdhfemdaaCodes
import Derived.Test.YtlpdilmdhfemdaaBeatOkP
import Derived.WalkKit
import Derived.ProofKit
import Derived.OpenShut
namespace Go.Proofs.Ytlpdilmdhfemdaa.fnClockBeat
open Go Go.ChangeShapes Go.WideShapes Go.ChangeAt Go.RowKit Go.Deep Go.PlainAid
set_option linter.unusedVariables false
set_option linter.unusedSimpArgs false

theorem own : ownKnob Try.prog.godebug = none := by kernel_rfl
theorem laidOut : laidOutB Try.prog = true := by kernel_rfl

set_option maxHeartbeats 8000000 in
set_option maxRecDepth 100000 in
theorem walk (a0 : Option Addr) (n c : Nat) (bs : List Int) (w : World) (hc : n ≤ c) (hm : c ≤ maxLen) (hz : IsBytes w.heap.size w a0 n bs) :
    Calls Try.prog 4 #[.slice a0 n c] w fun e w' => e = .returned (.bool true) ∧ Below w.heap.size w w' := by
  unfold maxLen at hm
  by_cases h1 : 1048576 < n
  · clear hz
    go_enter Try.func4, Try.ntmps4
    go_wp2_with fail
    go_ret
    exact ⟨rfl, Below.refl _ _⟩
  have HD := hidOf (DrawClockDue_any a0 n c bs w hc (by omega) hz)
  clear hz
  go_enter Try.func4, Try.ntmps4
  go_wp2_with fail
  refine HD.out.mono ?_
  rintro e w1 ⟨lv, l, p, q, rfl, hl4, hlo, hp, hq, hb1⟩
  obtain ⟨la, lc, rfl, hlc, hlm, hli⟩ := hlo.is
  have HZ : Hid (∀ W, Below w1.heap.size w1 W → IsBts W.heap.size W la l.length l) := fun W hb => (hli.belowBt hb).monoBt hb.size
  have HZ1 : Hid (IsBts w1.heap.size w1 la l.length l) := hli
  have HB1 := hidOf hb1
  have hl6 : l.length ≤ 1048576 := by omega
  unfold maxLen at hlm
  have HSP := hidOf (fun B a n c w hB hn hz => specClockDue_any B a n c l p q w hB hn hz)
  have HIM := hidOf (fun x B a n c w hB hn hz => implClockDue_any B a n c x p q w hB hn hz)
  have HIM0 := hidOf (HIM.out l)
  have HSORT := hidOf (fun i x y => clockM_sorted (l := l) (p := p) (q := q) (i := i) (x := x) (y := y))
  have HSUM := hidOf (sumK_clock l p q)
  have hrl := clockM_le l p q
  obtain ⟨R, hR⟩ : ∃ R, clockM l p q = R := ⟨_, rfl⟩
  rw [hR] at HSP HIM0 HSORT HSUM hrl
  have HBW : Hid (∀ W, Below w1.heap.size w1 W → Below w.heap.size w W) := fun W hb => HB1.out.trans (hb.mono HB1.out.size)
  clear hb1 hlo hli hR
  go_wp2_with fail
  refine (HIM0.out _ _ _ _ _ (Nat.le_refl _) hl6 (HZ.out _ (Below.refl _ _))).mono ?_
  rintro e w2 ⟨gv, rfl, ho2, bel2⟩
  obtain ⟨ga, gc, rfl, _, hg2⟩ := ho2.free
  have HG2 := hidOf hg2
  have HB2 := hidOf bel2
  clear ho2 hg2 bel2
  go_wp2_with fail
  refine (HSP.out _ _ _ _ _ (Nat.le_refl _) hl6 (HZ.out _ HB2.out)).mono ?_
  rintro e w3 ⟨sv, rfl, ho3, bel3⟩
  obtain ⟨sa, sc, rfl, _, hs3⟩ := ho3.free
  have HS3 := hidOf hs3
  have HG3 := hidOf (HG2.out.keep bel3)
  have HB3 := hidOf (HB2.out.trans (bel3.mono HB2.out.size))
  clear ho3 hs3 bel3
  go_wp2_with fail
  refine (ttFires_same _ _ _ _ _ _ _ R _ (by omega) HG3.out HS3.out).mono ?_
  rintro e w4 ⟨rfl, bel4⟩
  have HG4 := hidOf (HG3.out.keep bel4)
  have HB4 := hidOf (HB3.out.trans (bel4.mono HB3.out.size))
  clear bel4
  go_wp2_with fail
  -- each beat alone
  go_loopw [7, 8] (fun mv i wr => ∃ j : Nat, j ≤ l.length ∧ i = .int .i64 j ∧ mv = .int .i64 (sumK p q (l.take j) : Nat) ∧ Hid (FreeF w1.heap.size wr ga R.length R) ∧ Below w1.heap.size w1 wr) (fun _ i _ => l.length - (intOf i).toNat)
  case atStart => exact ⟨0, Nat.zero_le _, rfl, by simp [sumK], HG4.out, HB4.out⟩
  case round =>
    obtain ⟨j, hj, rfl, rfl, HG, hbel⟩ := hrel
    by_cases hlt : j < l.length
    · obtain ⟨b, off, rfl, hb, q0, q1, q2⟩ := bts_at HZ1.out hlt hlt
      have hws := hbel.size
      have hbr : b < wr.heap.size := by omega
      have hsn := sumK_snoc p q (l.take j) (l[j]'hlt)
      rw [← List.take_succ_eq_append_getElem hlt] at hsn
      have hsl := sumK_le p q (l.take (j + 1))
      have hsl2 := sumK_le p q (l.take j)
      have htl : (l.take (j + 1)).length ≤ 4 := by simp; omega
      have htl2 : (l.take j).length ≤ 4 := by simp; omega
      obtain ⟨⟨x0, x1, x2⟩, hx⟩ : ∃ x, l[j]'hlt = x := ⟨_, rfl⟩
      rw [hx] at q0 q1 q2 hsn
      dsimp only at q0 q1 q2
      have HONE : Hid (∀ W, Below w1.heap.size w1 W → IsBts W.heap.size W (some ⟨b, off + j * 3, none⟩) 1 [(x0, x1, x2)]) := fun W hW => ⟨rfl, .inr ⟨b, off + j * 3, rfl, by have := hW.size; omega, fun i hi => by
        have h0 : i = 0 := by simpa using hi
        subst h0
        refine ⟨_, rfl, fun k u hu => ?_⟩
        rcases k with _ | _ | _ | k
        · simp at hu; subst hu; exact ⟨by omega, by simpa using (hW.cell (p := ⟨b, off + j * 3, none⟩) hb).trans q0⟩
        · simp at hu; subst hu; exact ⟨by omega, by simpa using (hW.cell (p := ⟨b, off + j * 3 + 1, none⟩) hb).trans q1⟩
        · simp at hu; subst hu; exact ⟨by omega, by simpa using (hW.cell (p := ⟨b, off + j * 3 + 2, none⟩) hb).trans q2⟩
        · simp at hu⟩⟩
      have HIM1 := hidOf (HIM.out [(x0, x1, x2)])
      have HK := hidOf (fun k y => one_at_k (x := (x0, x1, x2)) (p := p) (q := q) (k := k) (y := y))
      have hol := clockM_le [(x0, x1, x2)] p q
      obtain ⟨O, hO⟩ : ∃ O, clockM [(x0, x1, x2)] p q = O := ⟨_, rfl⟩
      rw [hO] at HIM1 HK hsn hol
      have HSN := hidOf hsn
      have hjw : IntKind.i64.wrap ((j : Int) + 1) = (j : Int) + 1 := by rw [IntKind.wrap_i64]; omega
      have hmw : IntKind.i64.wrap (((sumK p q (l.take j) : Nat) : Int) + (O.length : Nat)) = ((sumK p q (l.take j) : Nat) : Int) + (O.length : Nat) := by rw [IntKind.wrap_i64]; omega
      clear hx hO hsn hsl hsl2 htl htl2
      go_wp2_with fail
      refine (HIM1.out _ _ _ _ _ (Nat.le_refl _) (by omega) (HONE.out _ hbel)).mono ?_
      rintro e w5 ⟨ov, rfl, ho5, bel5⟩
      obtain ⟨oa, oc, rfl, _, hf5⟩ := ho5.free
      have HF5 := hidOf hf5
      have HG5 := hidOf (HG.out.keep bel5)
      have HB5 := hidOf (hbel.trans (bel5.mono hws))
      have d0 := (HB5.out.cell (p := ⟨b, off + j * 3, none⟩) hb).trans q0
      have d1 := (HB5.out.cell (p := ⟨b, off + j * 3 + 1, none⟩) hb).trans q1
      have d2 := (HB5.out.cell (p := ⟨b, off + j * 3 + 2, none⟩) hb).trans q2
      clear ho5 hf5 bel5 q0 q1 q2
      obtain ⟨WO, rfl⟩ : ∃ W, W = wr := ⟨wr, rfl⟩
      go_wp2_with fail
      go_loopw [10] (fun i wr => ∃ k : Nat, k ≤ O.length ∧ i = .int .i64 k ∧ Below w5.heap.size w5 wr) (fun i _ => O.length - (intOf i).toNat)
      case atStart => exact ⟨0, Nat.zero_le _, rfl, Below.refl _ _⟩
      case round =>
        obtain ⟨k, hk, rfl, hbk⟩ := hrel
        by_cases hko : k < O.length
        · obtain ⟨ob, y0, y1, rfl, hob, hxy, c0, c1⟩ := (HF5.out.keep hbk).at hko
          obtain ⟨hbx, hsp, hye, hyq⟩ := HK.out k _ hxy
          have hb4 : (0 ≤ x0 ∧ x0 ≤ 2) ∧ (0 ≤ x1 ∧ x1 ≤ 9999) ∧ (1 ≤ x2 ∧ x2 ≤ 9999) := by simpa [btB, and_assoc] using hbx
          obtain ⟨_, ⟨hf0, hf1⟩, hn0, hn1⟩ := hb4
          have hge := atS_ge (t := p) hbx
          have hmod := at_comes_k (t := p) hbx k
          have hkx : 0 ≤ (k : Int) * x2 := Int.mul_nonneg (by omega) (by omega)
          have hy0 : y0 = atS p (x0, x1, x2) + k * x2 := congrArg Prod.fst hye
          have hy1 : y1 = x0 := congrArg Prod.snd hye
          dsimp only at hyq hmod
          rw [← hy0] at hmod
          have hbl1 : decide (y0 < p) = false := by simp; omega
          have hbl2 : decide (q ≤ y0) = false := by simp; omega
          have hpy : p ≤ y0 := by omega
          have hw0 : IntKind.i64.wrap (y0 - x1) = y0 - x1 := by rw [IntKind.wrap_i64]; omega
          have hz2 : (x2 == 0) = false := by simp; omega
          have hz3 : ¬ x2 = 0 := by omega
          have e0 := (hbk.cell (p := ⟨b, off + j * 3, none⟩) (Nat.lt_of_lt_of_le hb HB5.out.size)).trans d0
          have e1 := (hbk.cell (p := ⟨b, off + j * 3 + 1, none⟩) (Nat.lt_of_lt_of_le hb HB5.out.size)).trans d1
          have e2 := (hbk.cell (p := ⟨b, off + j * 3 + 2, none⟩) (Nat.lt_of_lt_of_le hb HB5.out.size)).trans d2
          subst hy1
          by_cases hk0 : k = 0
          · as_aux_lemma =>
              have hkc : ¬ (0 : Int) < (k : Int) := by omega
              have hkd : decide (0 < k) = false := by simp; omega
              clear hye hy0 hge hkx hbx hsp hk0
              go_wp2_with fail
              go_quiet (fail)
              go_wp2_with fail
              go_roundw
              case rel => exact ⟨k + 1, by omega, by go_num, drewN hbk _⟩
              case measure => simp [intOf]; omega
          · as_aux_lemma =>
              obtain ⟨m, hm1⟩ : ∃ m, k = m + 1 := ⟨k - 1, by omega⟩
              have hmo : m < O.length := by omega
              obtain ⟨ob', z0, z1, e', hob', hxz, c0', c1'⟩ := (HF5.out.keep hbk).at (k := m) hmo
              cases e'
              have hz0 : z0 = atS p (y1, x1, x2) + m * x2 := congrArg Prod.fst (HK.out m _ hxz).2.2.1
              have hyz : y0 = z0 + x2 := by
                rw [hy0, hz0, hm1, show ((m + 1 : Nat) : Int) = (m : Int) + 1 by omega, Int.add_mul]
                omega
              have hw1 : IntKind.i64.wrap (z0 + x2) = y0 := by rw [IntKind.wrap_i64]; omega
              have hwm : IntKind.i64.wrap ((k : Int) - 1) = m := by rw [IntKind.wrap_i64]; omega
              have hkc : (0 : Int) < (k : Int) := by omega
              have hkd : decide (0 < k) = true := by simp; omega
              clear hye hy0 hge hkx hbx hsp hk0 hz0 hxz hxy hyz hm1
              go_wp2_with fail
              go_quiet (fail)
              go_wp2_with fail
              go_roundw
              case rel => exact ⟨k + 1, by omega, by go_num, drewN hbk _⟩
              case measure => simp [intOf]; omega
        · have : k = O.length := by omega
          subst this
          have hsm : ((sumK p q (l.take (j + 1)) : Nat) : Int) = ((sumK p q (l.take j) : Nat) : Int) + (O.length : Nat) := by rw [HSN.out]; omega
          have HG6 := hidOf (HG5.out.keep hbk)
          have HB6 := hidOf (HB5.out.trans (hbk.mono HB5.out.size))
          have HSM := hidOf hsm
          clear hsm
          go_wp2_with fail
          go_roundw
          case rel => exact ⟨j + 1, by omega, by go_num, by rw [HSM.out], HG6.out, HB6.out⟩
          case measure => simp [intOf]; omega
    · have : j = l.length := by omega
      subst this
      have hall := HSUM.out
      rw [List.take_length]
      have hsl3 := sumK_le p q l
      go_wp2_with fail
      -- all by time
      go_loopw [11] (fun i wr' => ∃ k : Nat, 1 ≤ k ∧ (k ≤ R.length ∨ k = 1) ∧ i = .int .i64 k ∧ Below wr.heap.size wr wr') (fun i _ => R.length - (intOf i).toNat)
      case atStart => exact ⟨1, Nat.le_refl _, .inr rfl, rfl, Below.refl _ _⟩
      case round =>
        obtain ⟨k, hk1, hk2, rfl, hbk⟩ := hrel
        by_cases hkr : k < R.length
        · as_aux_lemma =>
            obtain ⟨m, hm1⟩ : ∃ m, k = m + 1 := ⟨k - 1, by omega⟩
            have hmo : m < R.length := by omega
            obtain ⟨ob, y0, y1, rfl, hob, hxy, c0, c1⟩ := (HG.out.keep hbk).at hkr
            obtain ⟨ob', z0, z1, e', hob', hxz, c0', c1'⟩ := (HG.out.keep hbk).at (k := m) hmo
            cases e'
            have hle : z0 ≤ y0 := HSORT.out m _ _ hxz (by rw [← hm1]; exact hxy)
            have hwm : IntKind.i64.wrap ((k : Int) - 1) = m := by rw [IntKind.wrap_i64]; omega
            have hbl : decide (y0 < z0) = false := by simp; omega
            clear hxy hxz hm1
            go_wp2_with fail
            go_quiet (fail)
            go_wp2_with fail
            go_roundw
            case rel => exact ⟨k + 1, by omega, by omega, by go_num, drewN hbk _⟩
            case measure => simp [intOf]; omega
        · as_aux_lemma =>
            have HB7 := hidOf (hbel.trans (hbk.mono hbel.size))
            rcases hall with hs | hs
            · rw [hs] at hkr ⊢
              go_wp2_with fail
              go_ret
              exact ⟨ret_bool (by simp), HBW.out _ HB7.out⟩
            · have HCK : Hid (∀ W, Below w1.heap.size w1 W → Calls Try.prog 13 #[.slice la l.length lc] W fun e w' => e = .returned (.bool false) ∧ Below W.heap.size W w') := fun W hb => (implClockOk_any _ _ _ _ l _ (Nat.le_refl _) hl6 (HZ.out _ hb)).mono (fun e w' h => ⟨by rw [h.1, hs], h.2⟩)
              by_cases hls : R.length = sumK p q l
              · rw [hls] at hkr ⊢
                go_wp2_with fail
                go_ret
                exact ⟨ret_bool (by simp), HBW.out _ HB7.out⟩
              · have hlb : ((R.length : Int) == ((sumK p q l : Nat) : Int)) = false := by simp; omega
                go_wp2_with fail
                refine (HCK.out _ HB7.out).mono ?_
                rintro e w6 ⟨rfl, bel6⟩
                have HB8 := hidOf (HB7.out.trans (bel6.mono HB7.out.size))
                clear bel6
                go_wp2_with fail
                go_ret
                exact ⟨ret_bool (by simp), HBW.out _ HB8.out⟩

/-! ### THE ROW's STEP -/
set_option maxRecDepth 100000 in
theorem lifted (os : Os) (started : os.Started) (H : Type) (enc : TypeId × Value → H) :
    ReturnsInHanded {} Try.checked os 4 .any (Rows.fnClockBeatSpec.pre6 enc Try.prog Try.f4 Rows.fnClockBeatRow.domain false) (Rows.fnClockBeatSpec.post enc Try.prog Try.f4 false true false false) := by
  refine returnsInHanded_of_change (C := Try.checked) own started (by kernel_rfl) Try.func4
    (ChangeSpec.witness6 (enc := enc) (C := Try.checked) false ⟨#[], #[.slice none 0 0], []⟩ 8 (by kernel_rfl) (by kernel_rfl) (by kernel_rfl) (by kernel_rfl)) ?_
  intro W base args ds gs before hval0 hW hcnd _
  have hval : ∀ (j : Nat) t v, Try.f4.params[j]? = some t → args[j]? = some v → Value.okWide Try.prog W .any base t v := hval0
  have hW' := hW
  obtain ⟨p, q, hA0, hV, rfl, hfz, hnd⟩ := hW
  have hA : DataW.TrodAll enc Try.prog W 0 (fun _ => true) true Try.f4.params.toList args.toList ds p := hA0
  rw [Try.params4] at hA hval
  obtain ⟨v0, vs0, d0, ds0, p0, q0, hargs, rfl, rfl, h0, r0⟩ := trodAll_cons hA
  obtain ⟨rfl, rfl, rfl⟩ := trodAll_nil r0
  obtain rfl : args = #[v0] := by cases args; simp_all
  obtain ⟨rfl, rfl⟩ := trodVars_none hV
  obtain ⟨a0, len0, cap0, rfl⟩ := okWide_slice Try.underlying22 (hval 0 22 v0 rfl rfl)
  have k0 := h0
  have lt0 : ∀ x ∈ p0, x.block < W.heap.size := by obtain ⟨m, hm⟩ := k0; exact DataW.trod_lt m _ _ _ hm
  obtain ⟨fuel0, hf0⟩ := h0
  obtain ⟨hc0, hm0, bs, w0⟩ := open_code rfl hf0
  clear hA0 hval0
  refine (walk a0 len0 cap0 bs W hc0 hm0 w0).mono fun e W' ⟨he, bel⟩ => ?_
  subst he
  exact ⟨_, rfl, _, _, _, [], _, [], hW', trodAll_mk1 (shut_bool Try.underlying4 _), (trodAll_cons_mk (Below.trod laidOut (by kernel_rfl) (of_decide_eq_true (by kernel_rfl)) k0 bel lt0) trodAll_mk0), rfl, bel.frame _, fun h => by cases h⟩

theorem over : Rows.fnClockBeatRow.holds Try.pinned (OpenSpec.ofChange Rows.fnClockBeatSpec) :=
  OpenClaim.holds_of_wide 4 Try.f4 rfl rfl rfl rfl rfl rfl rfl ⟨rfl, rfl, rfl, rfl, rfl⟩ rfl rfl rfl rfl rfl (by kernel_rfl) Try.func4 (by kernel_rfl)
    (of_decide_eq_true (by kernel_rfl)) (by unfold Func.isWrapper; first | (rw [if_pos (by decide +kernel)]; kernel_rfl) | (rw [if_neg (by decide +kernel)]; exact ⟨rfl, rfl⟩))
    (fun os started H enc _ => lifted os started H enc)

theorem proved : Rows.FnClockBeatSaid := over
#print axioms proved
end Go.Proofs.Ytlpdilmdhfemdaa.fnClockBeat
