/- For every list of beats and every span the law FnExactClockDue returns true: ClockDue of the program answers as the model's, its argument reads as before, and its answer owns its memory. No condition. -/
import Derived.Test.YtlpdilmdhfemdaaRows
import Derived.Test.YtlpdilmdhfemdaaDueP
import Derived.Test.YtlpdilmdhfemdaaFireLaw
import Derived.Test.YtlpdilmdhfemdaaOpenBt
import Derived.WalkKit
import Derived.ProofKit
import Derived.OpenShut
namespace Go.Proofs.Ytlpdilmdhfemdaa.fnExactClockDue
open Go Go.ChangeShapes Go.WideShapes Go.ChangeAt Go.RowKit Go.Deep Go.PlainAid
set_option linter.unusedVariables false
set_option linter.unusedSimpArgs false

theorem own : ownKnob Try.prog.godebug = none := by kernel_rfl
theorem laidOut : laidOutB Try.prog = true := by kernel_rfl

theorem spare_le {l : List Bt} {p q : Int} : (clockM l p q).length ≤ 200 := by
  unfold clockM
  split
  · rename_i h
    have h2 : (l.all btB = true ∧ l.length ≤ 3) ∧ (0 ≤ p ∧ p ≤ 9999) ∧ (p ≤ q ∧ q ≤ 9999) ∧ q - p ≤ 40 := by simpa [btsB, spanB, and_assoc] using h
    have h1 := dueM_len l (q - p).toNat p
    have h3 : (q - p).toNat * l.length ≤ 40 * 3 := Nat.mul_le_mul (by omega) h2.1.2
    omega
  · simp
set_option maxHeartbeats 8000000 in
set_option maxRecDepth 100000 in
theorem walk (a0 : Option Addr) (n cap : Nat) (l : List Bt) (p q : Int) (w : World) (hm : n ≤ maxLen) (hz : IsBts w.heap.size w a0 n l) :
    Calls Try.prog 7 #[.slice a0 n cap, .int .i64 p, .int .i64 q] w fun e w' => e = .returned (.bool true) ∧ Below w.heap.size w w' := by
  unfold maxLen at hm
  have HZ : Hid (∀ W, Below w.heap.size w W → IsBts w.heap.size W a0 n l) := fun W hb => hz.belowBt hb
  have hlen := hz.1
  clear hz
  by_cases hn : n ≤ 1048576
  · have HTO : Hid (∀ W, Below w.heap.size w W → Calls Try.prog 19 #[.slice a0 n cap] W fun e w' => ∃ b, e = .returned (.slice (some ⟨b, 0, none⟩) n n) ∧ W.heap.size ≤ b ∧ b < w'.heap.size ∧ (∀ j, w'.frozen? ⟨b, j, none⟩ = false) ∧ IsBts w'.heap.size w' (some ⟨b, 0, none⟩) n l ∧ Below W.heap.size W w') := fun W hb => toBeatS_any w.heap.size a0 n cap l W hn hb.size (HZ.out W hb)
    have HRL := hidOf (spare_le (l := l) (p := p) (q := q))
    have HSP := hidOf (fun B a n c w hB hn hz => specClockDue_any B a n c l p q w hB hn hz)
    have HIM := hidOf (fun B a n c w hB hn hz => implClockDue_any B a n c l p q w hB hn hz)
    obtain ⟨R, hR⟩ : ∃ R, clockM l p q = R := ⟨_, rfl⟩
    rw [hR] at HSP HIM HRL
    clear hR
    have hrl := HRL.out
    go_enter Try.func7, Try.ntmps7
    go_wp2_with fail
    refine (szBeatS_any _ _ _ _ _ (by omega) (by omega) (by omega)).mono ?_
    rintro e w1 ⟨rfl, rfl⟩
    rw [if_neg (by omega)]
    go_wp2_with fail
    refine (HTO.out _ (Below.refl _ _)).mono ?_
    rintro e w2 ⟨b2, rfl, _, _, _, hz2, bel2⟩
    have HZ2 := hidOf hz2
    have HB2 := hidOf bel2
    clear hz2 bel2
    -- the model's answer
    go_wp2_with fail
    refine (HSP.out _ _ _ _ _ (Nat.le_refl _) hn HZ2.out).mono ?_
    rintro e w3 ⟨sv, rfl, ho3, bel3⟩
    obtain ⟨sa, sc, rfl, _, hs3⟩ := ho3.free
    have HS3 := hidOf hs3
    have HB3 := hidOf (HB2.out.trans (bel3.mono HB2.out.size))
    clear ho3 hs3 bel3
    -- the program's argument
    go_wp2_with fail
    refine (HTO.out _ HB3.out).mono ?_
    rintro e w4 ⟨b4, rfl, hb4, hb4', hf4, hz4, bel4⟩
    have HZ4 := hidOf hz4
    have HF4 := hidOf hf4
    have HS4 := hidOf (HS3.out.keep bel4)
    have HB4 := hidOf (HB3.out.trans (bel4.mono HB3.out.size))
    have HK4 := hidOf bel4
    clear hz4 bel4 hf4
    -- the program's answer
    go_wp2_with fail
    refine (HIM.out _ _ _ _ _ (Nat.le_refl _) hn HZ4.out).mono ?_
    rintro e w5 ⟨gv, rfl, ho5, bel5⟩
    obtain ⟨ga, gc, rfl, _, hg5⟩ := ho5.free
    have HG5 := hidOf hg5
    have HS5 := hidOf (HS4.out.keep bel5)
    have HZ5 := hidOf ((HZ4.out.belowBt bel5).monoBt bel5.size)
    have HF5 : Hid (∀ j, w5.frozen? ⟨b4, j, none⟩ = false) := fun j => (bel5.frozen (p := ⟨b4, j, none⟩) hb4').trans (HF4.out j)
    have HB5 := hidOf (HB4.out.trans (bel5.mono HB4.out.size))
    have HK5 := hidOf bel5
    have hb5 : b4 < w5.heap.size := Nat.lt_of_lt_of_le hb4' bel5.size
    clear ho5 hg5 bel5
    go_wp2_with fail
    refine (eqFireS_same _ _ _ _ _ _ _ R _ (by omega) HG5.out HS5.out).mono ?_
    rintro e w6 ⟨rfl, bel6⟩
    have HG6 := hidOf (HG5.out.keep bel6)
    have HS6 := hidOf (HS5.out.keep bel6)
    have HZ6 := hidOf ((HZ5.out.belowBt bel6).monoBt bel6.size)
    have HF6 : Hid (∀ j, w6.frozen? ⟨b4, j, none⟩ = false) := fun j => (bel6.frozen (p := ⟨b4, j, none⟩) hb5).trans (HF5.out j)
    have HB6 := hidOf (HB5.out.trans (bel6.mono HB5.out.size))
    have hb6 : b4 < w6.heap.size := Nat.lt_of_lt_of_le hb5 bel6.size
    clear bel6
    go_wp2_with fail
    refine (HTO.out _ HB6.out).mono ?_
    rintro e w7 ⟨b7, rfl, _, _, _, hz7, bel7⟩
    have HZ7 := hidOf hz7
    have HZ7' := hidOf ((HZ6.out.belowBt bel7).monoBt bel7.size)
    have HG7 := hidOf (HG6.out.keep bel7)
    have HS7 := hidOf (HS6.out.keep bel7)
    have HF7 : Hid (∀ j, w7.frozen? ⟨b4, j, none⟩ = false) := fun j => (bel7.frozen (p := ⟨b4, j, none⟩) hb6).trans (HF6.out j)
    have HB7 := hidOf (HB6.out.trans (bel7.mono HB6.out.size))
    have hb7 : b4 < w7.heap.size := Nat.lt_of_lt_of_le hb6 bel7.size
    clear hz7 bel7
    go_wp2_with fail
    refine (eqBeatS_same _ _ _ _ _ _ l _ hn (Nat.le_refl _) HZ7'.out HZ7.out).mono ?_
    rintro e w8 ⟨rfl, bel8⟩
    have HZ8 := hidOf ((HZ7'.out.belowBt bel8).monoBt bel8.size)
    have HG8 := hidOf (HG7.out.keep bel8)
    have HS8 := hidOf (HS7.out.keep bel8)
    have HF8 : Hid (∀ j, w8.frozen? ⟨b4, j, none⟩ = false) := fun j => (bel8.frozen (p := ⟨b4, j, none⟩) hb7).trans (HF7.out j)
    have HB8 := hidOf (HB7.out.trans (bel8.mono HB7.out.size))
    have hb8 : b4 < w8.heap.size := Nat.lt_of_lt_of_le hb7 bel8.size
    clear bel8
    have HOP : Hid (n = 0 ∨ Open b4 (n * 3) w8) := by
      by_cases h0 : n = 0
      · exact .inl h0
      · refine .inr ⟨hb8, fun j hj => ⟨?_, HF8.out j⟩⟩
        have hj3 : j / 3 < n := by omega
        obtain ⟨b', off, e, _, q0, q1, q2⟩ := bts_at HZ8.out hj3 (show j / 3 < l.length by rw [HZ8.out.1]; exact hj3)
        have e1 : b4 = b' ∧ 0 = off := by simpa using e
        obtain ⟨rfl, rfl⟩ := e1
        rw [Nat.zero_add] at q0 q1 q2
        by_cases e0 : j % 3 = 0
        · rw [show j / 3 * 3 = j by omega] at q0; exact ⟨_, q0⟩
        · by_cases e1 : j % 3 = 1
          · rw [show j / 3 * 3 + 1 = j by omega] at q1; exact ⟨_, q1⟩
          · rw [show j / 3 * 3 + 2 = j by omega] at q2; exact ⟨_, q2⟩
    -- the marks in the argument
    go_wp2_with fail
    refine (markBeatS_any b4 n n 1 _ HOP.out hn (by omega) (by omega)).mono ?_
    rintro e w9 ⟨rfl, but9⟩
    have hne9 : ¬ (1 + 3 * (n : Int)) < 0 := by omega
    have HB9 : Hid (Below w1.heap.size w1 w9) := HB8.out.trans (but9.below HB8.out.size (fun b e hn0 => by
      have h1 : b4 = b := by simpa using e
      have h2 := HB3.out.size
      omega))
    have HG9 : Hid (FreeF w4.heap.size w9 ga R.length R) := HG8.out.of_block but9.size (fun b e hn0 hB hl => but9.block b hl (fun b' e' _ => by
      have h1 : b4 = b' := by simpa using e'
      omega))
    have HS9 : Hid (FreeF w2.heap.size w9 sa R.length R) := HS8.out.of_block but9.size (fun b e hn0 hB hl => but9.block b hl (fun b' e' _ => by
      have h1 : b4 = b' := by simpa using e'
      rcases HS3.out.there with h0 | ⟨b'', e'', h3, h4, _⟩
      · exact absurd h0 hn0
      · have h5 : b = b'' := by rw [e] at e''; simpa using e''
        omega))
    clear but9
    go_wp2_with fail
    refine (eqFireS_same _ _ _ _ _ _ _ R _ (by omega) HG9.out HS9.out).mono ?_
    rintro e w10 ⟨rfl, bel10⟩
    have HG10 := hidOf (HG9.out.keep bel10)
    have HS10 := hidOf (HS9.out.keep bel10)
    have HB10 := hidOf (HB9.out.trans (bel10.mono HB9.out.size))
    clear bel10
    -- the marks in the answer
    go_wp2_with fail
    refine (markFireS_any _ ga R.length gc R 1 _ HG10.out (by omega) (by omega) (by omega)).mono ?_
    rintro e w11 ⟨rfl, hg11, but11⟩
    have HG11 := hidOf hg11
    have HS11 : Hid (FreeF w2.heap.size w11 sa R.length R) := HS10.out.of_block but11.size (fun b e hn0 hB hl => but11.block b hl (fun b' e' _ => by
      rcases HS3.out.there with h0 | ⟨b'', e'', h3, h4, _⟩
      · exact absurd h0 hn0
      · have h5 : b = b'' := by rw [e] at e''; simpa using e''
        rcases HG10.out.there with h0 | ⟨b3, e3, h6, _⟩
        · exact absurd h0 hn0
        · have h7 : b' = b3 := by rw [e'] at e3; simpa using e3
          have h8 := HK4.out.size
          omega))
    have HB11 : Hid (Below w1.heap.size w1 w11) := HB10.out.trans (but11.below HB10.out.size (fun b e hn0 => by
      rcases HG10.out.there with h0 | ⟨b3, e3, h6, _⟩
      · exact absurd h0 hn0
      · have h7 : b = b3 := by rw [e] at e3; simpa using e3
        have h8 := HB4.out.size
        omega))
    clear but11 hg11
    go_wp2_with fail
    refine (heldFireS_any _ ga R.length gc 1 _ HG11.out (by omega) (by omega) (by omega)).mono ?_
    rintro e w12 ⟨rfl, rfl⟩
    have hh12 : ¬ (1 + 2 * (R.length : Int)) < 0 := by omega
    -- behind another call
    go_wp2_with fail
    refine (HTO.out _ HB11.out).mono ?_
    rintro e w13 ⟨b13, rfl, _, _, _, hz13, bel13⟩
    have HZ13 := hidOf hz13
    have HG13 := hidOf (HG11.out.keep bel13)
    have HS13 := hidOf (HS11.out.keep bel13)
    have HB13 := hidOf (HB11.out.trans (bel13.mono HB11.out.size))
    clear hz13 bel13
    go_wp2_with fail
    refine (HIM.out _ _ _ _ _ (Nat.le_refl _) hn HZ13.out).mono ?_
    rintro e w14 ⟨hv, rfl, ho14, bel14⟩
    obtain ⟨ha, hc, rfl, _, hh14⟩ := ho14.free
    have HH14 := hidOf hh14
    have HG14 := hidOf (HG13.out.keep bel14)
    have HS14 := hidOf (HS13.out.keep bel14)
    have HB14 := hidOf (HB13.out.trans (bel14.mono HB13.out.size))
    clear ho14 hh14 bel14
    go_wp2_with fail
    refine (eqFireS_same _ _ _ _ _ _ _ R _ (by omega) HH14.out HS14.out).mono ?_
    rintro e w15 ⟨rfl, bel15⟩
    have HG15 := hidOf (HG14.out.keep bel15)
    have HB15 := hidOf (HB14.out.trans (bel15.mono HB14.out.size))
    clear bel15
    go_wp2_with fail
    refine (heldFireS_any _ ga R.length gc 1 _ HG15.out (by omega) (by omega) (by omega)).mono ?_
    rintro e w16 ⟨rfl, rfl⟩
    go_wp2_with fail
    go_ret
    exact ⟨rfl, HB15.out⟩
  · go_enter Try.func7, Try.ntmps7
    go_wp2_with fail
    refine (szBeatS_any _ _ _ _ _ (by omega) (by omega) (by omega)).mono ?_
    rintro e w1 ⟨rfl, rfl⟩
    rw [if_pos (by omega)]
    go_wp2_with fail
    go_ret
    exact ⟨rfl, Below.refl _ _⟩

/-! ### THE ROW's STEP -/
set_option maxRecDepth 100000 in
theorem lifted (os : Os) (started : os.Started) (H : Type) (enc : TypeId × Value → H) :
    ReturnsInHanded {} Try.checked os 7 .any (Rows.fnExactClockDueSpec.pre6 enc Try.prog Try.f7 Rows.fnExactClockDueRow.domain false) (Rows.fnExactClockDueSpec.post enc Try.prog Try.f7 false true false false) := by
  refine returnsInHanded_of_change (C := Try.checked) own started (by kernel_rfl) Try.func7
    (ChangeSpec.witness6 (enc := enc) (C := Try.checked) false ⟨#[], #[.slice none 0 0, .int .i64 0, .int .i64 0], []⟩ 8 (by kernel_rfl) (by kernel_rfl) (by kernel_rfl) (by kernel_rfl)) ?_
  intro W base args ds gs before hval0 hW hcnd _
  have hval : ∀ (j : Nat) t v, Try.f7.params[j]? = some t → args[j]? = some v → Value.okWide Try.prog W .any base t v := hval0
  have hW' := hW
  obtain ⟨p, q, hA0, hV, rfl, hfz, hnd⟩ := hW
  have hA : DataW.TrodAll enc Try.prog W 0 (fun _ => true) true Try.f7.params.toList args.toList ds p := hA0
  rw [Try.params7] at hA hval
  obtain ⟨v0, vs0, d0, ds0, p0, q0, hargs, rfl, rfl, h0, r0⟩ := trodAll_cons hA
  obtain ⟨v1, vs1, d1, ds1, p1, q1, rfl, rfl, rfl, h1, r1⟩ := trodAll_cons r0
  obtain ⟨v2, vs2, d2, ds2, p2, q2, rfl, rfl, rfl, h2, r2⟩ := trodAll_cons r1
  obtain ⟨rfl, rfl, rfl⟩ := trodAll_nil r2
  obtain rfl : args = #[v0, v1, v2] := by cases args; simp_all
  obtain ⟨rfl, rfl⟩ := trodVars_none hV
  obtain ⟨a0, n, c, rfl⟩ := okWide_slice Try.underlying40 (hval 0 40 v0 rfl rfl)
  have k0 := h0
  have lt0 : ∀ x ∈ p0, x.block < W.heap.size := by obtain ⟨m, hm⟩ := k0; exact DataW.trod_lt m _ _ _ hm
  obtain ⟨fuel0, hf0⟩ := h0
  obtain ⟨l, ⟨hc, hm⟩, hz⟩ := open_Beats (a0 := a0) (len0 := n) (cap0 := c) hf0
  obtain ⟨a1, rfl, rfl, rfl, w1⟩ := open_int Try.underlying3 (hval 1 3 v1 rfl rfl) h1
  obtain ⟨a2, rfl, rfl, rfl, w2⟩ := open_int Try.underlying3 (hval 2 3 v2 rfl rfl) h2
  clear hA0 hval0
  refine (walk a0 n c l a1 a2 W (Nat.le_trans hc hm) hz).mono fun e W' ⟨he, bel⟩ => ?_
  subst he
  exact ⟨_, rfl, _, _, _, [], _, [], hW', trodAll_mk1 (shut_bool Try.underlying4 _), (trodAll_cons_mk (Below.trod laidOut (by kernel_rfl) (of_decide_eq_true (by kernel_rfl)) k0 bel lt0) (trodAll_cons_mk (shut_int Try.underlying3 w1) (trodAll_cons_mk (shut_int Try.underlying3 w2) trodAll_mk0))), rfl, bel.frame _, fun h => by cases h⟩

theorem over : Rows.fnExactClockDueRow.holds Try.pinned (OpenSpec.ofChange Rows.fnExactClockDueSpec) :=
  OpenClaim.holds_of_wide 7 Try.f7 rfl rfl rfl rfl rfl rfl rfl ⟨rfl, rfl, rfl, rfl, rfl⟩ rfl rfl rfl rfl rfl (by kernel_rfl) Try.func7 (by kernel_rfl)
    (of_decide_eq_true (by kernel_rfl)) (by unfold Func.isWrapper; first | (rw [if_pos (by decide +kernel)]; kernel_rfl) | (rw [if_neg (by decide +kernel)]; exact ⟨rfl, rfl⟩))
    (fun os started H enc _ => lifted os started H enc)

theorem proved : Rows.FnExactClockDueSaid := over
#print axioms proved
end Go.Proofs.Ytlpdilmdhfemdaa.fnExactClockDue
