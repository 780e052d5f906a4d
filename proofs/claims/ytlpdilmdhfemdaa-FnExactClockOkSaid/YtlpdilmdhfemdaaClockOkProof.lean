/- For every list of beats the law FnExactClockOk returns true: ClockOk of the program answers as the model's, and its argument reads as before. No condition. -/
import Derived.Test.YtlpdilmdhfemdaaRows
import Derived.Test.YtlpdilmdhfemdaaBeatOkP
import Derived.Test.YtlpdilmdhfemdaaOpenBt
import Derived.WalkKit
import Derived.ProofKit
import Derived.OpenShut
namespace Go.Proofs.Ytlpdilmdhfemdaa.fnExactClockOk
open Go Go.ChangeShapes Go.WideShapes Go.ChangeAt Go.RowKit Go.Deep Go.PlainAid
set_option linter.unusedVariables false
set_option linter.unusedSimpArgs false

theorem own : ownKnob Try.prog.godebug = none := by kernel_rfl
theorem laidOut : laidOutB Try.prog = true := by kernel_rfl

set_option maxHeartbeats 1600000 in
set_option maxRecDepth 100000 in
theorem walk (a0 : Option Addr) (n cap : Nat) (l : List Bt) (w : World) (hm : n ≤ maxLen) (hz : IsBts w.heap.size w a0 n l) :
    Calls Try.prog 6 #[.slice a0 n cap] w fun e w' => e = .returned (.bool true) ∧ Below w.heap.size w w' := by
  unfold maxLen at hm
  have HZ : Hid (∀ W, Below w.heap.size w W → IsBts w.heap.size W a0 n l) := fun W hb => hz.belowBt hb
  clear hz
  by_cases hn : n ≤ 1048576
  · have HTO : Hid (∀ W, Below w.heap.size w W → Calls Try.prog 19 #[.slice a0 n cap] W fun e w' => ∃ b, e = .returned (.slice (some ⟨b, 0, none⟩) n n) ∧ W.heap.size ≤ b ∧ b < w'.heap.size ∧ (∀ j, w'.frozen? ⟨b, j, none⟩ = false) ∧ IsBts w'.heap.size w' (some ⟨b, 0, none⟩) n l ∧ Below W.heap.size W w') := fun W hb => toBeatS_any w.heap.size a0 n cap l W hn hb.size (HZ.out W hb)
    go_enter Try.func6, Try.ntmps6
    go_wp2_with fail
    refine (szBeatS_any _ _ _ _ _ (by omega) (by omega) (by omega)).mono ?_
    rintro e w1 ⟨rfl, rfl⟩
    rw [if_neg (by omega)]
    go_wp2_with fail
    refine (HTO.out _ (Below.refl _ _)).mono ?_
    rintro e w2 ⟨b2, rfl, _, _, _, hz2, bel2⟩
    have HZ2 := hidOf hz2
    have HB2 := hidOf bel2
    clear hz2 bel2
    go_wp2_with fail
    refine (specClockOk_any _ _ _ _ l _ (Nat.le_refl _) hn HZ2.out).mono ?_
    rintro e w3 ⟨rfl, bel3⟩
    have HB3 := hidOf (HB2.out.trans (bel3.mono HB2.out.size))
    clear bel3
    go_wp2_with fail
    refine (HTO.out _ HB3.out).mono ?_
    rintro e w4 ⟨b4, rfl, _, _, _, hz4, bel4⟩
    have HZ4 := hidOf hz4
    have HB4 := hidOf (HB3.out.trans (bel4.mono HB3.out.size))
    clear hz4 bel4
    go_wp2_with fail
    refine (implClockOk_any _ _ _ _ l _ (Nat.le_refl _) hn HZ4.out).mono ?_
    rintro e w5 ⟨rfl, bel5⟩
    have HB5 := hidOf (HB4.out.trans (bel5.mono HB4.out.size))
    have HZ5 := hidOf ((HZ4.out.belowBt bel5).monoBt bel5.size)
    clear bel5
    go_wp2_with fail
    refine (HTO.out _ HB5.out).mono ?_
    rintro e w6 ⟨b6, rfl, _, _, _, hz6, bel6⟩
    have HZ6 := hidOf hz6
    have HZ6' := hidOf ((HZ5.out.belowBt bel6).monoBt bel6.size)
    have HB6 := hidOf (HB5.out.trans (bel6.mono HB5.out.size))
    clear hz6 bel6
    go_wp2_with fail
    refine (eqBeatS_same _ _ _ _ _ _ l _ hn (Nat.le_refl _) HZ6'.out HZ6.out).mono ?_
    rintro e w7 ⟨rfl, bel7⟩
    have HB7 := hidOf (HB6.out.trans (bel7.mono HB6.out.size))
    clear bel7
    go_wp2_with fail
    go_ret
    exact ⟨rfl, HB7.out⟩
  · go_enter Try.func6, Try.ntmps6
    go_wp2_with fail
    refine (szBeatS_any _ _ _ _ _ (by omega) (by omega) (by omega)).mono ?_
    rintro e w1 ⟨rfl, rfl⟩
    rw [if_pos (by omega)]
    go_wp2_with fail
    go_ret
    exact ⟨rfl, Below.refl _ _⟩

/-! ### THE ROW's STEP -/
set_option maxRecDepth 100000 in
theorem lifted (os : Os) (started : os.Started) (H : Type) (enc : TypeId × Value → H) :
    ReturnsInHanded {} Try.checked os 6 .any (Rows.fnExactClockOkSpec.pre6 enc Try.prog Try.f6 Rows.fnExactClockOkRow.domain false) (Rows.fnExactClockOkSpec.post enc Try.prog Try.f6 false true false false) := by
  refine returnsInHanded_of_change (C := Try.checked) own started (by kernel_rfl) Try.func6
    (ChangeSpec.witness6 (enc := enc) (C := Try.checked) false ⟨#[], #[.slice none 0 0], []⟩ 8 (by kernel_rfl) (by kernel_rfl) (by kernel_rfl) (by kernel_rfl)) ?_
  intro W base args ds gs before hval0 hW hcnd _
  have hval : ∀ (j : Nat) t v, Try.f6.params[j]? = some t → args[j]? = some v → Value.okWide Try.prog W .any base t v := hval0
  have hW' := hW
  obtain ⟨p, q, hA0, hV, rfl, hfz, hnd⟩ := hW
  have hA : DataW.TrodAll enc Try.prog W 0 (fun _ => true) true Try.f6.params.toList args.toList ds p := hA0
  rw [Try.params6] at hA hval
  obtain ⟨v0, vs0, d0, ds0, p0, q0, hargs, rfl, rfl, h0, r0⟩ := trodAll_cons hA
  obtain ⟨rfl, rfl, rfl⟩ := trodAll_nil r0
  obtain rfl : args = #[v0] := by cases args; simp_all
  obtain ⟨rfl, rfl⟩ := trodVars_none hV
  obtain ⟨a0, n, c, rfl⟩ := okWide_slice Try.underlying40 (hval 0 40 v0 rfl rfl)
  have k0 := h0
  have lt0 : ∀ x ∈ p0, x.block < W.heap.size := by obtain ⟨m, hm⟩ := k0; exact DataW.trod_lt m _ _ _ hm
  obtain ⟨fuel0, hf0⟩ := h0
  obtain ⟨l, ⟨hc, hm⟩, hz⟩ := open_Beats (a0 := a0) (len0 := n) (cap0 := c) hf0
  clear hA0 hval0
  refine (walk a0 n c l W (Nat.le_trans hc hm) hz).mono fun e W' ⟨he, bel⟩ => ?_
  subst he
  exact ⟨_, rfl, _, _, _, [], _, [], hW', trodAll_mk1 (shut_bool Try.underlying4 _), (trodAll_cons_mk (Below.trod laidOut (by kernel_rfl) (of_decide_eq_true (by kernel_rfl)) k0 bel lt0) trodAll_mk0), rfl, bel.frame _, fun h => by cases h⟩

theorem over : Rows.fnExactClockOkRow.holds Try.pinned (OpenSpec.ofChange Rows.fnExactClockOkSpec) :=
  OpenClaim.holds_of_wide 6 Try.f6 rfl rfl rfl rfl rfl rfl rfl ⟨rfl, rfl, rfl, rfl, rfl⟩ rfl rfl rfl rfl rfl (by kernel_rfl) Try.func6 (by kernel_rfl)
    (of_decide_eq_true (by kernel_rfl)) (by unfold Func.isWrapper; first | (rw [if_pos (by decide +kernel)]; kernel_rfl) | (rw [if_neg (by decide +kernel)]; exact ⟨rfl, rfl⟩))
    (fun os started H enc _ => lifted os started H enc)

theorem proved : Rows.FnExactClockOkSaid := over
#print axioms proved
end Go.Proofs.Ytlpdilmdhfemdaa.fnExactClockOk
