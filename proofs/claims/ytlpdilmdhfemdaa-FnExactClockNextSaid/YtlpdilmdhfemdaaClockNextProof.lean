/- For every list of beats and every time the law FnExactClockNext returns true: ClockNext of the program answers as the model's, and its argument reads as before. No condition. -/
import Derived.Test.YtlpdilmdhfemdaaRows
import Derived.Test.YtlpdilmdhfemdaaSpecNext
import Derived.Test.YtlpdilmdhfemdaaOpenBt
import Derived.WalkKit
import Derived.ProofKit
import Derived.OpenShut
namespace Go.Proofs.Ytlpdilmdhfemdaa.fnExactClockNext
open Go Go.ChangeShapes Go.WideShapes Go.ChangeAt Go.RowKit Go.Deep Go.PlainAid
set_option linter.unusedVariables false
set_option linter.unusedSimpArgs false

theorem own : ownKnob Try.prog.godebug = none := by kernel_rfl
theorem laidOut : laidOutB Try.prog = true := by kernel_rfl

theorem eqFire_same (x y : Int) (w : World) : Calls Try.prog 25 #[.agg #[.int .i64 x, .int .i64 y], .agg #[.int .i64 x, .int .i64 y]] w fun e w' => e = .returned (.bool true) ∧ Below w.heap.size w w' := by
  go_enter Try.func25, Try.ntmps25
  go_wp2
  go_ret
  refine ⟨rfl, ?_⟩
  go_grown
set_option maxHeartbeats 1600000 in
set_option maxRecDepth 100000 in
theorem walk (a0 : Option Addr) (n cap : Nat) (l : List Bt) (t : Int) (w : World) (hm : n ≤ maxLen) (hz : IsBts w.heap.size w a0 n l) :
    Calls Try.prog 8 #[.slice a0 n cap, .int .i64 t] w fun e w' => e = .returned (.bool true) ∧ Below w.heap.size w w' := by
  unfold maxLen at hm
  have HZ : Hid (∀ W, Below w.heap.size w W → IsBts w.heap.size W a0 n l) := fun W hb => hz.belowBt hb
  clear hz
  by_cases hn : n ≤ 1048576
  · have HTO : Hid (∀ W, Below w.heap.size w W → Calls Try.prog 19 #[.slice a0 n cap] W fun e w' => ∃ b, e = .returned (.slice (some ⟨b, 0, none⟩) n n) ∧ W.heap.size ≤ b ∧ b < w'.heap.size ∧ (∀ j, w'.frozen? ⟨b, j, none⟩ = false) ∧ IsBts w'.heap.size w' (some ⟨b, 0, none⟩) n l ∧ Below W.heap.size W w') := fun W hb => toBeatS_any w.heap.size a0 n cap l W hn hb.size (HZ.out W hb)
    obtain ⟨⟨F0, F1⟩, hF⟩ : ∃ r, nextM l t = r := ⟨_, rfl⟩
    obtain ⟨FB, hFB⟩ : ∃ r, isNextM l t = r := ⟨_, rfl⟩
    have HSP := hidOf (fun B a n c w hB hn hz => specClockNext_any B a n c l t w hB hn hz)
    have HIM := hidOf (fun B a n c w hB hn hz => implClockNext_any B a n c l t w hB hn hz)
    rw [hF, hFB] at HSP HIM
    clear hF hFB
    go_enter Try.func8, Try.ntmps8
    go_wp2_with fail
    refine (szBeatS_any _ _ _ _ _ (by omega) (by omega) (by omega)).mono ?_
    rintro e w1 ⟨rfl, rfl⟩
    rw [if_neg (by omega)]
    go_wp2_with fail
    refine (HTO.out _ (Below.refl _ _)).mono ?_
    rintro e w2 ⟨b2, rfl, _, _, _, hz2, bel2⟩
    have HZ2 := hidOf hz2
    have HB2 := hidOf bel2
    clear hz2 bel2
    go_wp2_with fail
    refine (HSP.out _ _ _ _ _ (Nat.le_refl _) hn HZ2.out).mono ?_
    rintro e w3 ⟨rfl, bel3⟩
    have HB3 := hidOf (HB2.out.trans (bel3.mono HB2.out.size))
    clear bel3
    go_wp2_with fail
    have HB3' : Hid (Below w1.heap.size w1 (w3.alloc (.cells #[.int .i64 F0, .int .i64 F1] 32))) := HB3.out.alloc HB3.out.size _
    refine (HTO.out _ (by first | exact HB3'.out | go_grown)).mono ?_
    rintro e w4 ⟨b4, rfl, _, _, _, hz4, bel4⟩
    have HZ4 := hidOf hz4
    have HB4 := hidOf (HB3'.out.trans (bel4.mono HB3'.out.size))
    have o6 : w4.heap[w3.heap.size]? = some (fireO F0 F1) := (bel4.block _ (by simp)).trans (World.alloc_heap_new w3 _)
    have O6 := hidOf o6
    clear hz4 bel4 o6
    go_wp2_with fail
    refine (HIM.out _ _ _ _ _ (Nat.le_refl _) hn HZ4.out).mono ?_
    rintro e w5 ⟨rfl, bel5⟩
    have HB5 := hidOf (HB4.out.trans (bel5.mono HB4.out.size))
    have HZ5 := hidOf ((HZ4.out.belowBt bel5).monoBt bel5.size)
    have o6 : w5.heap[w3.heap.size]? = some (fireO F0 F1) := (bel5.block _ (Array.getElem?_eq_some_iff.1 O6.out).1).trans O6.out
    have g0 : w5.cell? ⟨w3.heap.size, 0, none⟩ = some (.int .i64 F0) := (obj_cell o6 0).1
    have g1 : w5.cell? ⟨w3.heap.size, 1, none⟩ = some (.int .i64 F1) := (obj_cell o6 1).1
    have hl6 : w3.heap.size < w5.heap.size := (Array.getElem?_eq_some_iff.1 o6).1
    clear bel5 o6
    go_wp2_with fail
    refine (eqFire_same _ _ _).mono ?_
    rintro e w6 ⟨rfl, bel6⟩
    have HBA := hidOf (((Below.refl w5.heap.size w5).alloc (Nat.le_refl _) (.cells #[.int .i64 F0, .int .i64 F1] 32)))
    have HB6 := hidOf ((HB5.out.alloc HB5.out.size _).trans (bel6.mono (by simp; have := HB5.out.size; omega)))
    have HZ6 := hidOf ((HZ5.out.belowBt (HBA.out.trans (bel6.mono (by simp)))).monoBt (HBA.out.trans (bel6.mono (by simp))).size)
    clear bel6
    go_wp2_with fail
    refine (HTO.out _ HB6.out).mono ?_
    rintro e w7 ⟨b7, rfl, _, _, _, hz7, bel7⟩
    have HZ7 := hidOf hz7
    have HZ7' := hidOf ((HZ6.out.belowBt bel7).monoBt bel7.size)
    have HB7 := hidOf (HB6.out.trans (bel7.mono HB6.out.size))
    clear hz7 bel7
    go_wp2_with fail
    refine (eqBeatS_same _ _ _ _ _ _ l _ hn (Nat.le_refl _) HZ7'.out HZ7.out).mono ?_
    rintro e w8 ⟨rfl, bel8⟩
    have HB8 := hidOf (HB7.out.trans (bel8.mono HB7.out.size))
    clear bel8
    go_wp2_with fail
    go_ret
    exact ⟨rfl, HB8.out⟩
  · go_enter Try.func8, Try.ntmps8
    go_wp2_with fail
    refine (szBeatS_any _ _ _ _ _ (by omega) (by omega) (by omega)).mono ?_
    rintro e w1 ⟨rfl, rfl⟩
    rw [if_pos (by omega)]
    go_wp2_with fail
    go_ret
    exact ⟨rfl, Below.refl _ _⟩

/-! ### THE ROW's STEP -/
set_option maxRecDepth 100000 in
theorem lifted (os : Os) (started : os.Started) (H : Type) (enc : TypeId × Value → H) :
    ReturnsInHanded {} Try.checked os 8 .any (Rows.fnExactClockNextSpec.pre6 enc Try.prog Try.f8 Rows.fnExactClockNextRow.domain false) (Rows.fnExactClockNextSpec.post enc Try.prog Try.f8 false true false false) := by
  refine returnsInHanded_of_change (C := Try.checked) own started (by kernel_rfl) Try.func8
    (ChangeSpec.witness6 (enc := enc) (C := Try.checked) false ⟨#[], #[.slice none 0 0, .int .i64 0], []⟩ 8 (by kernel_rfl) (by kernel_rfl) (by kernel_rfl) (by kernel_rfl)) ?_
  intro W base args ds gs before hval0 hW hcnd _
  have hval : ∀ (j : Nat) t v, Try.f8.params[j]? = some t → args[j]? = some v → Value.okWide Try.prog W .any base t v := hval0
  have hW' := hW
  obtain ⟨p, q, hA0, hV, rfl, hfz, hnd⟩ := hW
  have hA : DataW.TrodAll enc Try.prog W 0 (fun _ => true) true Try.f8.params.toList args.toList ds p := hA0
  rw [Try.params8] at hA hval
  obtain ⟨v0, vs0, d0, ds0, p0, q0, hargs, rfl, rfl, h0, r0⟩ := trodAll_cons hA
  obtain ⟨v1, vs1, d1, ds1, p1, q1, rfl, rfl, rfl, h1, r1⟩ := trodAll_cons r0
  obtain ⟨rfl, rfl, rfl⟩ := trodAll_nil r1
  obtain rfl : args = #[v0, v1] := by cases args; simp_all
  obtain ⟨rfl, rfl⟩ := trodVars_none hV
  obtain ⟨a0, n, c, rfl⟩ := okWide_slice Try.underlying40 (hval 0 40 v0 rfl rfl)
  have k0 := h0
  have lt0 : ∀ x ∈ p0, x.block < W.heap.size := by obtain ⟨m, hm⟩ := k0; exact DataW.trod_lt m _ _ _ hm
  obtain ⟨fuel0, hf0⟩ := h0
  obtain ⟨l, ⟨hc, hm⟩, hz⟩ := open_Beats (a0 := a0) (len0 := n) (cap0 := c) hf0
  obtain ⟨a1, rfl, rfl, rfl, w1⟩ := open_int Try.underlying3 (hval 1 3 v1 rfl rfl) h1
  clear hA0 hval0
  refine (walk a0 n c l a1 W (Nat.le_trans hc hm) hz).mono fun e W' ⟨he, bel⟩ => ?_
  subst he
  exact ⟨_, rfl, _, _, _, [], _, [], hW', trodAll_mk1 (shut_bool Try.underlying4 _), (trodAll_cons_mk (Below.trod laidOut (by kernel_rfl) (of_decide_eq_true (by kernel_rfl)) k0 bel lt0) (trodAll_cons_mk (shut_int Try.underlying3 w1) trodAll_mk0)), rfl, bel.frame _, fun h => by cases h⟩

theorem over : Rows.fnExactClockNextRow.holds Try.pinned (OpenSpec.ofChange Rows.fnExactClockNextSpec) :=
  OpenClaim.holds_of_wide 8 Try.f8 rfl rfl rfl rfl rfl rfl rfl ⟨rfl, rfl, rfl, rfl, rfl⟩ rfl rfl rfl rfl rfl (by kernel_rfl) Try.func8 (by kernel_rfl)
    (of_decide_eq_true (by kernel_rfl)) (by unfold Func.isWrapper; first | (rw [if_pos (by decide +kernel)]; kernel_rfl) | (rw [if_neg (by decide +kernel)]; exact ⟨rfl, rfl⟩))
    (fun os started H enc _ => lifted os started H enc)

theorem proved : Rows.FnExactClockNextSaid := over
#print axioms proved
end Go.Proofs.Ytlpdilmdhfemdaa.fnExactClockNext
