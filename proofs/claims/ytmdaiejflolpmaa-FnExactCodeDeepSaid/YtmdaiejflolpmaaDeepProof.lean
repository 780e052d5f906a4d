/- For every code and every number of places the law FnExactCodeDeep returns true: CodeDeep of the program answers as the model's, writes into no argument, and the arguments read as before. No condition. -/
import Derived.Test.YtmdaiejflolpmaaRows
import Derived.Test.YtmdaiejflolpmaaDeepSpec
import Derived.Deep.SlicePairs
import Derived.ShutString
import Derived.ChangeOld
namespace Go.Proofs.Ytmdaiejflolpmaa.fnExactCodeDeep
open Go.ChangeShapes Go.WideShapes Go.ChangeAt Go.RowKit Go.Deep
set_option linter.unusedVariables false

theorem own : ownKnob Try.prog.godebug = none := by kernel_rfl
theorem laidOut : laidOutB Try.prog = true := by kernel_rfl

theorem isOps_below {w w' : World} {a : Option Addr} {n : Nat} {zs : List (Int × Int)} (h : IsOps w a n zs) (hb : Below w.heap.size w w') : IsOps w' a n zs := by
  obtain ⟨h1, h2⟩ := h
  refine ⟨h1, ?_⟩
  rcases h2 with h2 | ⟨b, off, rfl, hlt, hc⟩
  · exact .inl h2
  · exact .inr ⟨b, off, rfl, by have := hb.size; omega, fun i hi => ⟨(hb.cell hlt).trans (hc i hi).1, (hb.cell hlt).trans (hc i hi).2⟩⟩

set_option maxHeartbeats 400000 in
theorem walk (a0 : Option Addr) (n cap : Nat) (zs : List (Int × Int)) (a1 : Int) (w : World) (hm : n ≤ maxLen) (hz : IsOps w a0 n zs) :
    Calls Try.prog 5 #[.slice a0 n cap, .int .i64 a1] w fun e w' => e = .returned (.bool true) ∧ Below w.heap.size w w' := by
  unfold maxLen at hm
  by_cases hn : n ≤ 1048576
  · have HZ : Hid (IsOps w a0 n zs) := hz
    clear hz
    have hs : ¬ (1048576 : Int) < n := by omega
    go_enter Try.func5, Try.ntmps5
    go_wp2_with fail
    refine (szOpS_any _ _ _ _ _ (by omega) (by omega) (by omega)).mono ?_
    rintro e w1 ⟨rfl, rfl⟩
    rw [if_neg (by omega)]
    go_wp2_with fail
    refine (toOpS_any a0 n cap zs _ hn HZ.out).mono ?_
    rintro e w2 ⟨b2, rfl, hb2, hz2, bel2⟩
    have HZ2 : Hid (IsOps w2 (some ⟨b2, 0, none⟩) n zs) := hz2
    clear hz2
    go_wp2_with fail
    refine (specDeep_any _ _ _ _ zs _ hn HZ2.out).mono ?_
    rintro e w3 ⟨rfl, bel3⟩
    have Z3 : Hid (Below w1.heap.size w1 w3) := bel2.trans (bel3.mono bel2.size)
    have HZ3 : Hid (IsOps w3 a0 n zs) := isOps_below HZ.out Z3.out
    go_wp2_with fail
    refine (toOpS_any a0 n cap zs _ hn HZ3.out).mono ?_
    rintro e w4 ⟨b4, rfl, hb4, hz4, bel4⟩
    have HZ4 : Hid (IsOps w4 (some ⟨b4, 0, none⟩) n zs) := hz4
    clear hz4
    go_wp2_with fail
    refine (implDeep_any _ _ _ _ zs _ hn HZ4.out).mono ?_
    rintro e w5 ⟨rfl, bel5⟩
    have Z5 : Hid (Below w3.heap.size w3 w5) := bel4.trans (bel5.mono bel4.size)
    have HZ5 : Hid (IsOps w5 a0 n zs) := isOps_below HZ3.out Z5.out
    have HZ5' : Hid (IsOps w5 (some ⟨b4, 0, none⟩) n zs) := isOps_below HZ4.out bel5
    go_wp2_with fail
    refine (toOpS_any a0 n cap zs _ hn HZ5.out).mono ?_
    rintro e w6 ⟨b6, rfl, hb6, hz6, bel6⟩
    have HZ6 : Hid (IsOps w6 (some ⟨b6, 0, none⟩) n zs) := hz6
    have HZ6' : Hid (IsOps w6 (some ⟨b4, 0, none⟩) n zs) := isOps_below HZ5'.out bel6
    clear hz6
    go_wp2_with fail
    refine (eqOpS_same _ _ _ _ _ zs _ hn HZ6'.out HZ6.out).mono ?_
    rintro e w7 ⟨rfl, bel7⟩
    go_wp2_with fail
    go_ret
    exact ⟨rfl, ((Z3.out.trans (Z5.out.mono Z3.out.size)).trans ((bel6.trans (bel7.mono bel6.size)).mono (Nat.le_trans Z3.out.size Z5.out.size)))⟩
  · have hs : (1048576 : Int) < n := by omega
    clear hz
    go_enter Try.func5, Try.ntmps5
    go_wp2_with fail
    refine (szOpS_any _ _ _ _ _ (by omega) (by omega) (by omega)).mono ?_
    rintro e w1 ⟨rfl, rfl⟩
    rw [if_pos (by omega)]
    go_wp2_with fail
    go_ret
    exact ⟨rfl, Below.refl _ _⟩

/-! ### THE ROW's STEP -/
set_option maxRecDepth 100000 in
theorem lifted (os : Os) (started : os.Started) (H : Type) (enc : TypeId × Value → H) :
    ReturnsInHanded {} Try.checked os 5 .any (Rows.fnExactCodeDeepSpec.pre6 enc Try.prog Try.f5 Rows.fnExactCodeDeepRow.domain false) (Rows.fnExactCodeDeepSpec.post enc Try.prog Try.f5 false true false false) := by
  refine returnsInHanded_of_change (C := Try.checked) own started (by kernel_rfl) Try.func5
    (ChangeSpec.witness6 (enc := enc) (C := Try.checked) false ⟨#[], #[.slice none 0 0, .int .i64 0], []⟩ 8 (by kernel_rfl) (by kernel_rfl) (by kernel_rfl) (by kernel_rfl)) ?_
  intro W base args ds gs before hval0 hW hcnd _
  have hval : ∀ (j : Nat) t v, Try.f5.params[j]? = some t → args[j]? = some v → Value.okWide Try.prog W .any base t v := hval0
  have hW' := hW
  obtain ⟨p, q, hA0, hV, rfl, hfz, hnd⟩ := hW
  have hA : DataW.TrodAll enc Try.prog W 0 (fun _ => true) true Try.f5.params.toList args.toList ds p := hA0
  rw [Try.params5] at hA hval
  obtain ⟨v0, vs0, d0, ds0, p0, q0, hargs, rfl, rfl, h0, r0⟩ := trodAll_cons hA
  obtain ⟨v1, vs1, d1, ds1, p1, q1, rfl, rfl, rfl, h1, r1⟩ := trodAll_cons r0
  obtain ⟨rfl, rfl, rfl⟩ := trodAll_nil r1
  obtain rfl : args = #[v0, v1] := by cases args; simp_all
  obtain ⟨rfl, rfl⟩ := trodVars_none hV
  obtain ⟨a0, len0, cap0, rfl⟩ := okWide_slice Try.underlying32 (hval 0 32 v0 rfl rfl)
  have k0 := h0
  have lt0 : ∀ x ∈ p0, x.block < W.heap.size := by obtain ⟨m, hm⟩ := k0; exact DataW.trod_lt m _ _ _ hm
  obtain ⟨z0, hm0, w0⟩ : ∃ zs, len0 ≤ maxLen ∧ IsOps W a0 len0 zs := by
    obtain ⟨fuel, hf⟩ := h0
    rcases open_slice_pairs Try.underlying32 Try.underlying62 (by kernel_rfl) rfl rfl (by kernel_rfl) (by kernel_rfl) hf with ⟨hcs, _⟩ | ⟨x, l, c, m, nn, V0, V1, D0, D1, P0, P1, hcs, _, hl, hm, hmm, _, hcell⟩
    · simp [Value.cells] at hcs
      obtain ⟨rfl, rfl, rfl⟩ := hcs
      exact ⟨[], by simp, rfl, .inl rfl⟩
    · simp [Value.cells] at hcs
      obtain ⟨rfl, rfl, rfl⟩ := hcs
      refine ⟨(List.range len0).map fun i => (intOf (V0 i), intOf (V1 i)), Nat.le_trans hl hm, by simp, ?_⟩
      by_cases hz : len0 = 0
      · exact .inl hz
      obtain ⟨b, off, spot⟩ := x
      have hlm : len0 ≤ m := by rw [hmm]; split <;> omega
      have hc := (hcell 0 (by omega)).1
      have hspot : spot = none := by simpa [Addr.add] using World.cell?_spot hc
      subst hspot
      refine .inr ⟨b, off, rfl, World.block_lt_of_cell? _ _ hc, fun i hi => ?_⟩
      obtain ⟨g0, g1, g2, g3⟩ := hcell i (by omega)
      obtain ⟨n0, e0, _, _⟩ := DataW.trod_int Try.underlying3 g2
      obtain ⟨n1, e1, _, _⟩ := DataW.trod_int Try.underlying3 g3
      simp at e0 e1
      simp [hi, e0, e1, intOf]
      rw [e0] at g0
      rw [e1] at g1
      rw [add_plain] at g0 g1
      exact ⟨g0, by simpa [Nat.add_assoc] using g1⟩
  obtain ⟨a1, rfl, rfl, rfl, w1⟩ := open_int Try.underlying3 (hval 1 3 v1 rfl rfl) h1
  clear hA0 hval0
  refine (walk a0 len0 cap0 z0 a1 W hm0 w0).mono fun e W' ⟨he, bel⟩ => ?_
  subst he
  exact ⟨_, rfl, _, _, _, [], _, [], hW', trodAll_mk1 (shut_bool Try.underlying4 _), (trodAll_cons_mk (Below.trod laidOut (by kernel_rfl) (of_decide_eq_true (by kernel_rfl)) k0 bel lt0) (trodAll_cons_mk (shut_int Try.underlying3 w1) trodAll_mk0)), rfl, bel.frame _, fun h => by cases h⟩

theorem over : Rows.fnExactCodeDeepRow.holds Try.pinned (OpenSpec.ofChange Rows.fnExactCodeDeepSpec) :=
  OpenClaim.holds_of_wide 5 Try.f5 rfl rfl rfl rfl rfl rfl rfl ⟨rfl, rfl, rfl, rfl, rfl⟩ rfl rfl rfl rfl rfl (by kernel_rfl) Try.func5 (by kernel_rfl)
    (of_decide_eq_true (by kernel_rfl)) (by unfold Func.isWrapper; first | (rw [if_pos (by decide +kernel)]; kernel_rfl) | (rw [if_neg (by decide +kernel)]; exact ⟨rfl, rfl⟩))
    (fun os started H enc _ => lifted os started H enc)

theorem proved : Rows.FnExactCodeDeepSaid := over
#print axioms proved
end Go.Proofs.Ytmdaiejflolpmaa.fnExactCodeDeep
