/- For every list of nodes the law FnExactExprPut returns true: ExprPut of the program answers as the model's and writes into no argument. The one condition is the row's own: the package-level variables hold what the program's text lays (tied by the card). -/
import Derived.Test.YtcajjngjojegfaaGreatDoorBunF
import Derived.ShutString
import Derived.ChangeOld
namespace Go.Proofs.YtcajjngjojegfaaGreatDoor.fnExactExprPut
open Go.ChangeShapes Go.WideShapes Go.ChangeAt Go.RowKit Go.Deep Go.PlainAid
set_option linter.unusedVariables false
set_option linter.unusedSimpArgs false

theorem specPut_any (B0 : Nat) (a : Option Addr) (n cap : Nat) (l : List Nd) (w : World) (hn : n ≤ 1048576) (hB0 : B0 ≤ w.heap.size) (hsz : ∀ x ∈ l, x.2.2.size ≤ 1048576) (hz : IsNds B0 w a n l) :
    Calls Tryz.prog 14 #[.slice a n cap] w fun e w' => e = .returned (.string (putM l)) ∧ Below w.heap.size w w' := by
  have HP : Hid (Calls Tryz.prog 46 #[.slice a n cap] w fun e w' => e = .returned (.string (putM l)) ∧ Below w.heap.size w w') := l1Put_any B0 a n cap l w hn hB0 hsz hz
  clear hz hsz
  go_enter Tryz.func14, Tryz.ntmps14
  go_wp2_with (go_at_call 46; refine HP.out.mono ?_; rintro e w1 ⟨rfl, hb1⟩)
  go_ret
  exact ⟨rfl, hb1⟩

set_option maxHeartbeats 1600000 in
set_option maxRecDepth 100000 in
theorem walk (a0 : Option Addr) (n cap : Nat) (l : List Nd) (w : World) (hw : Tabs w) (hm : n ≤ maxLen) (hs : ∀ x ∈ l, x.2.2.size ≤ maxLen) (h64 : Nums64 l) (hz : IsNds w.heap.size w a0 n l) :
    Calls Tryz.prog 9 #[.slice a0 n cap] w fun e w' => e = .returned (.bool true) ∧ Below w.heap.size w w' := by
  have HZ : Hid (IsNds w.heap.size w a0 n l) := hz
  have HW : Hid (Tabs w) := hw
  have H64 : Hid (Nums64 l) := h64
  have HSZ : Hid (Calls Tryz.prog 32 #[.slice a0 n cap, .int .i64 1048576] w fun e w' => SzPost n l 1048576 w e w') := szNodeS_any w.heap.size a0 n cap l 1048576 w (by decide) (by decide) hm (Nat.le_refl _) hs hz
  clear hz hw h64 hs
  unfold maxLen at hm
  go_enter Tryz.func9, Tryz.ntmps9
  go_wp2_with fail
  refine HSZ.out.mono ?_
  rintro e w1 ⟨r, rfl, hb1, hr1, hr2, hr3⟩
  clear HSZ
  by_cases hr : r < 0
  · go_wp2_with fail
    go_ret
    exact ⟨rfl, hb1⟩
  obtain ⟨hn, hsz⟩ := hr3 (by omega)
  have HS : Hid (∀ x ∈ l, x.2.2.size ≤ 1048576) := hsz
  have HB1 : Hid (Below w.heap.size w w1) := hb1
  have HZ1 : Hid (IsNds w1.heap.size w1 a0 n l) := (HZ.out.below hb1).mono hb1.size
  have HW1 : Hid (Tabs w1) := HW.out.up hb1
  clear hb1 hr3 hsz HZ HW
  go_wp2_with fail
  refine (toNodeS_any w1.heap.size a0 n cap l w1 hn (Nat.le_refl _) HZ1.out).mono ?_
  rintro e w2 ⟨b2, rfl, hb2, hz2, bel2⟩
  have HB2 : Hid (Below w1.heap.size w1 w2) := bel2
  have HZ2 : Hid (IsNds w2.heap.size w2 (some ⟨b2, 0, none⟩) n l) := hz2
  clear bel2 hz2
  go_wp2_with fail
  refine (specPut_any w2.heap.size (some ⟨b2, 0, none⟩) n n l w2 hn (Nat.le_refl _) HS.out HZ2.out).mono ?_
  rintro e w3 ⟨rfl, bel3⟩
  have HB3 : Hid (Below w1.heap.size w1 w3) := below_up HB2.out HB2.out.size bel3
  have HZ3 : Hid (IsNds w3.heap.size w3 a0 n l) := (HZ1.out.below HB3.out).mono HB3.out.size
  have HW3 : Hid (Tabs w3) := HW1.out.up HB3.out
  clear bel3 HB2 HZ2
  go_wp2_with fail
  refine (toNodeS_any w3.heap.size a0 n cap l w3 hn (Nat.le_refl _) HZ3.out).mono ?_
  rintro e w4 ⟨b4, rfl, hb4, hz4, bel4⟩
  have HB4 : Hid (Below w1.heap.size w1 w4) := below_up HB3.out HB3.out.size bel4
  have HZ4 : Hid (IsNds w4.heap.size w4 (some ⟨b4, 0, none⟩) n l) := hz4
  have HW4 : Hid (Tabs w4) := HW3.out.up bel4
  clear bel4 hz4
  go_wp2_with fail
  refine (implPut_any w4.heap.size (some ⟨b4, 0, none⟩) n n l w4 HW4.out hn (Nat.le_refl _) HS.out H64.out HZ4.out).mono ?_
  rintro e w5 ⟨rfl, bel5⟩
  have HB5 : Hid (Below w1.heap.size w1 w5) := below_up HB4.out HB4.out.size bel5
  have HZ5 : Hid (IsNds w5.heap.size w5 (some ⟨b4, 0, none⟩) n l) := (HZ4.out.below bel5).mono bel5.size
  have HY5 : Hid (IsNds w5.heap.size w5 a0 n l) := (HZ1.out.below HB5.out).mono HB5.out.size
  clear bel5 HZ4 HB4 HW4
  generalize putM l = P
  go_wp2_with fail
  refine (toNodeS_any w5.heap.size a0 n cap l w5 hn (Nat.le_refl _) HY5.out).mono ?_
  rintro e w6 ⟨b6, rfl, hb6, hz6, bel6⟩
  have HB6 : Hid (Below w1.heap.size w1 w6) := below_up HB5.out HB5.out.size bel6
  have HZ6 : Hid (IsNds w6.heap.size w6 (some ⟨b6, 0, none⟩) n l) := hz6
  have HY6 : Hid (IsNds w6.heap.size w6 (some ⟨b4, 0, none⟩) n l) := (HZ5.out.below bel6).mono bel6.size
  clear bel6 hz6
  go_wp2_with fail
  refine (eqNodeS_same w6.heap.size (some ⟨b4, 0, none⟩) (some ⟨b6, 0, none⟩) n n n l w6 hn (Nat.le_refl _) HY6.out HZ6.out).mono ?_
  rintro e w7 ⟨rfl, bel7⟩
  have HB7 : Hid (Below w1.heap.size w1 w7) := below_up HB6.out HB6.out.size bel7
  clear bel7
  go_wp2_with fail
  go_ret
  exact ⟨rfl, below_up HB1.out HB1.out.size HB7.out⟩

/-! ### THE ROW's STEP -/
set_option maxRecDepth 100000 in
theorem lifted (os : Os) (started : os.Started) (H : Type) (enc : TypeId × Value → H) :
    ReturnsInHanded {} Tryz.checked os 9 .any (fun w args => (Rows.fnExactExprPutSpec.pre enc Tryz.prog Tryz.f9 Rows.fnExactExprPutRow.domain false w args ∧ laidMetH Tryz.prog theLaid w) ∧ sizedMet enc Tryz.prog Tryz.f9 (OpenSpec.ofChange Rows.fnExactExprPutSpec) false w args)
      (Rows.fnExactExprPutSpec.post enc Tryz.prog Tryz.f9 false true false false) := by
  refine returnsInHanded_of_change_and (C := Tryz.checked) (X := fun w _ => laidMetH Tryz.prog theLaid w) (fun _ _ _ hh h => h.of_heap hh) own started (by kernel_rfl) Tryz.func9
    (ChangeSpec.witness_shaped (enc := enc) (C := Tryz.checked) (os := os) (X := fun w _ => laidMetH Tryz.prog theLaid w) false (World.laidAll Tryz.prog os theLaid) #[.slice none 0 0] 8 (World.laidAll_os _ _ _)
      (shapedL os _) (by kernel_rfl) (by kernel_rfl) (by kernel_rfl) (metL os _)) ?_
  intro W base args ds gs before hval0 hW hcnd _ hL _
  have hval : ∀ (j : Nat) t v, Tryz.f9.params[j]? = some t → args[j]? = some v → Value.okWide Tryz.prog W .any base t v := hval0
  have hW' := hW
  obtain ⟨p, q, hA0, hV, rfl, hfz, hnd⟩ := hW
  have hA : DataW.TrodAll enc Tryz.prog W 0 (fun _ => true) true Tryz.f9.params.toList args.toList ds p := hA0
  rw [Tryz.params9] at hA hval
  obtain ⟨v0, d0, rfl, rfl, h0⟩ := trodAll_one hA
  have hV0 := hV
  obtain ⟨g, t, cs, fuel, gd, pp, rfl, _⟩ := trodVars_one hV0
  obtain ⟨a0, len0, cap0, rfl⟩ := okWide_slice Tryz.underlying50 (hval 0 50 v0 rfl rfl)
  have k0 := h0
  have lt0 : ∀ x ∈ p, x.block < W.heap.size := by obtain ⟨m, hm⟩ := k0; exact DataW.trod_lt m _ _ _ hm
  obtain ⟨fuel0, hf0⟩ := h0
  obtain ⟨l, hm0, w0, h64, hsz⟩ := open_nodes hf0
  clear hA0 hval0
  refine (walk a0 len0 cap0 l W (tabs_of hL) hm0 hsz h64 w0).mono fun e W' ⟨he, bel⟩ => ?_
  subst he
  exact ⟨_, rfl, _, _, _, [], _, _, hW', trodAll_mk1 (shut_bool Tryz.underlying4 _), trodAll_mk1 (Below.trod laidOut (by kernel_rfl) (of_decide_eq_true (by kernel_rfl)) k0 bel lt0), Below.trodVars laidOut bel (by kernel_rfl) hV, bel.frame _, fun h => by cases h⟩

theorem over : Rows.FnExactExprPutSaid :=
  OpenClaim.holds_of_wide 9 Tryz.f9 rfl rfl rfl rfl rfl rfl rfl ⟨rfl, rfl, rfl, rfl, rfl⟩ rfl rfl rfl rfl rfl (by kernel_rfl) Tryz.func9 (by kernel_rfl)
    (of_decide_eq_true (by kernel_rfl)) (by unfold Func.isWrapper; first | (rw [if_pos (by decide +kernel)]; kernel_rfl) | (rw [if_neg (by decide +kernel)]; exact ⟨rfl, rfl⟩))
    (fun os started H enc _ => lifted os started H enc)

theorem proved : Rows.FnExactExprPutCardSaid :=
  Claim7.holds_tied_plain_at .later [] [.data, .data, .data, .data, .sentinel, .sentinel, .data, .pinned] true Rows.fnExactExprPutCard.stood.harness true over (fun _ h => by cases h) (by kernel_rfl) (fun _ h => by cases h) fnExactExprPut_row_tie rfl ⟨rfl, rfl⟩ (by kernel_rfl) rfl
    (fun f fn hf hfn => by
      obtain rfl : f = 9 := Option.some.inj ((show Tryz.prog.funcNamed "loop.example/telltale/laws.FnExactExprPut" = some 9 by kernel_rfl).symm.trans hf) |>.symm
      obtain rfl : fn = Tryz.f9 := (Option.some.inj (Tryz.func9.symm.trans hfn)).symm
      exact ⟨by kernel_rfl, fun j t ht => by
        rw [Tryz.params9] at ht
        have hm : t ∈ [50] := by simpa using Array.mem_of_getElem? ht
        have hall : ([50].all fun u => !Tryz.prog.wantsStandIn u) = true := by kernel_rfl
        exact (show Tryz.prog.wantsStandIn t = false by simpa using List.all_eq_true.1 hall t hm)⟩)
    (by kernel_rfl)
#print axioms proved
end Go.Proofs.YtcajjngjojegfaaGreatDoor.fnExactExprPut
