/- For every code of bytes the law FnExprPut returns true: a sum that is drawn is written as the model writes it, has at most ExprMax bytes, and is read back as it was. The one condition is the row's own: the package-level variables hold what the program's text lays (tied by the card). -/
import Derived.Test.YtcajjngjojegfaaGreatDoorLift
namespace Go.Proofs.YtcajjngjojegfaaGreatDoor.fnExprPut
open Go.ChangeShapes Go.WideShapes Go.ChangeAt Go.RowKit Go.Deep Go.PlainAid
set_option linter.unusedVariables false
set_option linter.unusedSimpArgs false

set_option maxHeartbeats 800000 in
set_option maxRecDepth 100000 in
theorem draw_any (a : Option Addr) (n cap : Nat) (bs : List Int) (w : World) (hc : n ≤ cap) (hn : n ≤ 1048576) (hz : IsBytes w.heap.size w a n bs) :
    Calls Tryz.prog 12 #[.slice a n cap] w fun e w' => ∃ b m c l, e = .returned (.slice b m c) ∧ NdFit l ∧ m ≤ c ∧ IsNds w'.heap.size w' b m l ∧ Below w.heap.size w w' := by
  have HO : Hid (Calls Tryz.prog 44 #[.slice a n cap] w fun e w' => ∃ a' n' cap' bs', e = .returned (.pointer (some ⟨w.heap.size, 0, none⟩)) ∧ RdAt w' w.heap.size a' n' cap' bs' 0 ∧ Below w.heap.size w w' ∧ w'.heap.size = w.heap.size + 1) := l11Open_any a n cap bs w hc hn hz
  clear hz
  go_enter Tryz.func12, Tryz.ntmps12
  go_wp2_with fail
  refine HO.out.mono ?_
  rintro e w1 ⟨a1, n1, c1, bs1, rfl, hr1, hb1, hs1⟩
  have HB1 : Hid (Below w.heap.size w w1) := hb1
  have HA : Hid (Calls Tryz.prog 43 #[.pointer (some ⟨w.heap.size, 0, none⟩)] w1 fun e w' => AnyPost w.heap.size w1 a1 n1 c1 bs1 (0 + 40) e w') := l11AnyNodes_any w.heap.size a1 n1 c1 bs1 0 w1 (by omega) hr1
  clear hr1 hb1 HO
  go_wp2_with fail
  refine HA.out.mono ?_
  rintro e w2 ⟨b, m, c, l, k', rfl, hf, hmc, hi, hfar, hk, hr, hm⟩
  have HF : Hid (NdFit l) := hf
  have HI : Hid (IsNds w2.heap.size w2 b m l) := hi
  have HB : Hid (Below w.heap.size w w2) := Mv.fresh HB1.out hm
  clear hf hi hr hm HA HB1 hfar
  go_wp2_with fail
  go_ret
  exact ⟨b, m, c, l, rfl, HF.out, hmc, HI.out, HB.out⟩

set_option maxHeartbeats 1600000 in
set_option maxRecDepth 100000 in
theorem walk (a0 : Option Addr) (n cap : Nat) (bs : List Int) (w : World) (hw : Tabs w) (hc : n ≤ cap) (hm : cap ≤ maxLen) (hz : IsBytes w.heap.size w a0 n bs) :
    Calls Tryz.prog 3 #[.slice a0 n cap] w fun e w' => e = .returned (.bool true) ∧ Below w.heap.size w w' := by
  unfold maxLen at hm
  by_cases hbig : 1048576 < n
  · clear hz hw
    go_enter Tryz.func3, Tryz.ntmps3
    go_wp2_with fail
    go_ret
    exact ⟨rfl, Below.refl _ _⟩
  have HD := hidOf (draw_any a0 n cap bs w hc (by omega) hz)
  have HW : Hid (Tabs w) := hw
  clear hz hw
  go_enter Tryz.func3, Tryz.ntmps3
  go_wp2_with fail
  refine HD.out.mono ?_
  rintro e w1 ⟨b, m, c, l, rfl, hf, hmc, hi, hb1⟩
  have HF : Hid (NdFit l) := hf
  have HI : Hid (IsNds w1.heap.size w1 b m l) := hi
  have HB1 : Hid (Below w.heap.size w w1) := hb1
  have HW1 : Hid (Tabs w1) := HW.out.up hb1
  have hm25 : m ≤ 25 := by have := hi.1; have := hf.1; omega
  clear hf hi hb1 HD
  go_wp2_with fail
  refine (implPut_any w1.heap.size b m c l w1 HW1.out (by omega) (Nat.le_refl _) HF.out.names HF.out.nums HI.out).mono ?_
  rintro e w2 ⟨rfl, bel2⟩
  have HB2 : Hid (Below w1.heap.size w1 w2) := bel2
  have HW2 : Hid (Tabs w2) := HW1.out.up bel2
  have HI2 : Hid (IsNds w2.heap.size w2 b m l) := (HI.out.below bel2).mono bel2.size
  clear bel2
  have HS2 := hidOf (specPut_nds w2.heap.size b m c l w2 (by omega) (Nat.le_refl _) HF.out.names HI2.out)
  have HPG := hidOf (@put_get l)
  obtain ⟨P, hP⟩ : ∃ P, putM l = P := ⟨_, rfl⟩
  rw [hP] at HS2 HPG ⊢
  have HP : Hid (putM l = P) := hP
  clear hP
  cases he : P.toList.isEmpty
  · have hne : ¬ P.toList = [] := by intro h; rw [h] at he; cases he
    obtain ⟨hx, hsz⟩ := HPG.out he
    have HX : Hid (exprM P = some l) := hx
    clear hx
    go_wp2_with (go_at_call 14; refine HS2.out.mono ?_; rintro e w3 ⟨rfl, bel3⟩; have HB3 : Hid (Below w1.heap.size w1 w3) := below_up HB2.out HB2.out.size bel3; have HW3 : Hid (Tabs w3) := HW2.out.up bel3; have HI3 : Hid (IsNds w3.heap.size w3 b m l) := (HI2.out.below bel3).mono bel3.size; clear bel3)
    refine (implGet_any P w3 HW3.out (by unfold maxLen; omega)).mono ?_
    rintro e w4 ⟨v, bb, rfl, _, hyes, bel4⟩
    obtain ⟨rfl, ho⟩ := hyes l HX.out
    have HB4 : Hid (Below w1.heap.size w1 w4) := below_up HB3.out HB3.out.size bel4
    have HI4 : Hid (IsNds w4.heap.size w4 b m l) := (HI3.out.below bel4).mono bel4.size
    obtain ⟨a4, c4, rfl, hi4⟩ := ho.is
    have hlm : l.length = m := HI.out.1
    have HJ4 : Hid (IsNds w4.heap.size w4 a4 m l) := by
      show IsNds _ _ _ _ _
      rw [hlm] at hi4; exact hi4
    rw [hlm]
    clear hyes ho hi4 bel4 hlm
    have HT : Hid (Calls Tryz.prog 16 #[.slice a4 m c4, .slice b m c] w4 fun e w' => e = .returned (.bool true) ∧ Below w4.heap.size w4 w') := by
      have := ttNodes_any w4.heap.size a4 b m m c4 c l l w4 (by omega) (by omega) HJ4.out HI4.out
      exact hidOf (by simpa using this)
    go_wp2_with (go_at_call 16; refine HT.out.mono ?_; rintro e w5 ⟨rfl, bel5⟩; have HB5 : Hid (Below w1.heap.size w1 w5) := below_up HB4.out HB4.out.size bel5; clear bel5)
    go_ret
    exact ⟨ret_bool (by simp; omega), below_up HB1.out HB1.out.size HB5.out⟩
  · have hPe : P = ⟨#[]⟩ := by
      rw [Lib.toList_data] at he
      apply ByteArray.ext
      rw [← Array.toList_inj]
      simpa using he
    subst hPe
    go_wp2_with (go_at_call 14; refine HS2.out.mono ?_; rintro e w3 ⟨rfl, bel3⟩; have HB3 : Hid (Below w1.heap.size w1 w3) := below_up HB2.out HB2.out.size bel3; have HI3 : Hid (IsNds w3.heap.size w3 b m l) := (HI2.out.below bel3).mono bel3.size; clear bel3 HS2)
    refine (specPut_nds w3.heap.size b m c l w3 (by omega) (Nat.le_refl _) HF.out.names HI3.out).mono ?_
    rw [HP.out]
    rintro e w4 ⟨rfl, bel4⟩
    have HB4 : Hid (Below w1.heap.size w1 w4) := below_up HB3.out HB3.out.size bel4
    clear bel4
    go_wp2_with fail
    go_ret
    exact ⟨rfl, below_up HB1.out HB1.out.size HB4.out⟩

/-! ### THE ROW's STEP -/
set_option maxRecDepth 100000 in
theorem lifted (os : Os) (started : os.Started) (H : Type) (enc : TypeId × Value → H) :
    ReturnsInHanded {} Tryz.checked os 3 .any (fun w args => (Rows.fnExprPutSpec.pre enc Tryz.prog Tryz.f3 Rows.fnExprPutRow.domain false w args ∧ laidMetH Tryz.prog theLaid w) ∧ sizedMet enc Tryz.prog Tryz.f3 (OpenSpec.ofChange Rows.fnExprPutSpec) false w args)
      (Rows.fnExprPutSpec.post enc Tryz.prog Tryz.f3 false true false false) := by
  refine returnsInHanded_of_change_and (C := Tryz.checked) (X := fun w _ => laidMetH Tryz.prog theLaid w) (fun _ _ _ hh h => h.of_heap hh) own started (by kernel_rfl) Tryz.func3
    (ChangeSpec.witness_shaped (enc := enc) (C := Tryz.checked) (os := os) (X := fun w _ => laidMetH Tryz.prog theLaid w) false (World.laidAll Tryz.prog os theLaid) #[.slice none 0 0] 8 (World.laidAll_os _ _ _)
      (shapedL os _) (by kernel_rfl) (by kernel_rfl) (by kernel_rfl) (metL os _)) ?_
  intro W base args ds gs before hval0 hW hcnd _ hL _
  have hval : ∀ (j : Nat) t v, Tryz.f3.params[j]? = some t → args[j]? = some v → Value.okWide Tryz.prog W .any base t v := hval0
  have hW' := hW
  obtain ⟨p, q, hA0, hV, rfl, hfz, hnd⟩ := hW
  have hA : DataW.TrodAll enc Tryz.prog W 0 (fun _ => true) true Tryz.f3.params.toList args.toList ds p := hA0
  rw [Tryz.params3] at hA hval
  obtain ⟨v0, d0, rfl, rfl, h0⟩ := trodAll_one hA
  have hV0 := hV
  obtain ⟨g, t, cs, fuel, gd, pp, rfl, _⟩ := trodVars_one hV0
  obtain ⟨a0, len0, cap0, rfl⟩ := okWide_slice Tryz.underlying22 (hval 0 22 v0 rfl rfl)
  have k0 := h0
  have lt0 : ∀ x ∈ p, x.block < W.heap.size := by obtain ⟨m, hm⟩ := k0; exact DataW.trod_lt m _ _ _ hm
  obtain ⟨fuel0, hf0⟩ := h0
  obtain ⟨hc0, hm0, bs, w0⟩ := open_code rfl hf0
  clear hA0 hval0
  refine (walk a0 len0 cap0 bs W (tabs_of hL) hc0 hm0 w0).mono fun e W' ⟨he, bel⟩ => ?_
  subst he
  exact ⟨_, rfl, _, _, _, [], _, _, hW', trodAll_mk1 (shut_bool Tryz.underlying4 _), trodAll_mk1 (Below.trod laidOut (by kernel_rfl) (of_decide_eq_true (by kernel_rfl)) k0 bel lt0), Below.trodVars laidOut bel (by kernel_rfl) hV, bel.frame _, fun h => by cases h⟩

theorem over : Rows.FnExprPutSaid :=
  OpenClaim.holds_of_wide 3 Tryz.f3 rfl rfl rfl rfl rfl rfl rfl ⟨rfl, rfl, rfl, rfl, rfl⟩ rfl rfl rfl rfl rfl (by kernel_rfl) Tryz.func3 (by kernel_rfl)
    (of_decide_eq_true (by kernel_rfl)) (by unfold Func.isWrapper; first | (rw [if_pos (by decide +kernel)]; kernel_rfl) | (rw [if_neg (by decide +kernel)]; exact ⟨rfl, rfl⟩))
    (fun os started H enc _ => lifted os started H enc)

theorem proved : Rows.FnExprPutCardSaid :=
  Claim7.holds_tied_plain_at .later [] [.data, .data, .data, .data, .sentinel, .sentinel, .data, .pinned] true Rows.fnExprPutCard.stood.harness true over (fun _ h => by cases h) (by kernel_rfl) (fun _ h => by cases h) fnExprPut_row_tie rfl ⟨rfl, rfl⟩ (by kernel_rfl) rfl
    (fun f fn hf hfn => by
      obtain rfl : f = 3 := Option.some.inj ((show Tryz.prog.funcNamed "loop.example/telltale/laws.FnExprPut" = some 3 by kernel_rfl).symm.trans hf) |>.symm
      obtain rfl : fn = Tryz.f3 := (Option.some.inj (Tryz.func3.symm.trans hfn)).symm
      exact ⟨by kernel_rfl, fun j t ht => by
        rw [Tryz.params3] at ht
        have hm : t ∈ [22] := by simpa using Array.mem_of_getElem? ht
        have hall : ([22].all fun u => !Tryz.prog.wantsStandIn u) = true := by kernel_rfl
        exact (show Tryz.prog.wantsStandIn t = false by simpa using List.all_eq_true.1 hall t hm)⟩)
    (by kernel_rfl)
#print axioms proved
end Go.Proofs.YtcajjngjojegfaaGreatDoor.fnExprPut
