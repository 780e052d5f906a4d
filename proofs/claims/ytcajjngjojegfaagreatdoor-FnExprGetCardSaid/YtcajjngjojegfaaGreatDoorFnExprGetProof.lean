/- For every code of bytes the law FnExprGet returns true: a text is read as the model reads it; what is read as a sum is written as one that is read as the same; blanks around it change nothing. The one condition is the row's own: the package-level variables hold what the program's text lays (tied by the card). -/
import Derived.Test.YtcajjngjojegfaaGreatDoorBent2
namespace Go.Proofs.YtcajjngjojegfaaGreatDoor.fnExprGet
open Go.ChangeShapes Go.WideShapes Go.ChangeAt Go.RowKit Go.Deep Go.PlainAid
set_option linter.unusedVariables false
set_option linter.unusedSimpArgs false

set_option maxHeartbeats 1600000 in
set_option maxRecDepth 100000 in
theorem walk (a0 : Option Addr) (n cap : Nat) (bs : List Int) (w : World) (hw : Tabs w) (hc : n ≤ cap) (hm : cap ≤ maxLen) (hz : IsBytes w.heap.size w a0 n bs) :
    Calls Tryz.prog 4 #[.slice a0 n cap] w fun e w' => e = .returned (.bool true) ∧ Below w.heap.size w w' := by
  unfold maxLen at hm
  by_cases hbig : 1048576 < n
  · clear hz hw
    go_enter Tryz.func4, Tryz.ntmps4
    go_wp2_with fail
    go_ret
    exact ⟨rfl, Below.refl _ _⟩
  have HD := hidOf (DrawExprGet_any a0 n cap bs w hc (by omega) hz)
  have HW : Hid (Tabs w) := hw
  clear hz hw
  go_enter Tryz.func4, Tryz.ntmps4
  go_wp2_with fail
  refine HD.out.mono ?_
  rintro e w1 ⟨s, rfl, hs, hb1⟩
  have HB1 : Hid (Below w.heap.size w w1) := hb1
  have HW1 : Hid (Tabs w1) := HW.out.up hb1
  clear hb1 HD
  cases hx : exprM s with
  | none =>
    have HG : Hid (Rds s [] false) := .inl ⟨hx, rfl, rfl⟩
    clear hx
    go_wp2_with fail
    refine (got_impl HG.out (by omega) w1 HW1.out).mono ?_
    rintro e w2 ⟨a2, c2, rfl, ho2, bel2⟩
    have HB2 : Hid (Below w1.heap.size w1 w2) := bel2
    have I2 : Hid (IsNds w2.heap.size w2 a2 0 []) := is_n ho2 rfl
    clear ho2 bel2
    go_wp2_with fail
    refine (got_spec HG.out (by omega) w2).mono ?_
    rintro e w3 ⟨a3, c3, rfl, ho3, bel3⟩
    have HB3 : Hid (Below w1.heap.size w1 w3) := below_up HB2.out HB2.out.size bel3
    have I3 : Hid (IsNds w3.heap.size w3 a2 0 []) := (I2.out.below bel3).mono bel3.size
    have J3 : Hid (IsNds w3.heap.size w3 a3 0 []) := is_n ho3 rfl
    clear ho3 bel3
    have T3 := hidOf (tt_same w3.heap.size a2 a3 0 c2 c3 [] w3 (by decide) I3.out J3.out)
    go_wp2_with (go_at_call 16; refine T3.out.mono ?_; rintro e w4 ⟨rfl, bel4⟩; have HB4 : Hid (Below w1.heap.size w1 w4) := below_up HB3.out HB3.out.size bel4; have I4 : Hid (IsNds w4.heap.size w4 a2 0 []) := (I3.out.below bel4).mono bel4.size; have J4 : Hid (IsNds w4.heap.size w4 a3 0 []) := (J3.out.below bel4).mono bel4.size; clear bel4 T3)
    refine (tt_same w4.heap.size a2 a3 0 c2 c3 [] w4 (by decide) I4.out J4.out).mono ?_
    rintro e w5 ⟨rfl, bel5⟩
    have HB5 : Hid (Below w1.heap.size w1 w5) := below_up HB4.out HB4.out.size bel5
    clear bel5
    go_wp2_with fail
    go_ret
    exact ⟨rfl, below_up HB1.out HB1.out.size HB5.out⟩
  | some l =>
    have HG : Hid (Rds s l true) := .inr ⟨hx, rfl⟩
    have hl24 := getM_len (exprM_get hx)
    obtain ⟨hne, hs60⟩ := exprM_put hx
    obtain ⟨hpx, hp60⟩ := put_get hne
    have HGP : Hid (Rds (putM l) l true) := .inr ⟨hpx, rfl⟩
    have HPAD : Hid (s.size ≤ 58 → exprM (sp ++ s ++ sp) = some l) := fun h => exprM_pad hx h
    have HN64 : Hid (Nums64 l) := getM_64 (exprM_get hx)
    have HNM : Hid (∀ x ∈ l, x.2.2.size ≤ 1048576) := fun x h => Nat.le_trans (getM_names (exprM_get hx) x h) (by decide)
    obtain ⟨P, hP⟩ : ∃ P, putM l = P := ⟨_, rfl⟩
    have HP : Hid (putM l = P) := hP
    rw [hP] at HGP hp60
    obtain ⟨N, hN⟩ : ∃ N, l.length = N := ⟨_, rfl⟩
    have HN : Hid (l.length = N) := hN
    rw [hN] at hl24
    clear hx hne hpx hP hN
    go_wp2_with fail
    refine (got_impl HG.out (by omega) w1 HW1.out).mono ?_
    rw [HN.out]
    rintro e w2 ⟨a2, c2, rfl, ho2, bel2⟩
    have HB2 : Hid (Below w1.heap.size w1 w2) := bel2
    have I2 : Hid (IsNds w2.heap.size w2 a2 N l) := is_n ho2 HN.out
    clear ho2 bel2
    go_wp2_with fail
    refine (got_spec HG.out (by omega) w2).mono ?_
    rw [HN.out]
    rintro e w3 ⟨a3, c3, rfl, ho3, bel3⟩
    have HB3 : Hid (Below w1.heap.size w1 w3) := below_up HB2.out HB2.out.size bel3
    have I3 : Hid (IsNds w3.heap.size w3 a2 N l) := (I2.out.below bel3).mono bel3.size
    have J3 : Hid (IsNds w3.heap.size w3 a3 N l) := is_n ho3 HN.out
    clear ho3 bel3
    have T3 := hidOf (tt_same w3.heap.size a2 a3 N c2 c3 l w3 (by omega) I3.out J3.out)
    go_wp2_with (go_at_call 16; refine T3.out.mono ?_; rintro e w4 ⟨rfl, bel4⟩; have HB4 : Hid (Below w1.heap.size w1 w4) := below_up HB3.out HB3.out.size bel4; have I4 : Hid (IsNds w4.heap.size w4 a2 N l) := (I3.out.below bel4).mono bel4.size; have HW4 : Hid (Tabs w4) := HW1.out.up HB4.out; clear bel4 T3)
    refine (implPut_any w4.heap.size a2 N c2 l w4 HW4.out (by omega) (Nat.le_refl _) HNM.out HN64.out I4.out).mono ?_
    rw [HP.out]
    rintro e w5 ⟨rfl, bel5⟩
    have HB5 : Hid (Below w1.heap.size w1 w5) := below_up HB4.out HB4.out.size bel5
    have I5 : Hid (IsNds w5.heap.size w5 a2 N l) := (I4.out.below bel5).mono bel5.size
    have HW5 : Hid (Tabs w5) := HW1.out.up HB5.out
    clear bel5
    go_wp2_with fail
    refine (got_impl HGP.out (by omega) w5 HW5.out).mono ?_
    rw [HN.out]
    rintro e w6 ⟨a6, c6, rfl, ho6, bel6⟩
    have HB6 : Hid (Below w1.heap.size w1 w6) := below_up HB5.out HB5.out.size bel6
    have I6 : Hid (IsNds w6.heap.size w6 a2 N l) := (I5.out.below bel6).mono bel6.size
    have K6 : Hid (IsNds w6.heap.size w6 a6 N l) := is_n ho6 HN.out
    have HW6 : Hid (Tabs w6) := HW1.out.up HB6.out
    clear ho6 bel6
    have hsp : (⟨#[32]⟩ : ByteArray).size = 1 := rfl
    have y1 : (⟨#[32]⟩ : ByteArray).size + s.size ≤ 9223372036854775807 := by omega
    have y2 : (⟨#[32]⟩ : ByteArray).size + s.size + (⟨#[32]⟩ : ByteArray).size ≤ 9223372036854775807 := by omega
    have hus : (sp ++ s ++ sp).size = s.size + 2 := (pad_is s).size
    by_cases h58 : s.size ≤ 58
    · have HGU : Hid (Rds (sp ++ s ++ sp) l true) := .inr ⟨HPAD.out h58, rfl⟩
      go_wp2_with fail
      refine (got_impl HGU.out (by omega) w6 HW6.out).mono ?_
      rw [HN.out]
      rintro e w7 ⟨a7, c7, rfl, ho7, bel7⟩
      have HB7 : Hid (Below w1.heap.size w1 w7) := below_up HB6.out HB6.out.size bel7
      have I7 : Hid (IsNds w7.heap.size w7 a2 N l) := (I6.out.below bel7).mono bel7.size
      have K7 : Hid (IsNds w7.heap.size w7 a6 N l) := (K6.out.below bel7).mono bel7.size
      have M7 : Hid (IsNds w7.heap.size w7 a7 N l) := is_n ho7 HN.out
      clear ho7 bel7
      have T7 := hidOf (tt_same w7.heap.size a6 a2 N c6 c2 l w7 (by omega) K7.out I7.out)
      have T8 : Hid (∀ w8, Below w7.heap.size w7 w8 → Calls Tryz.prog 16 #[.slice a7 N c7, .slice a2 N c2] w8 fun e w' => e = .returned (.bool true) ∧ Below w8.heap.size w8 w') := fun w8 hb => tt_same w8.heap.size a7 a2 N c7 c2 l w8 (by omega) ((M7.out.below hb).mono hb.size) ((I7.out.below hb).mono hb.size)
      have h58I : ¬ (58 : Int) < s.size := by omega
      go_wp2_with (first
        | (go_at_call_of 16 a6; refine T7.out.mono ?_; rintro e w8 ⟨rfl, bel8⟩; have HB8 : Hid (Below w7.heap.size w7 w8) := bel8; clear bel8)
        | (go_at_call_of 16 a7; refine (T8.out w8 HB8.out).mono ?_; rintro e w9 ⟨rfl, bel9⟩; have HB9 : Hid (Below w7.heap.size w7 w9) := below_up HB8.out HB8.out.size bel9; clear bel9))
      go_ret
      exact ⟨rfl, below_up HB1.out HB1.out.size (below_up HB7.out HB7.out.size HB9.out)⟩
    · have HGU : Hid (Rds (sp ++ s ++ sp) [] false) := .inl ⟨by unfold exprM getM; rw [if_pos (by omega)], rfl, rfl⟩
      go_wp2_with fail
      refine (got_impl HGU.out (by omega) w6 HW6.out).mono ?_
      rintro e w7 ⟨a7, c7, rfl, ho7, bel7⟩
      have HB7 : Hid (Below w1.heap.size w1 w7) := below_up HB6.out HB6.out.size bel7
      have I7 : Hid (IsNds w7.heap.size w7 a2 N l) := (I6.out.below bel7).mono bel7.size
      have K7 : Hid (IsNds w7.heap.size w7 a6 N l) := (K6.out.below bel7).mono bel7.size
      clear ho7 bel7
      have T7 := hidOf (tt_same w7.heap.size a6 a2 N c6 c2 l w7 (by omega) K7.out I7.out)
      have h58I : (58 : Int) < s.size := by omega
      go_wp2_with (go_at_call 16; refine T7.out.mono ?_; rintro e w8 ⟨rfl, bel8⟩; have HB8 : Hid (Below w7.heap.size w7 w8) := bel8; clear bel8)
      go_ret
      exact ⟨rfl, below_up HB1.out HB1.out.size (below_up HB7.out HB7.out.size HB8.out)⟩

/-! ### THE ROW's STEP -/
set_option maxRecDepth 100000 in
theorem lifted (os : Os) (started : os.Started) (H : Type) (enc : TypeId × Value → H) :
    ReturnsInHanded {} Tryz.checked os 4 .any (fun w args => (Rows.fnExprGetSpec.pre enc Tryz.prog Tryz.f4 Rows.fnExprGetRow.domain false w args ∧ laidMetH Tryz.prog theLaid w) ∧ sizedMet enc Tryz.prog Tryz.f4 (OpenSpec.ofChange Rows.fnExprGetSpec) false w args)
      (Rows.fnExprGetSpec.post enc Tryz.prog Tryz.f4 false true false false) := by
  refine returnsInHanded_of_change_and (C := Tryz.checked) (X := fun w _ => laidMetH Tryz.prog theLaid w) (fun _ _ _ hh h => h.of_heap hh) own started (by kernel_rfl) Tryz.func4
    (ChangeSpec.witness_shaped (enc := enc) (C := Tryz.checked) (os := os) (X := fun w _ => laidMetH Tryz.prog theLaid w) false (World.laidAll Tryz.prog os theLaid) #[.slice none 0 0] 8 (World.laidAll_os _ _ _)
      (shapedL os _) (by kernel_rfl) (by kernel_rfl) (by kernel_rfl) (metL os _)) ?_
  intro W base args ds gs before hval0 hW hcnd _ hL _
  have hval : ∀ (j : Nat) t v, Tryz.f4.params[j]? = some t → args[j]? = some v → Value.okWide Tryz.prog W .any base t v := hval0
  have hW' := hW
  obtain ⟨p, q, hA0, hV, rfl, hfz, hnd⟩ := hW
  have hA : DataW.TrodAll enc Tryz.prog W 0 (fun _ => true) true Tryz.f4.params.toList args.toList ds p := hA0
  rw [Tryz.params4] at hA hval
  obtain ⟨v0, d0, rfl, rfl, h0⟩ := trodAll_one hA
  have hV0 := hV
  obtain ⟨g, t, cs, fuel, gd, pp, rfl, _⟩ := trodVars_one hV0
  obtain ⟨a0, len0, cap0, rfl⟩ := okWide_slice Tryz.underlying22 (hval 0 22 v0 rfl rfl)
  have k0 := h0
  have lt0 : ∀ x ∈ p, x.block < W.heap.size := by obtain ⟨m, hm⟩ := k0; exact DataW.trod_lt m _ _ _ hm
  obtain ⟨fuel0, hf0⟩ := h0
  obtain ⟨hc0, hm0, bs, w0⟩ := open_code rfl hf0
  clear hA0 hval0
  refine (walk a0 len0 cap0 bs W (tabs_of hL) hc0 hm0 w0).mono fun e W' ⟨he, bel⟩ => ?_
  subst he
  exact ⟨_, rfl, _, _, _, [], _, _, hW', trodAll_mk1 (shut_bool Tryz.underlying4 _), trodAll_mk1 (Below.trod laidOut (by kernel_rfl) (of_decide_eq_true (by kernel_rfl)) k0 bel lt0), Below.trodVars laidOut bel (by kernel_rfl) hV, bel.frame _, fun h => by cases h⟩

theorem over : Rows.FnExprGetSaid :=
  OpenClaim.holds_of_wide 4 Tryz.f4 rfl rfl rfl rfl rfl rfl rfl ⟨rfl, rfl, rfl, rfl, rfl⟩ rfl rfl rfl rfl rfl (by kernel_rfl) Tryz.func4 (by kernel_rfl)
    (of_decide_eq_true (by kernel_rfl)) (by unfold Func.isWrapper; first | (rw [if_pos (by decide +kernel)]; kernel_rfl) | (rw [if_neg (by decide +kernel)]; exact ⟨rfl, rfl⟩))
    (fun os started H enc _ => lifted os started H enc)

theorem proved : Rows.FnExprGetCardSaid :=
  Claim7.holds_tied_plain_at .later [] [.data, .data, .data, .data, .sentinel, .sentinel, .data, .pinned] true Rows.fnExprGetCard.stood.harness true over (fun _ h => by cases h) (by kernel_rfl) (fun _ h => by cases h) fnExprGet_row_tie rfl ⟨rfl, rfl⟩ (by kernel_rfl) rfl
    (fun f fn hf hfn => by
      obtain rfl : f = 4 := Option.some.inj ((show Tryz.prog.funcNamed "loop.example/telltale/laws.FnExprGet" = some 4 by kernel_rfl).symm.trans hf) |>.symm
      obtain rfl : fn = Tryz.f4 := (Option.some.inj (Tryz.func4.symm.trans hfn)).symm
      exact ⟨by kernel_rfl, fun j t ht => by
        rw [Tryz.params4] at ht
        have hm : t ∈ [22] := by simpa using Array.mem_of_getElem? ht
        have hall : ([22].all fun u => !Tryz.prog.wantsStandIn u) = true := by kernel_rfl
        exact (show Tryz.prog.wantsStandIn t = false by simpa using List.all_eq_true.1 hall t hm)⟩)
    (by kernel_rfl)
#print axioms proved
end Go.Proofs.YtcajjngjojegfaaGreatDoor.fnExprGet
