/- For every text the law FnExactExprGet returns true: ExprGet of the program answers as the model's; its answer owns its memory, also behind another call. The one condition is the row's own: the package-level variables hold what the program's text lays (tied by the card). -/
import Derived.Test.YtcajjngjojegfaaGreatDoorBunF
import Derived.Test.YtcajjngjojegfaaGreatDoorMarks
import Derived.ShutString
import Derived.ChangeOld
namespace Go.Proofs.YtcajjngjojegfaaGreatDoor.fnExactExprGet
open Go.ChangeShapes Go.WideShapes Go.ChangeAt Go.RowKit Go.Deep Go.PlainAid
open Go.ChangeMaps (open_string shut_string)
set_option linter.unusedVariables false
set_option linter.unusedSimpArgs false

/-- what reading a text leaves: a list of its own -/
def GetPost (w : World) (l : List Nd) (n : Nat) (b : Bool) (e : Ending) (w' : World) : Prop :=
  ∃ a cap, e = .returned (.tuple #[.slice a n cap, .bool b]) ∧ OwnNd w.heap.size w' (.slice a n cap) l ∧ Below w.heap.size w w'
theorem form_len {B : Nat} {w : World} {v : Value} {l : List Nd} {n : Nat} (h : OwnNd B w v l) (hn : l.length = n) : ∃ a cap, v = .slice a n cap := by
  obtain ⟨a, cap, h1, _⟩ := h.form
  exact ⟨a, cap, by rw [h1, hn]⟩
theorem is_len {B : Nat} {w : World} {a : Option Addr} {n cap : Nat} {l : List Nd} (h : OwnNd B w (.slice a n cap) l) (hn : l.length = n) : IsNds w.heap.size w a n l := by
  obtain ⟨a', cap', h1, h2⟩ := h.is
  cases h1
  rw [hn] at h2; exact h2
theorem get_both (s : ByteArray) (hs : s.size ≤ 1048576) : ∃ (l : List Nd) (b : Bool), l.length ≤ 24 ∧ (∀ w, Calls Tryz.prog 18 #[.string s] w fun e w' => GetPost w l l.length b e w') ∧ ∀ w, Tabs w → Calls Tryz.prog 15 #[.string s] w fun e w' => GetPost w l l.length b e w' := by
  cases h : exprM s with
  | none =>
    refine ⟨[], false, by simp, fun w => (ExprGet_any s w hs).mono ?_, fun w hw => (implGet_any s w hw (by unfold maxLen; omega)).mono ?_⟩
    · rintro e w' ⟨v, b, rfl, h1, h2, hb⟩
      obtain ⟨rfl, rfl⟩ := h1 h
      exact ⟨none, 0, rfl, own_nil _ _, hb⟩
    · rintro e w' ⟨v, b, rfl, h1, h2, hb⟩
      obtain ⟨rfl, rfl⟩ := h1 h
      exact ⟨none, 0, rfl, own_nil _ _, hb⟩
  | some l =>
    have hl : l.length ≤ 24 := by
      unfold exprM at h
      split at h
      · rename_i l' hg
        split at h
        · cases h
        · cases h; exact getM_len hg
      · cases h
    refine ⟨l, true, hl, fun w => (ExprGet_any s w hs).mono ?_, fun w hw => (implGet_any s w hw (by unfold maxLen; omega)).mono ?_⟩
    · rintro e w' ⟨v, b, rfl, h1, h2, hb⟩
      obtain ⟨rfl, ho⟩ := h2 l h
      obtain ⟨a, cap, rfl⟩ := form_len ho rfl
      exact ⟨a, cap, rfl, ho, hb⟩
    · rintro e w' ⟨v, b, rfl, h1, h2, hb⟩
      obtain ⟨rfl, ho⟩ := h2 l h
      obtain ⟨a, cap, rfl⟩ := form_len ho rfl
      exact ⟨a, cap, rfl, ho, hb⟩

set_option maxHeartbeats 1600000 in
set_option maxRecDepth 100000 in
theorem walk (s : ByteArray) (w : World) (hw : Tabs w) (hm : s.size ≤ maxLen) :
    Calls Tryz.prog 8 #[.string s] w fun e w' => e = .returned (.bool true) ∧ Below w.heap.size w w' := by
  unfold maxLen at hm
  by_cases hbig : 1048576 < s.size
  · go_enter Tryz.func8, Tryz.ntmps8
    go_wp2_with fail
    go_ret
    exact ⟨rfl, Below.refl _ _⟩
  obtain ⟨l, b, hl, hspec, himpl⟩ := get_both s (by omega)
  have HS : Hid (∀ w, Calls Tryz.prog 18 #[.string s] w fun e w' => GetPost w l l.length b e w') := hspec
  have HI : Hid (∀ w, Tabs w → Calls Tryz.prog 15 #[.string s] w fun e w' => GetPost w l l.length b e w') := himpl
  have HW : Hid (Tabs w) := hw
  obtain ⟨n, hn⟩ : ∃ n, l.length = n := ⟨_, rfl⟩
  have HN : Hid (l.length = n) := hn
  rw [hn] at hl HS HI
  clear hspec himpl hw hn
  go_enter Tryz.func8, Tryz.ntmps8
  go_wp2_with fail
  refine (HS.out w).mono ?_
  rintro e w1 ⟨a0, c0, rfl, ho0, bel1⟩
  have HB1 : Hid (Below w.heap.size w w1) := bel1
  have I1 : Hid (IsNds w1.heap.size w1 a0 n l) := is_len ho0 HN.out
  have HW1 : Hid (Tabs w1) := HW.out.up bel1
  clear ho0 bel1 HS
  go_wp2_with fail
  refine (HI.out w1 HW1.out).mono ?_
  rintro e w2 ⟨a1, c1, rfl, ho1, bel2⟩
  have HB2 : Hid (Below w1.heap.size w1 w2) := bel2
  have HO2 : Hid (OwnNd w1.heap.size w2 (.slice a1 n c1) l) := ho1
  have J2 : Hid (IsNds w2.heap.size w2 a1 n l) := is_len ho1 HN.out
  have I2 : Hid (IsNds w2.heap.size w2 a0 n l) := (I1.out.below bel2).mono bel2.size
  clear ho1 bel2
  have HE : Hid (Calls Tryz.prog 29 #[.slice a1 n c1, .slice a0 n c0] w2 fun e w' => e = .returned (.bool true) ∧ Below w2.heap.size w2 w') := eqNodeS_same w2.heap.size a1 a0 n c1 c0 l w2 (by omega) (Nat.le_refl _) J2.out I2.out
  go_wp2_with (go_at_call 29; refine HE.out.mono ?_; rintro e w3 ⟨rfl, bel3⟩; have HO3 : Hid (OwnNd w1.heap.size w3 (.slice a1 n c1) l) := HO2.out.old bel3; have HB3 : Hid (Below w1.heap.size w1 w3) := below_up HB2.out HB2.out.size bel3; clear bel3 HE)
  cases b
  all_goals
    go_wp2_with fail
    refine (markNodeS_any w1.heap.size (.slice a1 n c1) l 1 w3 HB3.out.size HO3.out (by rw [HN.out]; omega) (by decide) (by decide)).mono ?_
    rintro e w4 ⟨rfl, bel4, ho4⟩
    rw [HN.out] at ho4 ⊢
    have HO4 : Hid (OwnNd w1.heap.size w4 (.slice a1 n c1) (markL n 1)) := ho4
    have HB4 : Hid (Below w1.heap.size w1 w4) := HB3.out.trans bel4
    have J4 : Hid (IsNds w4.heap.size w4 a1 n (markL n 1)) := is_len ho4 (markL_len n 1)
    clear bel4 ho4 HO3
    go_wp2_with fail
    refine (heldNodeS_any w4.heap.size a1 n c1 1 w4 (Nat.le_refl _) J4.out (by omega) (by decide) (by decide)).mono ?_
    rintro e w5 ⟨rfl, bel5⟩
    have HB5 : Hid (Below w1.heap.size w1 w5) := below_up HB4.out HB4.out.size bel5
    have J5 : Hid (IsNds w5.heap.size w5 a1 n (markL n 1)) := (J4.out.below bel5).mono bel5.size
    have HW5 : Hid (Tabs w5) := HW1.out.up HB5.out
    clear bel5
    go_wp2_with fail
    refine (HI.out w5 HW5.out).mono ?_
    rintro e w6 ⟨a2, c2, rfl, ho2, bel6⟩
    have HB6 : Hid (Below w1.heap.size w1 w6) := below_up HB5.out HB5.out.size bel6
    have J6 : Hid (IsNds w6.heap.size w6 a1 n (markL n 1)) := (J5.out.below bel6).mono bel6.size
    have K6 : Hid (IsNds w6.heap.size w6 a2 n l) := is_len ho2 HN.out
    have I6 : Hid (IsNds w6.heap.size w6 a0 n l) := (I1.out.below HB6.out).mono HB6.out.size
    clear bel6 ho2
    have HE6 : Hid (Calls Tryz.prog 29 #[.slice a2 n c2, .slice a0 n c0] w6 fun e w' => e = .returned (.bool true) ∧ Below w6.heap.size w6 w') := eqNodeS_same w6.heap.size a2 a0 n c2 c0 l w6 (by omega) (Nat.le_refl _) K6.out I6.out
    go_wp2_with (go_at_call 29; refine HE6.out.mono ?_; rintro e w7 ⟨rfl, bel7⟩; have HB7 : Hid (Below w1.heap.size w1 w7) := below_up HB6.out HB6.out.size bel7; have J7 : Hid (IsNds w7.heap.size w7 a1 n (markL n 1)) := (J6.out.below bel7).mono bel7.size; clear bel7 HE6)
    refine (heldNodeS_any w7.heap.size a1 n c1 1 w7 (Nat.le_refl _) J7.out (by omega) (by decide) (by decide)).mono ?_
    rintro e w8 ⟨rfl, bel8⟩
    have HB8 : Hid (Below w1.heap.size w1 w8) := below_up HB7.out HB7.out.size bel8
    clear bel8
    go_wp2_with fail
    go_ret
    exact ⟨rfl, below_up HB1.out HB1.out.size HB8.out⟩

/-! ### THE ROW's STEP -/
set_option maxRecDepth 100000 in
theorem lifted (os : Os) (started : os.Started) (H : Type) (enc : TypeId × Value → H) :
    ReturnsInHanded {} Tryz.checked os 8 .any (fun w args => (Rows.fnExactExprGetSpec.pre enc Tryz.prog Tryz.f8 Rows.fnExactExprGetRow.domain false w args ∧ laidMetH Tryz.prog theLaid w) ∧ sizedMet enc Tryz.prog Tryz.f8 (OpenSpec.ofChange Rows.fnExactExprGetSpec) false w args)
      (Rows.fnExactExprGetSpec.post enc Tryz.prog Tryz.f8 false true false false) := by
  refine returnsInHanded_of_change_and (C := Tryz.checked) (X := fun w _ => laidMetH Tryz.prog theLaid w) (fun _ _ _ hh h => h.of_heap hh) own started (by kernel_rfl) Tryz.func8
    (ChangeSpec.witness_shaped (enc := enc) (C := Tryz.checked) (os := os) (X := fun w _ => laidMetH Tryz.prog theLaid w) false (World.laidAll Tryz.prog os theLaid) #[.string ⟨#[]⟩] 8 (World.laidAll_os _ _ _)
      (shapedL os _) (by kernel_rfl) (by kernel_rfl) (by kernel_rfl) (metL os _)) ?_
  intro W base args ds gs before hval0 hW hcnd _ hL _
  have hval : ∀ (j : Nat) t v, Tryz.f8.params[j]? = some t → args[j]? = some v → Value.okWide Tryz.prog W .any base t v := hval0
  have hW' := hW
  obtain ⟨p, q, hA0, hV, rfl, hfz, hnd⟩ := hW
  have hA : DataW.TrodAll enc Tryz.prog W 0 (fun _ => true) true Tryz.f8.params.toList args.toList ds p := hA0
  rw [Tryz.params8] at hA hval
  obtain ⟨v0, d0, rfl, rfl, h0⟩ := trodAll_one hA
  have hV0 := hV
  obtain ⟨g, t, cs, fuel, gd, pp, rfl, _⟩ := trodVars_one hV0
  have k0 := h0
  have lt0 : ∀ x ∈ p, x.block < W.heap.size := by obtain ⟨m, hm⟩ := k0; exact DataW.trod_lt m _ _ _ hm
  obtain ⟨s0, rfl, rfl, rfl, hs0⟩ := open_string Tryz.underlying9 (hval 0 9 v0 rfl rfl) h0
  clear hA0 hval0
  refine (walk s0 W (tabs_of hL) hs0).mono fun e W' ⟨he, bel⟩ => ?_
  subst he
  exact ⟨_, rfl, _, _, _, [], _, _, hW', trodAll_mk1 (shut_bool Tryz.underlying4 _), trodAll_mk1 (Below.trod laidOut (by kernel_rfl) (of_decide_eq_true (by kernel_rfl)) k0 bel lt0), Below.trodVars laidOut bel (by kernel_rfl) hV, bel.frame _, fun h => by cases h⟩

theorem over : Rows.FnExactExprGetSaid :=
  OpenClaim.holds_of_wide 8 Tryz.f8 rfl rfl rfl rfl rfl rfl rfl ⟨rfl, rfl, rfl, rfl, rfl⟩ rfl rfl rfl rfl rfl (by kernel_rfl) Tryz.func8 (by kernel_rfl)
    (of_decide_eq_true (by kernel_rfl)) (by unfold Func.isWrapper; first | (rw [if_pos (by decide +kernel)]; kernel_rfl) | (rw [if_neg (by decide +kernel)]; exact ⟨rfl, rfl⟩))
    (fun os started H enc _ => lifted os started H enc)

theorem proved : Rows.FnExactExprGetCardSaid :=
  Claim7.holds_tied_plain_at .later [] [.data, .data, .data, .data, .sentinel, .sentinel, .data, .pinned] true Rows.fnExactExprGetCard.stood.harness true over (fun _ h => by cases h) (by kernel_rfl) (fun _ h => by cases h) fnExactExprGet_row_tie rfl ⟨rfl, rfl⟩ (by kernel_rfl) rfl
    (fun f fn hf hfn => by
      obtain rfl : f = 8 := Option.some.inj ((show Tryz.prog.funcNamed "loop.example/telltale/laws.FnExactExprGet" = some 8 by kernel_rfl).symm.trans hf) |>.symm
      obtain rfl : fn = Tryz.f8 := (Option.some.inj (Tryz.func8.symm.trans hfn)).symm
      exact ⟨by kernel_rfl, fun j t ht => by
        rw [Tryz.params8] at ht
        have hm : t ∈ [9] := by simpa using Array.mem_of_getElem? ht
        have hall : ([9].all fun u => !Tryz.prog.wantsStandIn u) = true := by kernel_rfl
        exact (show Tryz.prog.wantsStandIn t = false by simpa using List.all_eq_true.1 hall t hm)⟩)
    (by kernel_rfl)
#print axioms proved
end Go.Proofs.YtcajjngjojegfaaGreatDoor.fnExactExprGet
