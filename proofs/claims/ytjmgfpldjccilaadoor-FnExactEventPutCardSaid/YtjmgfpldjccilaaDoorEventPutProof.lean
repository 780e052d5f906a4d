/- For every event the law FnExactEventPut returns true: EventPut of the program answers as the model's, and its argument reads as before. The one condition is the row's own: the package-level variables hold what the program's text lays (tied by the card). -/
import Derived.Test.YtjmgfpldjccilaaDoorEvPutI2
import Derived.Test.YtjmgfpldjccilaaDoorEvPutM
import Derived.Test.YtjmgfpldjccilaaDoorEvLaidP
import Derived.ChangeOld
import Derived.Test.YtjmgfpldjccilaaDoorFlatEvent
import Derived.Test.YtjmgfpldjccilaaDoorIntCopy
import Derived.WalkKit
import Derived.ProofKit
import Derived.OpenShut
import Derived.Deep.RegionHeld3
namespace Go.Proofs.YtjmgfpldjccilaaDoor.fnExactEventPut
open Go Go.ChangeShapes Go.WideShapes Go.ChangeAt Go.RowKit Go.Deep Go.PlainAid
set_option linter.unusedVariables false
set_option linter.unusedSimpArgs false

set_option maxHeartbeats 1600000 in
set_option maxRecDepth 100000 in
theorem walk (i0 i1 i2 : Int) (a : Option Addr) (n c : Nat) (vs : List Int) (w : World) (hT : TbP w) (hc : n ≤ c) (hm : c ≤ maxLen) (hz : IsInts w.heap.size w a n vs) :
    Calls Tryd.prog 4 #[.agg #[.int .i64 i0, .int .i64 i1, .int .i64 i2, .slice a n c]] w fun e w' => e = .returned (.bool true) ∧ Below w.heap.size w w' := by
  have HZ : Hid (∀ W, Below w.heap.size w W → IsInts w.heap.size W a n vs) := fun W hb => hz.below hb
  have hl := hz.1
  have HTB := hidOf hT
  clear hT
  have HSZ : Hid (∀ W, Below w.heap.size w W → Calls Tryd.prog 12 #[.agg #[.int .i64 i0, .int .i64 i1, .int .i64 i2, .slice a n c], .int .i64 1048576] W fun e w' => SzP n 1048576 W e w') := fun W hb => szEvent_gen n i0 i1 i2 a n c 1048576 W fun W' hb' => szIntS_any a n c 1048576 _ (by decide) (by decide) (Nat.le_trans hc hm)
  clear hz
  go_enter Tryd.func4, Tryd.ntmps4
  go_wp2_with fail
  refine (HSZ.out _ (by go_grown)).mono ?_
  rintro e w1 ⟨r, rfl, hb1, p1, p2, p3⟩
  have HB1 := hidOf (below_boxed hb1)
  have BX1 := hidOf ((boxAt_new w [.int .i64 i0, .int .i64 i1, .int .i64 i2, .slice a n c] 32).below hb1)
  have HP := hidOf p3
  clear hb1 p3 HSZ
  have c0 : w1.cell? ⟨w.heap.size, 0, none⟩ = some (.int .i64 i0) := (BX1.out.2 0 _ rfl).1
  have c1 : w1.cell? ⟨w.heap.size, 1, none⟩ = some (.int .i64 i1) := (BX1.out.2 1 _ rfl).1
  have c2 : w1.cell? ⟨w.heap.size, 2, none⟩ = some (.int .i64 i2) := (BX1.out.2 2 _ rfl).1
  have c3 : w1.cell? ⟨w.heap.size, 3, none⟩ = some (.slice a n c) := (BX1.out.2 3 _ rfl).1
  have s1 := BX1.out.1
  by_cases hr : r < 0
  · go_wp2_with fail
    go_ret
    exact ⟨rfl, HB1.out⟩
  have hn : n ≤ 1048576 := by have := HP.out (by omega); omega
  have HTO : Hid (∀ W, Below w.heap.size w W → Calls Tryd.prog 13 #[.agg #[.int .i64 i0, .int .i64 i1, .int .i64 i2, .slice a n c]] W fun e w' => ∃ g, e = .returned (.agg #[.int .i64 i0, .int .i64 i1, .int .i64 i2, .slice (some ⟨g, 0, none⟩) n n]) ∧ CInt n vs (W.heap.size + 3) g w' ∧ Below W.heap.size W w') := fun W hb =>
    toEvent_gen (fun g w' => CInt n vs (W.heap.size + 3) g w') i0 i1 i2 a n c W (fun W' hb' hs => (toIntS_open w.heap.size a n c vs _ hn (by have := hb'.size; have := hb.size; omega) (HZ.out _ (hb.trans (hb'.mono hb.size)))).mono fun _ _ ⟨g, h1, h2, h3, h4, h5⟩ => ⟨g, h1, ⟨by omega, h5, h3⟩, h4⟩) (fun g p w1 w2 hp hmv hk => hk.mv hmv hp)
  clear HZ
  go_wp2_with fail
  refine (HTO.out _ HB1.out).mono ?_
  rintro e w2 ⟨g, rfl, hg, hb2⟩
  have HG := hidOf hg
  have HB2 : Hid (Below w.heap.size w w2) := HB1.out.trans (hb2.mono HB1.out.size)
  have BX2 := hidOf (BX1.out.below hb2)
  clear hg hb2 c0 c1 c2 c3
  go_wp2_with fail
  refine (specEventPut_any w2.heap.size i0 i1 i2 (some ⟨g, 0, none⟩) n n vs w2 (Nat.le_refl _) hn HG.out.is).mono ?_
  rintro e w3 ⟨rfl, hb3⟩
  have HB3 : Hid (Below w.heap.size w w3) := HB2.out.trans (hb3.mono HB2.out.size)
  have BX3 := hidOf (BX2.out.below hb3)
  have c0 : w3.cell? ⟨w.heap.size, 0, none⟩ = some (.int .i64 i0) := (BX3.out.2 0 _ rfl).1
  have c1 : w3.cell? ⟨w.heap.size, 1, none⟩ = some (.int .i64 i1) := (BX3.out.2 1 _ rfl).1
  have c2 : w3.cell? ⟨w.heap.size, 2, none⟩ = some (.int .i64 i2) := (BX3.out.2 2 _ rfl).1
  have c3 : w3.cell? ⟨w.heap.size, 3, none⟩ = some (.slice a n c) := (BX3.out.2 3 _ rfl).1
  have s3 := BX3.out.1
  clear hb3
  go_wp2_with fail
  refine (HTO.out _ HB3.out).mono ?_
  rintro e w4 ⟨g', rfl, hg', hb4⟩
  have HG' := hidOf hg'
  have HB4 : Hid (Below w.heap.size w w4) := HB3.out.trans (hb4.mono HB3.out.size)
  have BX4 := hidOf (BX3.out.below hb4)
  clear hg' hb4 c0 c1 c2 c3
  have hba : Below w4.heap.size w4 (w4.alloc (.cells #[.int .i64 i0, .int .i64 i1, .int .i64 i2, .slice (some ⟨g', 0, none⟩) n n] 25)) := (Below.refl _ _).alloc (Nat.le_refl _) _
  have HBA := hidOf hba
  have HIM0 := hidOf (implEventPut_any (w4.heap.size + 1) i0 i1 i2 (some ⟨g', 0, none⟩) n n vs (w4.alloc (.cells #[.int .i64 i0, .int .i64 i1, .int .i64 i2, .slice (some ⟨g', 0, none⟩) n n] 25)) ((HTB.out.up HB4.out).up hba) (by simp) hn (by have := HG'.out.is.up hba; simpa using this))
  obtain ⟨P, hP⟩ : ∃ P, bt8 (putE (i0, i1, i2, vs)) = P := ⟨_, rfl⟩
  have HIM := HIM0
  rw [hP] at HIM ⊢
  clear hP HIM0
  have BY4 := hidOf (boxAt_new w4 [.int .i64 i0, .int .i64 i1, .int .i64 i2, .slice (some ⟨g', 0, none⟩) n n] 25)
  clear hba
  go_wp2_with fail
  refine HIM.out.mono ?_
  rintro e w5 ⟨rfl, hb5⟩
  have HB5 : Hid (Below w4.heap.size w4 w5) := HBA.out.trans (hb5.mono (by simp))
  have BX5 := hidOf (BX4.out.below HB5.out)
  have BY5 := hidOf (BY4.out.below hb5)
  have c0 : w5.cell? ⟨w.heap.size, 0, none⟩ = some (.int .i64 i0) := (BX5.out.2 0 _ rfl).1
  have c1 : w5.cell? ⟨w.heap.size, 1, none⟩ = some (.int .i64 i1) := (BX5.out.2 1 _ rfl).1
  have c2 : w5.cell? ⟨w.heap.size, 2, none⟩ = some (.int .i64 i2) := (BX5.out.2 2 _ rfl).1
  have c3 : w5.cell? ⟨w.heap.size, 3, none⟩ = some (.slice a n c) := (BX5.out.2 3 _ rfl).1
  have d0 : w5.cell? ⟨w4.heap.size, 0, none⟩ = some (.int .i64 i0) := (BY5.out.2 0 _ rfl).1
  have d1 : w5.cell? ⟨w4.heap.size, 1, none⟩ = some (.int .i64 i1) := (BY5.out.2 1 _ rfl).1
  have d2 : w5.cell? ⟨w4.heap.size, 2, none⟩ = some (.int .i64 i2) := (BY5.out.2 2 _ rfl).1
  have d3 : w5.cell? ⟨w4.heap.size, 3, none⟩ = some (.slice (some ⟨g', 0, none⟩) n n) := (BY5.out.2 3 _ rfl).1
  have s5 := BX5.out.1
  have t5 := BY5.out.1
  have HBW5 : Hid (Below w.heap.size w w5) := HB4.out.trans (HB5.out.mono HB4.out.size)
  have HG5 := hidOf (HG'.out.below HB5.out)
  clear hb5
  go_wp2_with fail
  have HTD : Hid (∀ W, Below w5.heap.size w5 W → Calls Tryd.prog 13 #[.agg #[.int .i64 i0, .int .i64 i1, .int .i64 i2, .slice a n c]] W fun e w' => ∃ g, e = .returned (.agg #[.int .i64 i0, .int .i64 i1, .int .i64 i2, .slice (some ⟨g, 0, none⟩) n n]) ∧ CInt n vs (W.heap.size + 3) g w' ∧ Below W.heap.size W w') := fun W hb => HTO.out W (HBW5.out.trans (hb.mono HBW5.out.size))
  have HEQ : Hid (∀ W L L' g g', CInt n vs L g W → CInt n vs L' g' W → Calls Tryd.prog 14 #[.agg #[.int .i64 i0, .int .i64 i1, .int .i64 i2, .slice (some ⟨g, 0, none⟩) n n], .agg #[.int .i64 i0, .int .i64 i1, .int .i64 i2, .slice (some ⟨g', 0, none⟩) n n]] W fun e w' => e = .returned (.bool true) ∧ Below W.heap.size W w') := fun W L L' g g' hg hg' => eqEvent_gen i0 i1 i2 _ n n _ n n W fun W' hb' => eqIntS_same (some ⟨g, 0, none⟩) (some ⟨g', 0, none⟩) n n n vs _ hn (hg.is.up hb') (hg'.is.up hb')
  go_region_held3 (fun w' => w'.cell? ⟨w.heap.size, 0, none⟩ = some (.int .i64 i0) ∧ w'.cell? ⟨w.heap.size, 1, none⟩ = some (.int .i64 i1) ∧ w'.cell? ⟨w.heap.size, 2, none⟩ = some (.int .i64 i2) ∧ w'.cell? ⟨w.heap.size, 3, none⟩ = some (.slice a n c) ∧ w'.cell? ⟨w4.heap.size, 0, none⟩ = some (.int .i64 i0) ∧ w'.cell? ⟨w4.heap.size, 1, none⟩ = some (.int .i64 i1) ∧ w'.cell? ⟨w4.heap.size, 2, none⟩ = some (.int .i64 i2) ∧ w'.cell? ⟨w4.heap.size, 3, none⟩ = some (.slice (some ⟨g', 0, none⟩) n n)) (simp [go_sem, *])
    (first
      | (go_at_call 13; refine (HTD.out _ (by first | exact drewN (Below.refl _ _) 1 | go_grown)).mono ?_; rintro e w6 ⟨g'', rfl, hg6, hb6⟩; replace hb6 : Below w5.heap.size w5 w6 := undrew hb6; have HG6 := hidOf hg6; have HG7 := hidOf (HG5.out.below hb6); have HB6 := hidOf hb6; have s6 : w.heap.size < w6.heap.size := Nat.lt_of_lt_of_le s5 hb6.size; have t6 : w4.heap.size < w6.heap.size := Nat.lt_of_lt_of_le t5 hb6.size; obtain ⟨hc1, hf1⟩ := bcell hb6; clear hg6 hb6)
      | (go_at_call 14; refine (HEQ.out _ _ _ _ _ HG7.out HG6.out).mono ?_; rintro e w7 ⟨rfl, hb7⟩; have HB7 := hidOf hb7; obtain ⟨hc2, hf2⟩ := bcell hb7; clear hb7))
  go_wp2_with fail
  go_ret
  exact ⟨rfl, HBW5.out.trans ((HB6.out.trans (HB7.out.mono HB6.out.size)).mono HBW5.out.size)⟩

set_option maxRecDepth 100000 in
theorem lifted (os : Os) (started : os.Started) (H : Type) (enc : TypeId × Value → H) :
    ReturnsInHanded {} Tryd.checked os 4 .any (fun w args => (Rows.fnExactEventPutSpec.pre enc Tryd.prog Tryd.f4 Rows.fnExactEventPutRow.domain false w args ∧ laidMetH Tryd.prog laidP w) ∧ sizedMet enc Tryd.prog Tryd.f4 (OpenSpec.ofChange Rows.fnExactEventPutSpec) false w args)
      (Rows.fnExactEventPutSpec.post enc Tryd.prog Tryd.f4 false true false false) := by
  refine returnsInHanded_of_change_and (C := Tryd.checked) (X := fun w _ => laidMetH Tryd.prog laidP w) (fun _ _ _ hh h => h.of_heap hh) own started (by kernel_rfl) Tryd.func4
    (ChangeSpec.witness_shaped (enc := enc) (C := Tryd.checked) (os := os) (X := fun w _ => laidMetH Tryd.prog laidP w) false (World.laidAll Tryd.prog os laidP) #[.agg #[.int .i64 0, .int .i64 0, .int .i64 0, .slice none 0 0]] 8 (World.laidAll_os _ _ _)
      (shapedP os _) (by kernel_rfl) (by kernel_rfl) (by kernel_rfl) (metP os _)) ?_
  intro W base args ds gs before hval0 hW hcnd _ hL _
  have hval : ∀ (j : Nat) t v, Tryd.f4.params[j]? = some t → args[j]? = some v → Value.okWide Tryd.prog W .any base t v := hval0
  have hW' := hW
  obtain ⟨p, q, hA0, hV, rfl, hfz, hnd⟩ := hW
  have hA : DataW.TrodAll enc Tryd.prog W 0 (fun _ => true) true Tryd.f4.params.toList args.toList ds p := hA0
  rw [Tryd.params4] at hA hval
  obtain ⟨v0, d0, rfl, rfl, h0⟩ := trodAll_one hA
  have hV0 := hV
  obtain ⟨g, t, cs, fuel, gd, pp, rfl, _⟩ := trodVars_one hV0
  obtain ⟨cs, rfl, hsz⟩ := okWide_struct Tryd.underlying32 (hval 0 32 v0 rfl rfl)
  have k0 := h0
  have lt0 : ∀ x ∈ p, x.block < W.heap.size := by obtain ⟨m, hm⟩ := k0; exact DataW.trod_lt m _ _ _ hm
  obtain ⟨fuel0, hf0⟩ := h0
  obtain ⟨i0, i1, i2, a, n, c, hcs, ⟨hc, hm⟩, hwd, kk, yy, hy⟩ := open_Event fuel0 cs.toList _ (by rw [Array.length_toList, hsz]; kernel_rfl) hf0
  obtain rfl : cs = #[.int .i64 i0, .int .i64 i1, .int .i64 i2, .slice a n c] := by cases cs; simp_all
  obtain ⟨vs, _, hz⟩ := open_nums (a0 := a) (len0 := n) (cap0 := c) hy
  clear hA0 hval0
  refine (walk i0 i1 i2 a n c vs W (tabsP_of hL) hc hm hz).mono fun e W' ⟨he, bel⟩ => ?_
  subst he
  exact ⟨_, rfl, _, _, _, [], _, _, hW', trodAll_mk1 (shut_bool Tryd.underlying4 _), trodAll_mk1 (Below.trod laidOut (by kernel_rfl) (of_decide_eq_true (by kernel_rfl)) k0 bel lt0), Below.trodVars laidOut bel (by kernel_rfl) hV, bel.frame _, fun h => by cases h⟩

theorem over : Rows.FnExactEventPutSaid :=
  OpenClaim.holds_of_wide 4 Tryd.f4 rfl rfl rfl rfl rfl rfl rfl ⟨rfl, rfl, rfl, rfl, rfl⟩ rfl rfl rfl rfl rfl (by kernel_rfl) Tryd.func4 (by kernel_rfl)
    (of_decide_eq_true (by kernel_rfl)) (by unfold Func.isWrapper; first | (rw [if_pos (by decide +kernel)]; kernel_rfl) | (rw [if_neg (by decide +kernel)]; exact ⟨rfl, rfl⟩))
    (fun os started H enc _ => lifted os started H enc)

theorem proved : Rows.FnExactEventPutCardSaid :=
  Claim7.holds_tied_plain_at .later [] [.data, .data, .data, .data] true Rows.fnExactEventPutCard.stood.harness true over (fun _ h => by cases h) (by kernel_rfl) (fun _ h => by cases h) fnExactEventPut_row_tie rfl ⟨rfl, rfl⟩ (by kernel_rfl) rfl
    (fun f fn hf hfn => by
      obtain rfl : f = 4 := Option.some.inj ((show Tryd.prog.funcNamed "loop.example/telltale/laws.FnExactEventPut" = some 4 by kernel_rfl).symm.trans hf) |>.symm
      obtain rfl : fn = Tryd.f4 := (Option.some.inj (Tryd.func4.symm.trans hfn)).symm
      exact ⟨by kernel_rfl, fun j t ht => by
        rw [Tryd.params4] at ht
        have hm : t ∈ [32] := by simpa using Array.mem_of_getElem? ht
        have hall : ([32].all fun u => !Tryd.prog.wantsStandIn u) = true := by kernel_rfl
        exact (show Tryd.prog.wantsStandIn t = false by simpa using List.all_eq_true.1 hall t hm)⟩)
    (by kernel_rfl)
#print axioms proved
end Go.Proofs.YtjmgfpldjccilaaDoor.fnExactEventPut
