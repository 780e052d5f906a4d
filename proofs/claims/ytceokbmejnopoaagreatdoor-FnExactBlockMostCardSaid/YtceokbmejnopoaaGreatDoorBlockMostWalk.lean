/- For every Block and every text the law FnExactBlockMost returns true: BlockMost of the program answers as the model's, and its arguments read as before. The one condition is the row's own: the package-level variables that it names lie as the program's text lays them. -/
import Derived.Test.YtceokbmejnopoaaGreatDoorLaidB
import Derived.Test.YtceokbmejnopoaaGreatDoorBunY51
import Derived.Test.YtceokbmejnopoaaGreatDoorBunY9
import Derived.Test.YtceokbmejnopoaaGreatDoorBunY10
import Derived.Test.YtceokbmejnopoaaGreatDoorBunY39
import Derived.Test.YtceokbmejnopoaaGreatDoorBunY31
import Derived.ChangeOld
import Derived.WalkKit
import Derived.ProofKit
import Derived.Deep.RegionHeld3
namespace Go.Proofs.YtceokbmejnopoaaGreatDoor.fnExactBlockMost
open Go Go.ChangeShapes Go.WideShapes Go.ChangeAt Go.RowKit Go.Deep Go.PlainAid
set_option linter.unusedVariables false
set_option linter.unusedSimpArgs false


theorem few_of {x : Bk} (h : wtBk x ≤ 1048576) : FewBk x := by
  unfold wtBk at h
  refine ⟨⟨by omega, fun p hp => ?_⟩, ⟨by omega, fun p hp => ?_⟩, by omega, ⟨by omega, fun s hs => ?_⟩⟩
  · have h1 := wsum_mem (f := wtPt) hp
    have e : wtPt p = p.name.size + (p.vals.length + wsum wtS p.vals) := rfl
    show p.vals.length ≤ 1048576
    omega
  · have h1 := wsum_mem (f := wtPt) hp
    have e : wtPt p = p.name.size + (p.vals.length + wsum wtS p.vals) := rfl
    show p.vals.length ≤ 1048576
    omega
  · have h1 := wsum_mem (f := wtSt) hs
    have e : wtSt s = s.name.size + (s.moves.length + wsum wtMo s.moves) + (s.acts.length + wsum wtAc s.acts) := rfl
    exact ⟨by omega, by omega⟩

set_option maxHeartbeats 1600000 in
set_option maxRecDepth 100000 in
theorem walk (v : BkV) (x : Bk) (so : ByteArray) (w : World) (hw : Tabs w) (hW : WideBk x) (hx : IsBk w.heap.size w v x) (hsom : so.size ≤ maxLen) :
    Calls Tryz.prog 4 #[v.val x.name, .string so] w fun e w' => e = .returned (.bool true) ∧ Below w.heap.size w w' := by
  have HX : Hid (∀ W, Below w.heap.size w W → IsBk w.heap.size W v x) := fun W hb => hx.below hb
  have HW : Hid (Tabs w) := hw
  have HSZ : Hid (∀ W, Below w.heap.size w W → Calls Tryz.prog 8 #[v.val x.name, .int .i64 1048576] W fun e w' => SzP (wtBk x) 1048576 W e w') := fun W hb => szBlock_any w.heap.size W 1048576 v x (by decide) (by decide) hb.size hW (HX.out W hb)
  have HTO : Hid (wtBk x ≤ 1048576 → ∀ W, Below w.heap.size w W → Calls Tryz.prog 10 #[v.val x.name] W fun e w' => ∃ gi go gv gs, e = .returned ((cpV v.ni v.no v.nv v.nt gi go gv gs).val x.name) ∧ CpB W.heap.size w' v.ni v.no v.nv v.nt gi go gv gs x ∧ Below W.heap.size W w') := fun hk W hb => toBlock_any w.heap.size W v x hb.size (few_of hk) (HX.out W hb)
  have HSP : Hid (wtBk x ≤ 1048576 → so.size ≤ 1048576 → ∀ W L gi go gv gs, CpB L W v.ni v.no v.nv v.nt gi go gv gs x → Calls Tryz.prog 17 #[(cpV v.ni v.no v.nv v.nt gi go gv gs).val x.name, .string so] W fun e w' => e = .returned (.int .i64 (bmM x so)) ∧ Below W.heap.size W w') := fun hk hs W L gi go gv gs hg => specBlockMost_any W.heap.size _ x so W (Nat.le_refl _) hk hs (hg.is (few_of hk))
  have HIM : Hid (wtBk x ≤ 1048576 → so.size ≤ 1048576 → ∀ W L gi go gv gs, Tabs W → CpB L W v.ni v.no v.nv v.nt gi go gv gs x → Calls Tryz.prog 18 #[(cpV v.ni v.no v.nv v.nt gi go gv gs).val x.name, .string so] W fun e w' => e = .returned (.int .i64 (bmM x so)) ∧ Below W.heap.size W w') := fun hk hs W L gi go gv gs ht hg => implBlockMost_any W.heap.size _ x so W (Nat.le_refl _) hk hs (hg.is (few_of hk)) ht
  have HEQ : Hid (wtBk x ≤ 1048576 → ∀ W L L' gi go gv gs hi ho hv hs, CpB L W v.ni v.no v.nv v.nt gi go gv gs x → CpB L' W v.ni v.no v.nv v.nt hi ho hv hs x → Calls Tryz.prog 13 #[(cpV v.ni v.no v.nv v.nt gi go gv gs).val x.name, (cpV v.ni v.no v.nv v.nt hi ho hv hs).val x.name] W fun e w' => e = .returned (.bool true) ∧ Below W.heap.size W w') := fun hk W L L' gi go gv gs hi ho hv hs hg hh => eqBlock_same W.heap.size _ _ x W (Nat.le_refl _) (few_of hk) (hg.is (few_of hk)) (hh.is (few_of hk))
  clear hx hw hW HX
  unfold maxLen at hsom
  obtain ⟨ai, ni, ci, ao, no, co, av, nv, cv, at_, nt, ct⟩ := v
  obtain ⟨xn, hxn⟩ : ∃ n, x.name = n := ⟨_, rfl⟩
  obtain ⟨ans, hans⟩ : ∃ n, bmM x so = n := ⟨_, rfl⟩
  simp only [BkV.val, cpV] at HSZ HTO HSP HIM HEQ ⊢
  rw [hxn] at HSZ HTO HSP HIM HEQ ⊢
  rw [hans] at HSP HIM
  clear hxn hans
  by_cases hbig : 1048576 < so.size
  · go_enter Tryz.func4, Tryz.ntmps4
    go_wp2_with fail
    go_ret
    exact ⟨rfl, by go_grown⟩
  have hso : so.size ≤ 1048576 := by omega
  have HSO := hidOf hso
  go_enter Tryz.func4, Tryz.ntmps4
  go_wp2_with fail
  refine (HSZ.out _ (by go_grown)).mono ?_
  rintro e w1 ⟨r, rfl, hb1, p1, p2, p3⟩
  have HB1 := hidOf (below_boxed hb1)
  have BX1 := hidOf ((boxAt_new w [.string xn, .slice ai ni ci, .slice ao no co, .slice av nv cv, .slice at_ nt ct] 26).below hb1)
  have HP := hidOf p3
  clear hb1 p3 HSZ
  have c0 : w1.cell? ⟨w.heap.size, 0, none⟩ = some (.string xn) := (BX1.out.2 0 _ rfl).1
  have c1 : w1.cell? ⟨w.heap.size, 1, none⟩ = some (.slice ai ni ci) := (BX1.out.2 1 _ rfl).1
  have c2 : w1.cell? ⟨w.heap.size, 2, none⟩ = some (.slice ao no co) := (BX1.out.2 2 _ rfl).1
  have c3 : w1.cell? ⟨w.heap.size, 3, none⟩ = some (.slice av nv cv) := (BX1.out.2 3 _ rfl).1
  have c4 : w1.cell? ⟨w.heap.size, 4, none⟩ = some (.slice at_ nt ct) := (BX1.out.2 4 _ rfl).1
  have sc := BX1.out.1
  by_cases hr : r < 0
  · go_wp2_with fail
    go_ret
    exact ⟨rfl, HB1.out⟩
  have HK : Hid (wtBk x ≤ 1048576) := by have := HP.out (by omega); show _ ≤ _; omega
  clear HP
  go_wp2_with fail
  refine (HTO.out HK.out _ HB1.out).mono ?_
  rintro e w2 ⟨gi, go, gv, gs, rfl, hg, hb2⟩
  have HG := hidOf hg
  have HB2 : Hid (Below w.heap.size w w2) := HB1.out.trans (hb2.mono HB1.out.size)
  have BX2 := hidOf (BX1.out.below hb2)
  clear c0 c1 c2 c3 c4 sc
  clear hg hb2
  go_wp2_with fail
  refine (HSP.out HK.out HSO.out _ _ _ _ _ _ HG.out).mono ?_
  rintro e w3 ⟨rfl, hb3⟩
  have HB3 : Hid (Below w.heap.size w w3) := HB2.out.trans (hb3.mono HB2.out.size)
  have BX3 := hidOf (BX2.out.below hb3)
  have c0 : w3.cell? ⟨w.heap.size, 0, none⟩ = some (.string xn) := (BX3.out.2 0 _ rfl).1
  have c1 : w3.cell? ⟨w.heap.size, 1, none⟩ = some (.slice ai ni ci) := (BX3.out.2 1 _ rfl).1
  have c2 : w3.cell? ⟨w.heap.size, 2, none⟩ = some (.slice ao no co) := (BX3.out.2 2 _ rfl).1
  have c3 : w3.cell? ⟨w.heap.size, 3, none⟩ = some (.slice av nv cv) := (BX3.out.2 3 _ rfl).1
  have c4 : w3.cell? ⟨w.heap.size, 4, none⟩ = some (.slice at_ nt ct) := (BX3.out.2 4 _ rfl).1
  have sc := BX3.out.1
  clear hb3
  go_wp2_with fail
  refine (HTO.out HK.out _ HB3.out).mono ?_
  rintro e w4 ⟨hi, ho, hv, hs, rfl, hg', hb4⟩
  have HG' := hidOf hg'
  have HB4 : Hid (Below w.heap.size w w4) := HB3.out.trans (hb4.mono HB3.out.size)
  have BX4 := hidOf (BX3.out.below hb4)
  clear c0 c1 c2 c3 c4 sc
  clear hg' hb4
  have hba : Below w4.heap.size w4 (w4.alloc (.cells #[.string xn, .slice (some ⟨hi, 0, none⟩) ni ni, .slice (some ⟨ho, 0, none⟩) no no, .slice (some ⟨hv, 0, none⟩) nv nv, .slice (some ⟨hs, 0, none⟩) nt nt] 34)) := (Below.refl _ _).alloc (Nat.le_refl _) _
  have HBA := hidOf hba
  have HIN := hidOf (HIM.out HK.out HSO.out (w4.alloc (.cells #[.string xn, .slice (some ⟨hi, 0, none⟩) ni ni, .slice (some ⟨ho, 0, none⟩) no no, .slice (some ⟨hv, 0, none⟩) nv nv, .slice (some ⟨hs, 0, none⟩) nt nt] 34)) _ _ _ _ _ (HW.out.below (HB4.out.trans (hba.mono HB4.out.size))) (HG'.out.below hba))
  have BY4 := hidOf (boxAt_new w4 [.string xn, .slice (some ⟨hi, 0, none⟩) ni ni, .slice (some ⟨ho, 0, none⟩) no no, .slice (some ⟨hv, 0, none⟩) nv nv, .slice (some ⟨hs, 0, none⟩) nt nt] 34)
  clear hba
  go_wp2_with fail
  refine HIN.out.mono ?_
  rintro e w5 ⟨rfl, hb5⟩
  have HB5 : Hid (Below w4.heap.size w4 w5) := HBA.out.trans (hb5.mono (by simp))
  have BX5 := hidOf (BX4.out.below HB5.out)
  have BY5 := hidOf (BY4.out.below hb5)
  have c0 : w5.cell? ⟨w.heap.size, 0, none⟩ = some (.string xn) := (BX5.out.2 0 _ rfl).1
  have c1 : w5.cell? ⟨w.heap.size, 1, none⟩ = some (.slice ai ni ci) := (BX5.out.2 1 _ rfl).1
  have c2 : w5.cell? ⟨w.heap.size, 2, none⟩ = some (.slice ao no co) := (BX5.out.2 2 _ rfl).1
  have c3 : w5.cell? ⟨w.heap.size, 3, none⟩ = some (.slice av nv cv) := (BX5.out.2 3 _ rfl).1
  have c4 : w5.cell? ⟨w.heap.size, 4, none⟩ = some (.slice at_ nt ct) := (BX5.out.2 4 _ rfl).1
  have sc := BX5.out.1
  have e0 : w5.cell? ⟨w4.heap.size, 0, none⟩ = some (.string xn) := (BY5.out.2 0 _ rfl).1
  have e1 : w5.cell? ⟨w4.heap.size, 1, none⟩ = some (.slice (some ⟨hi, 0, none⟩) ni ni) := (BY5.out.2 1 _ rfl).1
  have e2 : w5.cell? ⟨w4.heap.size, 2, none⟩ = some (.slice (some ⟨ho, 0, none⟩) no no) := (BY5.out.2 2 _ rfl).1
  have e3 : w5.cell? ⟨w4.heap.size, 3, none⟩ = some (.slice (some ⟨hv, 0, none⟩) nv nv) := (BY5.out.2 3 _ rfl).1
  have e4 : w5.cell? ⟨w4.heap.size, 4, none⟩ = some (.slice (some ⟨hs, 0, none⟩) nt nt) := (BY5.out.2 4 _ rfl).1
  have se := BY5.out.1
  have HBW5 : Hid (Below w.heap.size w w5) := HB4.out.trans (HB5.out.mono HB4.out.size)
  have HG5 := hidOf (HG'.out.below HB5.out)
  clear hb5
  go_wp2_with fail
  go_region_held3 (fun w' => w'.cell? ⟨w.heap.size, 0, none⟩ = some (.string xn) ∧ w'.cell? ⟨w.heap.size, 1, none⟩ = some (.slice ai ni ci) ∧ w'.cell? ⟨w.heap.size, 2, none⟩ = some (.slice ao no co) ∧ w'.cell? ⟨w.heap.size, 3, none⟩ = some (.slice av nv cv) ∧ w'.cell? ⟨w.heap.size, 4, none⟩ = some (.slice at_ nt ct) ∧ w'.cell? ⟨w4.heap.size, 0, none⟩ = some (.string xn) ∧ w'.cell? ⟨w4.heap.size, 1, none⟩ = some (.slice (some ⟨hi, 0, none⟩) ni ni) ∧ w'.cell? ⟨w4.heap.size, 2, none⟩ = some (.slice (some ⟨ho, 0, none⟩) no no) ∧ w'.cell? ⟨w4.heap.size, 3, none⟩ = some (.slice (some ⟨hv, 0, none⟩) nv nv) ∧ w'.cell? ⟨w4.heap.size, 4, none⟩ = some (.slice (some ⟨hs, 0, none⟩) nt nt)) (simp [go_sem, *])
    (first
      | (go_at_call 10; refine (HTO.out HK.out _ (by first | exact HBW5.out | exact below_drew1 HBW5.out | exact drewN HBW5.out _)).mono ?_; rintro e w6 ⟨ki, ko, kv, ks, rfl, hg6, hb6⟩; replace hb6 : Below w5.heap.size w5 w6 := undrew hb6; have HG6 := hidOf hg6; have HG7 := hidOf (HG5.out.below hb6); have HB6 := hidOf hb6; have s6 : w.heap.size < w6.heap.size := Nat.lt_of_lt_of_le sc hb6.size; have t6 : w4.heap.size < w6.heap.size := Nat.lt_of_lt_of_le se hb6.size; obtain ⟨hc1, hf1⟩ := bcell hb6; clear hg6 hb6)
      | (go_at_call 13; refine (HEQ.out HK.out _ _ _ _ _ _ _ _ _ _ _ HG7.out HG6.out).mono ?_; rintro e w7 ⟨rfl, hb7⟩; have HB7 := hidOf hb7; obtain ⟨hc2, hf2⟩ := bcell hb7; clear hb7))
  go_wp2_with fail
  go_ret
  exact ⟨rfl, HBW5.out.trans ((HB6.out.trans (HB7.out.mono HB6.out.size)).mono HBW5.out.size)⟩

/-! ### THE ROW's STEP -/
set_option maxRecDepth 100000 in
theorem lifted (os : Os) (started : os.Started) (H : Type) (enc : TypeId × Value → H) :
    ReturnsInHanded {} Tryz.checked os 4 .any (fun w args => (Rows.fnExactBlockMostSpec.pre enc Tryz.prog Tryz.f4 Rows.fnExactBlockMostRow.domain false w args ∧ laidMetH Tryz.prog theLaid w) ∧ sizedMet enc Tryz.prog Tryz.f4 (OpenSpec.ofChange Rows.fnExactBlockMostSpec) false w args)
      (Rows.fnExactBlockMostSpec.post enc Tryz.prog Tryz.f4 false true false false) := by
  refine returnsInHanded_of_change_and (C := Tryz.checked) (X := fun w _ => laidMetH Tryz.prog theLaid w) (fun _ _ _ hh h => h.of_heap hh) own started (by kernel_rfl) Tryz.func4
    (ChangeSpec.witness_shaped (enc := enc) (C := Tryz.checked) (os := os) (X := fun w _ => laidMetH Tryz.prog theLaid w) false (World.laidAll Tryz.prog os theLaid) #[.agg #[.string ByteArray.empty, .slice none 0 0, .slice none 0 0, .slice none 0 0, .slice none 0 0], .string ByteArray.empty] 8 (World.laidAll_os _ _ _)
      (shapedL os _) (by kernel_rfl) (by kernel_rfl) (by kernel_rfl) (metL os _)) ?_
  intro W base args ds gs before hval0 hW hcnd _ hL _
  have hval : ∀ (j : Nat) t v, Tryz.f4.params[j]? = some t → args[j]? = some v → Value.okWide Tryz.prog W .any base t v := hval0
  have hW' := hW
  obtain ⟨p, q, hA0, hV, rfl, hfz, hnd⟩ := hW
  have hA : DataW.TrodAll enc Tryz.prog W 0 (fun _ => true) true Tryz.f4.params.toList args.toList ds p := hA0
  rw [Tryz.params4] at hA hval
  obtain ⟨v0, vs0, d0, ds0, p0, q0, hargs, rfl, rfl, h0, r0⟩ := trodAll_cons hA
  obtain ⟨v1, vs1, d1, ds1, p1, q1, rfl, rfl, rfl, h1, r1⟩ := trodAll_cons r0
  obtain ⟨rfl, rfl, rfl⟩ := trodAll_nil r1
  obtain rfl : args = #[v0, v1] := by cases args; simp_all
  have hV0 := hV
  obtain ⟨g, t, cs, fuel, gd, pp, rfl, _⟩ := trodVars_one hV0
  obtain ⟨cs0, rfl, hsz0⟩ := okWide_struct Tryz.underlying26 (hval 0 26 v0 rfl rfl)
  obtain ⟨so, rfl⟩ := okWide_string Tryz.underlying9 (hval 1 9 v1 rfl rfl)
  have k0 := h0
  have lt0 : ∀ x ∈ p0, x.block < W.heap.size := by obtain ⟨m, hm⟩ := k0; exact DataW.trod_lt m _ _ _ hm
  have k1 := h1
  have lt1 : ∀ x ∈ p1, x.block < W.heap.size := by obtain ⟨m, hm⟩ := k1; exact DataW.trod_lt m _ _ _ hm
  obtain ⟨fuel0, hf0⟩ := h0
  obtain ⟨v, x, hcs0, hx, hwd⟩ := open_block fuel0 cs0.toList _ (by rw [Array.length_toList, hsz0]; kernel_rfl) hf0
  obtain rfl : cs0 = #[.string x.name, .slice v.ai v.ni v.ci, .slice v.ao v.no v.co, .slice v.av v.nv v.cv, .slice v.at_ v.nt v.ct] := by cases cs0; simpa [BkV.val, Value.cells] using hcs0
  have hsom : so.size ≤ maxLen := by
    obtain ⟨f1, hf1⟩ := h1
    obtain ⟨s', e1, _, w1⟩ := DataW.trod_string Tryz.underlying9 hf1
    simp [Value.cells] at e1
    subst e1
    exact w1
  clear hA0 hval0
  refine (walk v x so W (tabs_of hL) hwd hx hsom).mono fun e W' ⟨he, bel⟩ => ?_
  subst he
  exact ⟨_, rfl, _, _, _, [], _, _, hW', trodAll_mk1 (shut_bool Tryz.underlying4 _), (trodAll_cons_mk (Below.trod laidOut (by kernel_rfl) (of_decide_eq_true (by kernel_rfl)) k0 bel lt0) (trodAll_cons_mk (Below.trod laidOut (by kernel_rfl) (of_decide_eq_true (by kernel_rfl)) k1 bel lt1) trodAll_mk0)), Below.trodVars laidOut bel (by kernel_rfl) hV, bel.frame _, fun h => by cases h⟩
end Go.Proofs.YtceokbmejnopoaaGreatDoor.fnExactBlockMost
