/- For every Block and every Inst the law FnExactInstOk returns true: InstOk of the program answers as the model's, and its arguments read as before. The one condition is the row's own: the package-level variables that it names lie as the program's text lays them. -/
import Derived.Test.YtceokbmejnopoaaGreatDoorLaidB
import Derived.Test.YtceokbmejnopoaaGreatDoorInstImpl
import Derived.Test.YtceokbmejnopoaaGreatDoorBunY9
import Derived.Test.YtceokbmejnopoaaGreatDoorBunY10
import Derived.Test.YtceokbmejnopoaaGreatDoorBunY39
import Derived.Test.YtceokbmejnopoaaGreatDoorBunY31
import Derived.ChangeOld
import Derived.WalkKit
import Derived.ProofKit
import Derived.Deep.RegionHeld3
namespace Go.Proofs.YtceokbmejnopoaaGreatDoor.fnExactInstOk
open Go Go.ChangeShapes Go.WideShapes Go.ChangeAt Go.RowKit Go.Deep Go.PlainAid
set_option linter.unusedVariables false
set_option linter.unusedSimpArgs false


theorem few_of {x : Bk} (h : wtBk x ≤ 1048576) : FewBk x := by
  unfold wtBk at h
  refine ⟨⟨by omega, fun p hp => ?_⟩, ⟨by omega, fun p hp => ?_⟩, by omega, ⟨by omega, fun s hs => ?_⟩⟩
  · have h1 := wsum_mem (f := wtPt) hp
    have e : wtPt p = p.name.size + (p.vals.length + wsum wtS p.vals) := rfl
    show p.vals.length ≤ 1048576
    omega
  · have h1 := wsum_mem (f := wtPt) hp
    have e : wtPt p = p.name.size + (p.vals.length + wsum wtS p.vals) := rfl
    show p.vals.length ≤ 1048576
    omega
  · have h1 := wsum_mem (f := wtSt) hs
    have e : wtSt s = s.name.size + (s.moves.length + wsum wtMo s.moves) + (s.acts.length + wsum wtAc s.acts) := rfl
    exact ⟨by omega, by omega⟩

set_option maxHeartbeats 3200000 in
set_option maxRecDepth 100000 in
theorem walk (v : BkV) (x : Bk) (st : Int) (ia : Option Addr) (im ic : Nat) (vs : List Int) (w : World) (hw : Tabs w) (hW : WideBk x) (hx : IsBk w.heap.size w v x) (hic : im ≤ ic) (him : ic ≤ maxLen) (hz : IsInts w.heap.size w ia im vs) :
    Calls Tryz.prog 6 #[v.val x.name, .agg #[.int .i64 st, .slice ia im ic]] w fun e w' => e = .returned (.bool true) ∧ Below w.heap.size w w' := by
  have HX : Hid (∀ W, Below w.heap.size w W → IsBk w.heap.size W v x) := fun W hb => hx.below hb
  have HZ : Hid (∀ W, Below w.heap.size w W → IsInts w.heap.size W ia im vs) := fun W hb => hz.below hb
  have HW : Hid (Tabs w) := hw
  have HSZ : Hid (∀ W, Below w.heap.size w W → Calls Tryz.prog 8 #[v.val x.name, .int .i64 1048576] W fun e w' => SzP (wtBk x) 1048576 W e w') := fun W hb => szBlock_any w.heap.size W 1048576 v x (by decide) (by decide) hb.size hW (HX.out W hb)
  have HSI : Hid (∀ W left, Below w.heap.size w W → 0 ≤ left → left ≤ 1048576 → Calls Tryz.prog 24 #[.agg #[.int .i64 st, .slice ia im ic], .int .i64 left] W fun e w' => SzP im left W e w') := fun W left hb h0 h1 => szInst_gen im st ia im ic left W fun W' hb' => szIntS_any ia im ic left _ h0 h1 (Nat.le_trans hic him)
  have HTO : Hid (wtBk x ≤ 1048576 → ∀ W, Below w.heap.size w W → Calls Tryz.prog 10 #[v.val x.name] W fun e w' => ∃ gi go gv gs, e = .returned ((cpV v.ni v.no v.nv v.nt gi go gv gs).val x.name) ∧ CpB W.heap.size w' v.ni v.no v.nv v.nt gi go gv gs x ∧ Below W.heap.size W w') := fun hk W hb => toBlock_any w.heap.size W v x hb.size (few_of hk) (HX.out W hb)
  have HTI : Hid (im ≤ 1048576 → ∀ W, Below w.heap.size w W → Calls Tryz.prog 26 #[.agg #[.int .i64 st, .slice ia im ic]] W fun e w' => ∃ g, e = .returned (.agg #[.int .i64 st, .slice (some ⟨g, 0, none⟩) im im]) ∧ CInt im vs (W.heap.size + 3) g w' ∧ Below W.heap.size W w') := fun hn W hb =>
    toInst_gen (fun g w' => CInt im vs (W.heap.size + 3) g w') st ia im ic W (fun W' hb' hs => (toIntS_open w.heap.size ia im ic vs _ hn (by have := hb'.size; have := hb.size; omega) (HZ.out _ (hb.trans (hb'.mono hb.size)))).mono fun _ _ ⟨g, h1, h2, h3, h4, h5⟩ => ⟨g, h1, ⟨by omega, h5, h3⟩, h4⟩) (fun g p w1 w2 hp hmv hk => hk.mv hmv hp)
  have HSP : Hid (wtBk x ≤ 1048576 → im ≤ 1048576 → ∀ W L L' gi go gv gs g, CpB L W v.ni v.no v.nv v.nt gi go gv gs x → CInt im vs L' g W → Calls Tryz.prog 25 #[(cpV v.ni v.no v.nv v.nt gi go gv gs).val x.name, .agg #[.int .i64 st, .slice (some ⟨g, 0, none⟩) im im]] W fun e w' => e = .returned (.bool (instOkB x st vs)) ∧ Below W.heap.size W w') := fun hk hn W L L' gi go gv gs g hg hi => specInstOk_any W.heap.size _ x st _ im im vs W (Nat.le_refl _) hk (hg.is (few_of hk)) (by unfold maxLen; omega) hi.is
  have HIM : Hid (wtBk x ≤ 1048576 → im ≤ 1048576 → ∀ W L L' gi go gv gs g, Tabs W → CpB L W v.ni v.no v.nv v.nt gi go gv gs x → CInt im vs L' g W → Calls Tryz.prog 27 #[(cpV v.ni v.no v.nv v.nt gi go gv gs).val x.name, .agg #[.int .i64 st, .slice (some ⟨g, 0, none⟩) im im]] W fun e w' => e = .returned (.bool (instOkB x st vs)) ∧ Below W.heap.size W w') := fun hk hn W L L' gi go gv gs g ht hg hi => implInstOk_any W.heap.size _ x st _ im im vs W (Nat.le_refl _) hk (hg.is (few_of hk)) (by unfold maxLen; omega) hi.is ht
  have HEQ : Hid (wtBk x ≤ 1048576 → ∀ W L L' gi go gv gs hi ho hv hs, CpB L W v.ni v.no v.nv v.nt gi go gv gs x → CpB L' W v.ni v.no v.nv v.nt hi ho hv hs x → Calls Tryz.prog 13 #[(cpV v.ni v.no v.nv v.nt gi go gv gs).val x.name, (cpV v.ni v.no v.nv v.nt hi ho hv hs).val x.name] W fun e w' => e = .returned (.bool true) ∧ Below W.heap.size W w') := fun hk W L L' gi go gv gs hi ho hv hs hg hh => eqBlock_same W.heap.size _ _ x W (Nat.le_refl _) (few_of hk) (hg.is (few_of hk)) (hh.is (few_of hk))
  have HEI : Hid (im ≤ 1048576 → ∀ W L L' g g', CInt im vs L g W → CInt im vs L' g' W → Calls Tryz.prog 21 #[.agg #[.int .i64 st, .slice (some ⟨g, 0, none⟩) im im], .agg #[.int .i64 st, .slice (some ⟨g', 0, none⟩) im im]] W fun e w' => e = .returned (.bool true) ∧ Below W.heap.size W w') := fun hn W L L' g g' hg hg' => eqInst_gen st _ im im _ im im W fun W' hb' => eqIntS_same (some ⟨g, 0, none⟩) (some ⟨g', 0, none⟩) im im im vs _ hn (hg.is.up hb') (hg'.is.up hb')
  have him2 : im ≤ maxLen := Nat.le_trans hic him
  clear hx hw hW HX hz HZ hic him
  obtain ⟨ai, ni, ci, ao, no, co, av, nv, cv, at_, nt, ct⟩ := v
  obtain ⟨xn, hxn⟩ : ∃ n, x.name = n := ⟨_, rfl⟩
  obtain ⟨ans, hans⟩ : ∃ n, instOkB x st vs = n := ⟨_, rfl⟩
  simp only [BkV.val, cpV] at HSZ HTO HSP HIM HEQ ⊢
  rw [hxn] at HSZ HTO HSP HIM HEQ ⊢
  rw [hans] at HSP HIM
  clear hxn hans
  have BX0 : Hid (BoxAt (w.heap.size) [.string xn, .slice ai ni ci, .slice ao no co, .slice av nv cv, .slice at_ nt ct] ((w.alloc (.cells #[.string xn, .slice ai ni ci, .slice ao no co, .slice av nv cv, .slice at_ nt ct] 26)).alloc (.cells #[.int .i64 st, .slice ia im ic] 49))) := (boxAt_new w [.string xn, .slice ai ni ci, .slice ao no co, .slice av nv cv, .slice at_ nt ct] 26).below ((Below.refl _ _).alloc (Nat.le_refl _) _)
  have BI0 : Hid (BoxAt (w.heap.size + 1) [.int .i64 st, .slice ia im ic] ((w.alloc (.cells #[.string xn, .slice ai ni ci, .slice ao no co, .slice av nv cv, .slice at_ nt ct] 26)).alloc (.cells #[.int .i64 st, .slice ia im ic] 49))) := by
    have := boxAt_new (w.alloc (.cells #[.string xn, .slice ai ni ci, .slice ao no co, .slice av nv cv, .slice at_ nt ct] 26)) [.int .i64 st, .slice ia im ic] 49
    show BoxAt _ _ _
    simpa using this
  have HB0 : Hid (Below w.heap.size w ((w.alloc (.cells #[.string xn, .slice ai ni ci, .slice ao no co, .slice av nv cv, .slice at_ nt ct] 26)).alloc (.cells #[.int .i64 st, .slice ia im ic] 49))) := ((Below.refl _ _).alloc (Nat.le_refl _) _).alloc (by simp) _
  go_enter Tryz.func6, Tryz.ntmps6
  go_wp2_with fail
  refine (HSZ.out _ HB0.out).mono ?_
  rintro e w1 ⟨r, rfl, hb1, p1, p2, p3⟩
  have HB1 : Hid (Below w.heap.size w w1) := HB0.out.trans (hb1.mono HB0.out.size)
  have BX1 := hidOf (BX0.out.below hb1)
  have BI1 := hidOf (BI0.out.below hb1)
  have HP := hidOf p3
  clear hb1 p3 HSZ
  have c0 : w1.cell? ⟨w.heap.size, 0, none⟩ = some (.string xn) := (BX1.out.2 0 _ rfl).1
  have c1 : w1.cell? ⟨w.heap.size, 1, none⟩ = some (.slice ai ni ci) := (BX1.out.2 1 _ rfl).1
  have c2 : w1.cell? ⟨w.heap.size, 2, none⟩ = some (.slice ao no co) := (BX1.out.2 2 _ rfl).1
  have c3 : w1.cell? ⟨w.heap.size, 3, none⟩ = some (.slice av nv cv) := (BX1.out.2 3 _ rfl).1
  have c4 : w1.cell? ⟨w.heap.size, 4, none⟩ = some (.slice at_ nt ct) := (BX1.out.2 4 _ rfl).1
  have sc := BX1.out.1
  have d0 : w1.cell? ⟨w.heap.size + 1, 0, none⟩ = some (.int .i64 st) := (BI1.out.2 0 _ rfl).1
  have d1 : w1.cell? ⟨w.heap.size + 1, 1, none⟩ = some (.slice ia im ic) := (BI1.out.2 1 _ rfl).1
  have sd := BI1.out.1
  by_cases hr : r < 0
  · go_wp2_with fail
    go_ret
    exact ⟨rfl, HB1.out⟩
  have HK : Hid (wtBk x ≤ 1048576) := by have := HP.out (by omega); show _ ≤ _; omega
  clear HP
  go_wp2_with fail
  refine (HSI.out _ r HB1.out (by omega) p1).mono ?_
  rintro e w2 ⟨r2, rfl, hb2, p4, p5, p6⟩
  have HB2 : Hid (Below w.heap.size w w2) := HB1.out.trans (hb2.mono HB1.out.size)
  have BX2 := hidOf (BX1.out.below hb2)
  have BI2 := hidOf (BI1.out.below hb2)
  have HP := hidOf p6
  clear c0 c1 c2 c3 c4 sc
  clear d0 d1 sd
  clear hb2 p6 HSI
  have c0 : w2.cell? ⟨w.heap.size, 0, none⟩ = some (.string xn) := (BX2.out.2 0 _ rfl).1
  have c1 : w2.cell? ⟨w.heap.size, 1, none⟩ = some (.slice ai ni ci) := (BX2.out.2 1 _ rfl).1
  have c2 : w2.cell? ⟨w.heap.size, 2, none⟩ = some (.slice ao no co) := (BX2.out.2 2 _ rfl).1
  have c3 : w2.cell? ⟨w.heap.size, 3, none⟩ = some (.slice av nv cv) := (BX2.out.2 3 _ rfl).1
  have c4 : w2.cell? ⟨w.heap.size, 4, none⟩ = some (.slice at_ nt ct) := (BX2.out.2 4 _ rfl).1
  have sc := BX2.out.1
  have d0 : w2.cell? ⟨w.heap.size + 1, 0, none⟩ = some (.int .i64 st) := (BI2.out.2 0 _ rfl).1
  have d1 : w2.cell? ⟨w.heap.size + 1, 1, none⟩ = some (.slice ia im ic) := (BI2.out.2 1 _ rfl).1
  have sd := BI2.out.1
  by_cases hr2 : r2 < 0
  · go_wp2_with fail
    go_ret
    exact ⟨rfl, HB2.out⟩
  have HN : Hid (im ≤ 1048576) := by have := HP.out (by omega); show _ ≤ _; omega
  clear HP
  go_wp2_with fail
  go_region_held3 (fun w' => w'.cell? ⟨w.heap.size, 0, none⟩ = some (.string xn) ∧ w'.cell? ⟨w.heap.size, 1, none⟩ = some (.slice ai ni ci) ∧ w'.cell? ⟨w.heap.size, 2, none⟩ = some (.slice ao no co) ∧ w'.cell? ⟨w.heap.size, 3, none⟩ = some (.slice av nv cv) ∧ w'.cell? ⟨w.heap.size, 4, none⟩ = some (.slice at_ nt ct) ∧ w'.cell? ⟨w.heap.size + 1, 0, none⟩ = some (.int .i64 st) ∧ w'.cell? ⟨w.heap.size + 1, 1, none⟩ = some (.slice ia im ic)) (simp [go_sem, *])
    (first
      | (go_at_call 10; refine (HTO.out HK.out _ (by first | exact HB2.out | exact below_drew1 HB2.out | exact drewN HB2.out _)).mono ?_; rintro e w3 ⟨gi, go, gv, gs, rfl, hg, hb3⟩; replace hb3 : Below w2.heap.size w2 w3 := undrew hb3; have HG := hidOf hg; have HB3 : Hid (Below w.heap.size w w3) := HB2.out.trans (hb3.mono HB2.out.size); have BX3 := hidOf (BX2.out.below hb3); have BI3 := hidOf (BI2.out.below hb3); have q3 := BX3.out.1; have q3' := BI3.out.1; obtain ⟨hc1, hf1⟩ := bcell hb3; clear hg hb3 hf1)
      | (go_at_call 26; refine (HTI.out HN.out _ HB3.out).mono ?_; rintro e wi ⟨g, rfl, hgi, hbi⟩; have HGI := hidOf hgi; have HG2 := hidOf (HG.out.below hbi); have HBi : Hid (Below w.heap.size w wi) := HB3.out.trans (hbi.mono HB3.out.size); have BXi := hidOf (BX3.out.below hbi); have BIi := hidOf (BI3.out.below hbi); have q4 := BXi.out.1; have q4' := BIi.out.1; obtain ⟨hc2, hf2⟩ := bcell hbi; clear hgi hbi hf2)
      | (go_at_call 25; refine (HSP.out HK.out HN.out _ _ _ _ _ _ _ _ HG2.out HGI.out).mono ?_; rintro e w4 ⟨rfl, hb4⟩; have HB4 : Hid (Below w.heap.size w w4) := HBi.out.trans (hb4.mono HBi.out.size); have BX4 := hidOf (BXi.out.below hb4); have BI4 := hidOf (BIi.out.below hb4); obtain ⟨hc3, hf3⟩ := bcell hb4; clear hb4 hf3))
  clear c0 c1 c2 c3 c4 sc
  clear d0 d1 sd
  try clear hc1 hc2 hc3 q3 q3' q4 q4'
  clear HG HG2 HGI BX3 BI3 BXi BIi HB3 HBi BX2 BI2 BX1 BI1 BX0 BI0
  have c0 : w4.cell? ⟨w.heap.size, 0, none⟩ = some (.string xn) := (BX4.out.2 0 _ rfl).1
  have c1 : w4.cell? ⟨w.heap.size, 1, none⟩ = some (.slice ai ni ci) := (BX4.out.2 1 _ rfl).1
  have c2 : w4.cell? ⟨w.heap.size, 2, none⟩ = some (.slice ao no co) := (BX4.out.2 2 _ rfl).1
  have c3 : w4.cell? ⟨w.heap.size, 3, none⟩ = some (.slice av nv cv) := (BX4.out.2 3 _ rfl).1
  have c4 : w4.cell? ⟨w.heap.size, 4, none⟩ = some (.slice at_ nt ct) := (BX4.out.2 4 _ rfl).1
  have sc := BX4.out.1
  have d0 : w4.cell? ⟨w.heap.size + 1, 0, none⟩ = some (.int .i64 st) := (BI4.out.2 0 _ rfl).1
  have d1 : w4.cell? ⟨w.heap.size + 1, 1, none⟩ = some (.slice ia im ic) := (BI4.out.2 1 _ rfl).1
  have sd := BI4.out.1
  go_wp2_with fail
  refine (HTO.out HK.out _ HB4.out).mono ?_
  rintro e w5 ⟨hi, ho, hv, hs, rfl, hg', hb5⟩
  have HG := hidOf hg'
  have HB5 : Hid (Below w.heap.size w w5) := HB4.out.trans (hb5.mono HB4.out.size)
  have BX5 := hidOf (BX4.out.below hb5)
  have BI5 := hidOf (BI4.out.below hb5)
  clear c0 c1 c2 c3 c4 sc
  clear d0 d1 sd
  clear hg' hb5
  have hba : Below w5.heap.size w5 (w5.alloc (.cells #[.string xn, .slice (some ⟨hi, 0, none⟩) ni ni, .slice (some ⟨ho, 0, none⟩) no no, .slice (some ⟨hv, 0, none⟩) nv nv, .slice (some ⟨hs, 0, none⟩) nt nt] 34)) := (Below.refl _ _).alloc (Nat.le_refl _) _
  obtain ⟨W5, hW5⟩ : ∃ W, W = w5.alloc (.cells #[.string xn, .slice (some ⟨hi, 0, none⟩) ni ni, .slice (some ⟨ho, 0, none⟩) no no, .slice (some ⟨hv, 0, none⟩) nv nv, .slice (some ⟨hs, 0, none⟩) nt nt] 34) := ⟨_, rfl⟩
  have HW5 := hidOf hW5
  have hs5 : W5.heap.size = w5.heap.size + 1 := by rw [hW5]; simp
  rw [← hW5] at hba
  have HB6 : Hid (Below w.heap.size w W5) := HB5.out.trans (hba.mono HB5.out.size)
  have HG1 := hidOf (HG.out.below hba)
  have BX6 := hidOf (BX5.out.below hba)
  have BI6 := hidOf (BI5.out.below hba)
  have BC6 : Hid (BoxAt w5.heap.size [.string xn, .slice (some ⟨hi, 0, none⟩) ni ni, .slice (some ⟨ho, 0, none⟩) no no, .slice (some ⟨hv, 0, none⟩) nv nv, .slice (some ⟨hs, 0, none⟩) nt nt] W5) := by
    show BoxAt _ _ _
    rw [hW5]; exact boxAt_new w5 [.string xn, .slice (some ⟨hi, 0, none⟩) ni ni, .slice (some ⟨ho, 0, none⟩) no no, .slice (some ⟨hv, 0, none⟩) nv nv, .slice (some ⟨hs, 0, none⟩) nt nt] 34
  clear hba
  have c0 : W5.cell? ⟨w.heap.size, 0, none⟩ = some (.string xn) := (BX6.out.2 0 _ rfl).1
  have c1 : W5.cell? ⟨w.heap.size, 1, none⟩ = some (.slice ai ni ci) := (BX6.out.2 1 _ rfl).1
  have c2 : W5.cell? ⟨w.heap.size, 2, none⟩ = some (.slice ao no co) := (BX6.out.2 2 _ rfl).1
  have c3 : W5.cell? ⟨w.heap.size, 3, none⟩ = some (.slice av nv cv) := (BX6.out.2 3 _ rfl).1
  have c4 : W5.cell? ⟨w.heap.size, 4, none⟩ = some (.slice at_ nt ct) := (BX6.out.2 4 _ rfl).1
  have sc := BX6.out.1
  have d0 : W5.cell? ⟨w.heap.size + 1, 0, none⟩ = some (.int .i64 st) := (BI6.out.2 0 _ rfl).1
  have d1 : W5.cell? ⟨w.heap.size + 1, 1, none⟩ = some (.slice ia im ic) := (BI6.out.2 1 _ rfl).1
  have sd := BI6.out.1
  rw [hW5] at c0 c1 c2 c3 c4 d0 d1 sc sd
  clear hW5 hs5
  go_wp2_with fail
  rw [← HW5.out]
  refine (HTI.out HN.out _ HB6.out).mono ?_
  rintro e w6 ⟨hx, rfl, hgi, hb6⟩
  have HGI := hidOf hgi
  have HB7 : Hid (Below w.heap.size w w6) := HB6.out.trans (hb6.mono HB6.out.size)
  have HG2 := hidOf (HG1.out.below hb6)
  have BX7 := hidOf (BX6.out.below hb6)
  have BI7 := hidOf (BI6.out.below hb6)
  have BC7 := hidOf (BC6.out.below hb6)
  clear c0 c1 c2 c3 c4 sc
  clear d0 d1 sd
  clear hgi hb6 HW5
  have hba : Below w6.heap.size w6 (w6.alloc (.cells #[.int .i64 st, .slice (some ⟨hx, 0, none⟩) im im] 45)) := (Below.refl _ _).alloc (Nat.le_refl _) _
  obtain ⟨W6, hW6⟩ : ∃ W, W = w6.alloc (.cells #[.int .i64 st, .slice (some ⟨hx, 0, none⟩) im im] 45) := ⟨_, rfl⟩
  have HW6 := hidOf hW6
  rw [← hW6] at hba
  have HB8 : Hid (Below w.heap.size w W6) := HB7.out.trans (hba.mono HB7.out.size)
  have HG3 := hidOf (HG2.out.below hba)
  have HGI3 := hidOf (HGI.out.below hba)
  have BX8 := hidOf (BX7.out.below hba)
  have BI8 := hidOf (BI7.out.below hba)
  have BC8 := hidOf (BC7.out.below hba)
  have BD8 : Hid (BoxAt w6.heap.size [.int .i64 st, .slice (some ⟨hx, 0, none⟩) im im] W6) := by
    show BoxAt _ _ _
    rw [hW6]; exact boxAt_new w6 [.int .i64 st, .slice (some ⟨hx, 0, none⟩) im im] 45
  clear hba
  have e0 : W6.cell? ⟨w5.heap.size, 0, none⟩ = some (.string xn) := (BC8.out.2 0 _ rfl).1
  have e1 : W6.cell? ⟨w5.heap.size, 1, none⟩ = some (.slice (some ⟨hi, 0, none⟩) ni ni) := (BC8.out.2 1 _ rfl).1
  have e2 : W6.cell? ⟨w5.heap.size, 2, none⟩ = some (.slice (some ⟨ho, 0, none⟩) no no) := (BC8.out.2 2 _ rfl).1
  have e3 : W6.cell? ⟨w5.heap.size, 3, none⟩ = some (.slice (some ⟨hv, 0, none⟩) nv nv) := (BC8.out.2 3 _ rfl).1
  have e4 : W6.cell? ⟨w5.heap.size, 4, none⟩ = some (.slice (some ⟨hs, 0, none⟩) nt nt) := (BC8.out.2 4 _ rfl).1
  have se := BC8.out.1
  rw [hW6] at e0 e1 e2 e3 e4 se
  clear hW6
  go_wp2_with fail
  rw [← HW6.out]
  refine (HIM.out HK.out HN.out _ _ _ _ _ _ _ _ (HW.out.below HB8.out) HG3.out HGI3.out).mono ?_
  rintro e w7 ⟨rfl, hb7⟩
  have HB9 : Hid (Below w.heap.size w w7) := HB8.out.trans (hb7.mono HB8.out.size)
  have HG4 := hidOf (HG3.out.below hb7)
  have HGI4 := hidOf (HGI3.out.below hb7)
  have BX9 := hidOf (BX8.out.below hb7)
  have BI9 := hidOf (BI8.out.below hb7)
  have BC9 := hidOf (BC8.out.below hb7)
  have BD9 := hidOf (BD8.out.below hb7)
  clear hb7 HW6
  clear e0 e1 e2 e3 e4 se
  have c0 : w7.cell? ⟨w.heap.size, 0, none⟩ = some (.string xn) := (BX9.out.2 0 _ rfl).1
  have c1 : w7.cell? ⟨w.heap.size, 1, none⟩ = some (.slice ai ni ci) := (BX9.out.2 1 _ rfl).1
  have c2 : w7.cell? ⟨w.heap.size, 2, none⟩ = some (.slice ao no co) := (BX9.out.2 2 _ rfl).1
  have c3 : w7.cell? ⟨w.heap.size, 3, none⟩ = some (.slice av nv cv) := (BX9.out.2 3 _ rfl).1
  have c4 : w7.cell? ⟨w.heap.size, 4, none⟩ = some (.slice at_ nt ct) := (BX9.out.2 4 _ rfl).1
  have sc := BX9.out.1
  have d0 : w7.cell? ⟨w.heap.size + 1, 0, none⟩ = some (.int .i64 st) := (BI9.out.2 0 _ rfl).1
  have d1 : w7.cell? ⟨w.heap.size + 1, 1, none⟩ = some (.slice ia im ic) := (BI9.out.2 1 _ rfl).1
  have sd := BI9.out.1
  have e0 : w7.cell? ⟨w5.heap.size, 0, none⟩ = some (.string xn) := (BC9.out.2 0 _ rfl).1
  have e1 : w7.cell? ⟨w5.heap.size, 1, none⟩ = some (.slice (some ⟨hi, 0, none⟩) ni ni) := (BC9.out.2 1 _ rfl).1
  have e2 : w7.cell? ⟨w5.heap.size, 2, none⟩ = some (.slice (some ⟨ho, 0, none⟩) no no) := (BC9.out.2 2 _ rfl).1
  have e3 : w7.cell? ⟨w5.heap.size, 3, none⟩ = some (.slice (some ⟨hv, 0, none⟩) nv nv) := (BC9.out.2 3 _ rfl).1
  have e4 : w7.cell? ⟨w5.heap.size, 4, none⟩ = some (.slice (some ⟨hs, 0, none⟩) nt nt) := (BC9.out.2 4 _ rfl).1
  have se := BC9.out.1
  have f0 : w7.cell? ⟨w6.heap.size, 0, none⟩ = some (.int .i64 st) := (BD9.out.2 0 _ rfl).1
  have f1 : w7.cell? ⟨w6.heap.size, 1, none⟩ = some (.slice (some ⟨hx, 0, none⟩) im im) := (BD9.out.2 1 _ rfl).1
  have sf := BD9.out.1
  go_wp2_with fail
  go_region_held3 (fun w' => w'.cell? ⟨w.heap.size, 0, none⟩ = some (.string xn) ∧ w'.cell? ⟨w.heap.size, 1, none⟩ = some (.slice ai ni ci) ∧ w'.cell? ⟨w.heap.size, 2, none⟩ = some (.slice ao no co) ∧ w'.cell? ⟨w.heap.size, 3, none⟩ = some (.slice av nv cv) ∧ w'.cell? ⟨w.heap.size, 4, none⟩ = some (.slice at_ nt ct) ∧ w'.cell? ⟨w.heap.size + 1, 0, none⟩ = some (.int .i64 st) ∧ w'.cell? ⟨w.heap.size + 1, 1, none⟩ = some (.slice ia im ic) ∧ w'.cell? ⟨w5.heap.size, 0, none⟩ = some (.string xn) ∧ w'.cell? ⟨w5.heap.size, 1, none⟩ = some (.slice (some ⟨hi, 0, none⟩) ni ni) ∧ w'.cell? ⟨w5.heap.size, 2, none⟩ = some (.slice (some ⟨ho, 0, none⟩) no no) ∧ w'.cell? ⟨w5.heap.size, 3, none⟩ = some (.slice (some ⟨hv, 0, none⟩) nv nv) ∧ w'.cell? ⟨w5.heap.size, 4, none⟩ = some (.slice (some ⟨hs, 0, none⟩) nt nt) ∧ w'.cell? ⟨w6.heap.size, 0, none⟩ = some (.int .i64 st) ∧ w'.cell? ⟨w6.heap.size, 1, none⟩ = some (.slice (some ⟨hx, 0, none⟩) im im)) (simp [go_sem, *])
    (first
      | (go_at_call 10; refine (HTO.out HK.out _ (by first | exact HB9.out | exact below_drew1 HB9.out | exact drewN HB9.out _)).mono ?_; rintro e w8 ⟨ki, ko, kv, ks, rfl, hg, hb8⟩; replace hb8 : Below w7.heap.size w7 w8 := undrew hb8; have HK8 := hidOf hg; have HG5 := hidOf (HG4.out.below hb8); have HGI5 := hidOf (HGI4.out.below hb8); have HB10 : Hid (Below w.heap.size w w8) := HB9.out.trans (hb8.mono HB9.out.size); have BX10 := hidOf (BX9.out.below hb8); have BI10 := hidOf (BI9.out.below hb8); have BC10 := hidOf (BC9.out.below hb8); have BD10 := hidOf (BD9.out.below hb8); have q5 := BX10.out.1; have q6 := BI10.out.1; have q7 := BC10.out.1; have q8 := BD10.out.1; obtain ⟨hc1, hf1⟩ := bcell hb8; clear hg hb8 hf1)
      | (go_at_call 13; refine (HEQ.out HK.out _ _ _ _ _ _ _ _ _ _ _ HG5.out HK8.out).mono ?_; rintro e w9 ⟨rfl, hb9⟩; have HGI6 := hidOf (HGI5.out.below hb9); have HB11 : Hid (Below w.heap.size w w9) := HB10.out.trans (hb9.mono HB10.out.size); have BX11 := hidOf (BX10.out.below hb9); have BI11 := hidOf (BI10.out.below hb9); have BC11 := hidOf (BC10.out.below hb9); have BD11 := hidOf (BD10.out.below hb9); obtain ⟨hc2, hf2⟩ := bcell hb9; clear hb9 hf2))
  clear c0 c1 c2 c3 c4 sc
  clear d0 d1 sd
  clear e0 e1 e2 e3 e4 se
  clear f0 f1 sf
  try clear hc1 hc2 q5 q6 q7 q8
  have d0 : w9.cell? ⟨w.heap.size + 1, 0, none⟩ = some (.int .i64 st) := (BI11.out.2 0 _ rfl).1
  have d1 : w9.cell? ⟨w.heap.size + 1, 1, none⟩ = some (.slice ia im ic) := (BI11.out.2 1 _ rfl).1
  have sd := BI11.out.1
  have f0 : w9.cell? ⟨w6.heap.size, 0, none⟩ = some (.int .i64 st) := (BD11.out.2 0 _ rfl).1
  have f1 : w9.cell? ⟨w6.heap.size, 1, none⟩ = some (.slice (some ⟨hx, 0, none⟩) im im) := (BD11.out.2 1 _ rfl).1
  have sf := BD11.out.1
  go_wp2_with fail
  go_region_held3 (fun w' => w'.cell? ⟨w.heap.size + 1, 0, none⟩ = some (.int .i64 st) ∧ w'.cell? ⟨w.heap.size + 1, 1, none⟩ = some (.slice ia im ic) ∧ w'.cell? ⟨w6.heap.size, 0, none⟩ = some (.int .i64 st) ∧ w'.cell? ⟨w6.heap.size, 1, none⟩ = some (.slice (some ⟨hx, 0, none⟩) im im)) (simp [go_sem, *])
    (first
      | (go_at_call 26; refine (HTI.out HN.out _ (by first | exact HB11.out | exact below_drew1 HB11.out | exact drewN HB11.out _)).mono ?_; rintro e wa ⟨g, rfl, hgi, hba⟩; replace hba : Below w9.heap.size w9 wa := undrew hba; have HKa := hidOf hgi; have HGI7 := hidOf (HGI6.out.below hba); have HB12 : Hid (Below w.heap.size w wa) := HB11.out.trans (hba.mono HB11.out.size); have BI12 := hidOf (BI11.out.below hba); have BD12 := hidOf (BD11.out.below hba); have q5 := BI12.out.1; have q6 := BD12.out.1; obtain ⟨hc1, hf1⟩ := bcell hba; clear hgi hba hf1)
      | (go_at_call 21; refine (HEI.out HN.out _ _ _ _ _ HGI7.out HKa.out).mono ?_; rintro e wb ⟨rfl, hbb⟩; have HB13 : Hid (Below w.heap.size w wb) := HB12.out.trans (hbb.mono HB12.out.size); obtain ⟨hc2, hf2⟩ := bcell hbb; clear hbb hf2))
  go_wp2_with fail
  go_ret
  exact ⟨rfl, HB13.out⟩

/-! ### THE ROW's STEP -/
set_option maxRecDepth 100000 in
theorem lifted (os : Os) (started : os.Started) (H : Type) (enc : TypeId × Value → H) :
    ReturnsInHanded {} Tryz.checked os 6 .any (fun w args => (Rows.fnExactInstOkSpec.pre enc Tryz.prog Tryz.f6 Rows.fnExactInstOkRow.domain false w args ∧ laidMetH Tryz.prog theLaid w) ∧ sizedMet enc Tryz.prog Tryz.f6 (OpenSpec.ofChange Rows.fnExactInstOkSpec) false w args)
      (Rows.fnExactInstOkSpec.post enc Tryz.prog Tryz.f6 false true false false) := by
  refine returnsInHanded_of_change_and (C := Tryz.checked) (X := fun w _ => laidMetH Tryz.prog theLaid w) (fun _ _ _ hh h => h.of_heap hh) own started (by kernel_rfl) Tryz.func6
    (ChangeSpec.witness_shaped (enc := enc) (C := Tryz.checked) (os := os) (X := fun w _ => laidMetH Tryz.prog theLaid w) false (World.laidAll Tryz.prog os theLaid) #[.agg #[.string ByteArray.empty, .slice none 0 0, .slice none 0 0, .slice none 0 0, .slice none 0 0], .agg #[.int .i64 0, .slice none 0 0]] 8 (World.laidAll_os _ _ _)
      (shapedL os _) (by kernel_rfl) (by kernel_rfl) (by kernel_rfl) (metL os _)) ?_
  intro W base args ds gs before hval0 hW hcnd _ hL _
  have hval : ∀ (j : Nat) t v, Tryz.f6.params[j]? = some t → args[j]? = some v → Value.okWide Tryz.prog W .any base t v := hval0
  have hW' := hW
  obtain ⟨p, q, hA0, hV, rfl, hfz, hnd⟩ := hW
  have hA : DataW.TrodAll enc Tryz.prog W 0 (fun _ => true) true Tryz.f6.params.toList args.toList ds p := hA0
  rw [Tryz.params6] at hA hval
  obtain ⟨v0, vs0, d0, ds0, p0, q0, hargs, rfl, rfl, h0, r0⟩ := trodAll_cons hA
  obtain ⟨v1, vs1, d1, ds1, p1, q1, rfl, rfl, rfl, h1, r1⟩ := trodAll_cons r0
  obtain ⟨rfl, rfl, rfl⟩ := trodAll_nil r1
  obtain rfl : args = #[v0, v1] := by cases args; simp_all
  have hV0 := hV
  obtain ⟨g, t, cs, fuel, gd, pp, rfl, _⟩ := trodVars_one hV0
  obtain ⟨cs0, rfl, hsz0⟩ := okWide_struct Tryz.underlying26 (hval 0 26 v0 rfl rfl)
  obtain ⟨cs1, rfl, hsz1⟩ := okWide_struct Tryz.underlying49 (hval 1 49 v1 rfl rfl)
  have k0 := h0
  have lt0 : ∀ x ∈ p0, x.block < W.heap.size := by obtain ⟨m, hm⟩ := k0; exact DataW.trod_lt m _ _ _ hm
  have k1 := h1
  have lt1 : ∀ x ∈ p1, x.block < W.heap.size := by obtain ⟨m, hm⟩ := k1; exact DataW.trod_lt m _ _ _ hm
  obtain ⟨fuel0, hf0⟩ := h0
  obtain ⟨v, x, hcs0, hx, hwd⟩ := open_block fuel0 cs0.toList _ (by rw [Array.length_toList, hsz0]; kernel_rfl) hf0
  obtain rfl : cs0 = #[.string x.name, .slice v.ai v.ni v.ci, .slice v.ao v.no v.co, .slice v.av v.nv v.cv, .slice v.at_ v.nt v.ct] := by cases cs0; simpa [BkV.val, Value.cells] using hcs0
  obtain ⟨fuel1, hf1⟩ := h1
  obtain ⟨st, ia, im, ic, hcs1, ⟨hic, him⟩, hst, kk, yy, hy⟩ := open_Inst fuel1 cs1.toList _ (by rw [Array.length_toList, hsz1]; kernel_rfl) hf1
  obtain rfl : cs1 = #[.int .i64 st, .slice ia im ic] := by cases cs1; simp_all
  obtain ⟨vs, hvn, hvz⟩ := open_nums (a0 := ia) (len0 := im) (cap0 := ic) hy
  clear hA0 hval0
  refine (walk v x st ia im ic vs W (tabs_of hL) hwd hx hic him hvz).mono fun e W' ⟨he, bel⟩ => ?_
  subst he
  exact ⟨_, rfl, _, _, _, [], _, _, hW', trodAll_mk1 (shut_bool Tryz.underlying4 _), (trodAll_cons_mk (Below.trod laidOut (by kernel_rfl) (of_decide_eq_true (by kernel_rfl)) k0 bel lt0) (trodAll_cons_mk (Below.trod laidOut (by kernel_rfl) (of_decide_eq_true (by kernel_rfl)) k1 bel lt1) trodAll_mk0)), Below.trodVars laidOut bel (by kernel_rfl) hV, bel.frame _, fun h => by cases h⟩
end Go.Proofs.YtceokbmejnopoaaGreatDoor.fnExactInstOk
