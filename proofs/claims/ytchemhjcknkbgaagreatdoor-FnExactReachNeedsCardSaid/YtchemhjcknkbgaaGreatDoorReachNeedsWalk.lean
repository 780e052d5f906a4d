/- For every Block the law FnExactReachNeeds returns true: ReachNeeds of the program answers as the model's, its argument reads as before, its answer owns its memory. The one condition is the row's own: the package-level variables that it names lie as the program's text lays them. -/
import Derived.Test.YtchemhjcknkbgaaGreatDoorLaidB
import Derived.Test.YtchemhjcknkbgaaGreatDoorBunY52
import Derived.Test.YtchemhjcknkbgaaGreatDoorBunY51
import Derived.Test.YtchemhjcknkbgaaGreatDoorBunY9
import Derived.Test.YtchemhjcknkbgaaGreatDoorBunY10
import Derived.Test.YtchemhjcknkbgaaGreatDoorBunY39
import Derived.Test.YtchemhjcknkbgaaGreatDoorBunY31
import Derived.ChangeOld
import Derived.WalkKit
import Derived.ProofKit
import Derived.Deep.RegionHeld3
namespace Go.Proofs.YtchemhjcknkbgaaGreatDoor.fnExactReachNeeds
open Go Go.ChangeShapes Go.WideShapes Go.ChangeAt Go.RowKit Go.Deep Go.PlainAid
set_option linter.unusedVariables false
set_option linter.unusedSimpArgs false


theorem few_of {x : Bk} (h : wtBk x ≤ 1048576) : FewBk x := by
  unfold wtBk at h
  refine ⟨⟨by omega, fun p hp => ?_⟩, ⟨by omega, fun p hp => ?_⟩, by omega, ⟨by omega, fun s hs => ?_⟩⟩
  · have h1 := wsum_mem (f := wtPt) hp
    have e : wtPt p = p.name.size + (p.vals.length + wsum wtS p.vals) := rfl
    show p.vals.length ≤ 1048576
    omega
  · have h1 := wsum_mem (f := wtPt) hp
    have e : wtPt p = p.name.size + (p.vals.length + wsum wtS p.vals) := rfl
    show p.vals.length ≤ 1048576
    omega
  · have h1 := wsum_mem (f := wtSt) hs
    have e : wtSt s = s.name.size + (s.moves.length + wsum wtMo s.moves) + (s.acts.length + wsum wtAc s.acts) := rfl
    exact ⟨by omega, by omega⟩

theorem needs_few {x : Bk} (h : wtBk x ≤ 1048576) : (needsM x).length ≤ 1048576 := by
  unfold needsM
  split
  · rename_i hz
    have := (check_names hz).2.2
    have := List.length_filter_le (askB (sumsM x)) (namesM x)
    omega
  · simp

set_option maxHeartbeats 3200000 in
set_option maxRecDepth 100000 in
theorem walk (v : BkV) (x : Bk) (w : World) (hw : Tabs w) (hW : WideBk x) (hx : IsBk w.heap.size w v x) :
    Calls Tryz.prog 3 #[v.val x.name] w fun e w' => e = .returned (.bool true) ∧ Below w.heap.size w w' := by
  have HX : Hid (∀ W, Below w.heap.size w W → IsBk w.heap.size W v x) := fun W hb => hx.below hb
  have HW : Hid (Tabs w) := hw
  have lens : x.ins.length = v.ni ∧ x.outs.length = v.no ∧ x.vars.length = v.nv ∧ x.states.length = v.nt := ⟨hx.ins.1, hx.outs.1, hx.vars.1, hx.states.1⟩
  have HSZ : Hid (∀ W, Below w.heap.size w W → Calls Tryz.prog 5 #[v.val x.name, .int .i64 1048576] W fun e w' => SzP (wtBk x) 1048576 W e w') := fun W hb => szBlock_any w.heap.size W 1048576 v x (by decide) (by decide) hb.size hW (HX.out W hb)
  have HTO : Hid (wtBk x ≤ 1048576 → ∀ W, Below w.heap.size w W → Calls Tryz.prog 7 #[v.val x.name] W fun e w' => ∃ gi go gv gs, e = .returned ((cpV v.ni v.no v.nv v.nt gi go gv gs).val x.name) ∧ CpB W.heap.size w' v.ni v.no v.nv v.nt gi go gv gs x ∧ Below W.heap.size W w' ∧ MkB W.heap.size w'.heap.size gi go gv gs x w') := fun hk W hb => toBlock_mk w.heap.size W v x hb.size (few_of hk) (HX.out W hb)
  have HSP : Hid (wtBk x ≤ 1048576 → ∀ W L gi go gv gs, CpB L W v.ni v.no v.nv v.nt gi go gv gs x → Calls Tryz.prog 6 #[(cpV v.ni v.no v.nv v.nt gi go gv gs).val x.name] W fun e w' => ∃ a c, e = .returned (.slice a (needsM x).length c) ∧ FreeS W.heap.size w' a (needsM x).length (needsM x) ∧ Below W.heap.size W w') := fun hk W L gi go gv gs hg => specNeeds_any W.heap.size _ x W (Nat.le_refl _) hk (hg.is (few_of hk))
  have HIM : Hid (wtBk x ≤ 1048576 → ∀ W L gi go gv gs, Tabs W → CpB L W v.ni v.no v.nv v.nt gi go gv gs x → Calls Tryz.prog 8 #[(cpV v.ni v.no v.nv v.nt gi go gv gs).val x.name] W fun e w' => ∃ a c, e = .returned (.slice a (needsM x).length c) ∧ FreeS W.heap.size w' a (needsM x).length (needsM x) ∧ Below W.heap.size W w') := fun hk W L gi go gv gs ht hg => implNeeds_any W.heap.size _ x W (Nat.le_refl _) hk (hg.is (few_of hk)) ht
  have HEQ : Hid (wtBk x ≤ 1048576 → ∀ W L L' gi go gv gs hi ho hv hs, CpB L W v.ni v.no v.nv v.nt gi go gv gs x → CpB L' W v.ni v.no v.nv v.nt hi ho hv hs x → Calls Tryz.prog 10 #[(cpV v.ni v.no v.nv v.nt gi go gv gs).val x.name, (cpV v.ni v.no v.nv v.nt hi ho hv hs).val x.name] W fun e w' => e = .returned (.bool true) ∧ Below W.heap.size W w') := fun hk W L L' gi go gv gs hi ho hv hs hg hh => eqBlock_same W.heap.size _ _ x W (Nat.le_refl _) (few_of hk) (hg.is (few_of hk)) (hh.is (few_of hk))
  have HMK : Hid (wtBk x ≤ 1048576 → ∀ L H W gi go gv gs, MkB L H gi go gv gs x W → H ≤ W.heap.size → Calls Tryz.prog 11 #[(cpV v.ni v.no v.nv v.nt gi go gv gs).val x.name, .int .i64 1] W fun e w' => ∃ r : Int, e = .returned (.int .i64 r) ∧ 0 < r ∧ MvR L H W w') := fun hk L H W gi go gv gs hm hH => markBlock_kp L H gi go gv gs v.ni v.no v.nv v.nt x 1 W hm hH hk lens.1 lens.2.1 lens.2.2.1 lens.2.2.2 (by decide) (by decide)
  have HBN : Hid (wtBk x ≤ 1048576 → (needsM x).length ≤ 1048576) := needs_few
  have HES : Hid ((needsM x).length ≤ 1048576 → ∀ W a c a' c' B B', FreeS B W a (needsM x).length (needsM x) → FreeS B' W a' (needsM x).length (needsM x) → Calls Tryz.prog 9 #[.slice a (needsM x).length c, .slice a' (needsM x).length c'] W fun e w' => e = .returned (.bool true) ∧ Below W.heap.size W w') := fun hn W a c a' c' B B' h h' => eqStringS_same W.heap.size a a' _ c c' (needsM x) W hn (Nat.le_refl _) h.1 h'.1
  have HMS : Hid ((needsM x).length ≤ 1048576 → ∀ W B a c, B ≤ W.heap.size → FreeS B W a (needsM x).length (needsM x) → Calls Tryz.prog 12 #[.slice a (needsM x).length c, .int .i64 1] W fun e w' => e = .returned (.int .i64 (1 + (needsM x).length)) ∧ HeldS 1 w' a (needsM x).length ∧ Below B W w') := fun hn W B a c hB h => markStringS_free B a _ c (needsM x) 1 W hB h (by omega) (by decide) (by decide)
  have HHS : Hid ((needsM x).length ≤ 1048576 → ∀ W a c, HeldS 1 W a (needsM x).length → Calls Tryz.prog 13 #[.slice a (needsM x).length c, .int .i64 1] W fun e w' => e = .returned (.int .i64 (1 + (needsM x).length)) ∧ Below W.heap.size W w') := fun hn W a c h => heldStringS_free a _ c 1 W h (by omega) (by decide) (by decide)
  clear hx hw hW HX lens
  obtain ⟨ai, ni, ci, ao, no, co, av, nv, cv, at_, nt, ct⟩ := v
  obtain ⟨xn, hxn⟩ : ∃ n, x.name = n := ⟨_, rfl⟩
  obtain ⟨N, hN⟩ : ∃ n, needsM x = n := ⟨_, rfl⟩
  obtain ⟨n, hn⟩ : ∃ n, N.length = n := ⟨_, rfl⟩
  simp only [BkV.val, cpV] at HSZ HTO HSP HIM HEQ HMK ⊢
  rw [hxn] at HSZ HTO HSP HIM HEQ HMK ⊢
  rw [hN, hn] at HSP HIM HES HMS HHS HBN
  clear hxn hN hn
  go_enter Tryz.func3, Tryz.ntmps3
  go_wp2_with fail
  refine (HSZ.out _ (by go_grown)).mono ?_
  rintro e w1 ⟨r, rfl, hb1, p1, p2, p3⟩
  have HB1 := hidOf (below_boxed hb1)
  have BX1 := hidOf ((boxAt_new w [.string xn, .slice ai ni ci, .slice ao no co, .slice av nv cv, .slice at_ nt ct] 26).below hb1)
  have HP := hidOf p3
  clear hb1 p3 HSZ
  have c0 : w1.cell? ⟨w.heap.size, 0, none⟩ = some (.string xn) := (BX1.out.2 0 _ rfl).1
  have c1 : w1.cell? ⟨w.heap.size, 1, none⟩ = some (.slice ai ni ci) := (BX1.out.2 1 _ rfl).1
  have c2 : w1.cell? ⟨w.heap.size, 2, none⟩ = some (.slice ao no co) := (BX1.out.2 2 _ rfl).1
  have c3 : w1.cell? ⟨w.heap.size, 3, none⟩ = some (.slice av nv cv) := (BX1.out.2 3 _ rfl).1
  have c4 : w1.cell? ⟨w.heap.size, 4, none⟩ = some (.slice at_ nt ct) := (BX1.out.2 4 _ rfl).1
  have sc := BX1.out.1
  by_cases hr : r < 0
  · go_wp2_with fail
    go_ret
    exact ⟨rfl, HB1.out⟩
  have HK : Hid (wtBk x ≤ 1048576) := by have := HP.out (by omega); show _ ≤ _; omega
  have hnn : n ≤ 1048576 := HBN.out HK.out
  clear HP HBN
  go_wp2_with fail
  refine (HTO.out HK.out _ HB1.out).mono ?_
  rintro e w2 ⟨gi, go, gv, gs, rfl, hg, hb2, _⟩
  have HG := hidOf hg
  have HB2 : Hid (Below w.heap.size w w2) := HB1.out.trans (hb2.mono HB1.out.size)
  have BX2 := hidOf (BX1.out.below hb2)
  clear c0 c1 c2 c3 c4 sc
  clear hg hb2
  go_wp2_with fail
  refine (HSP.out HK.out _ _ _ _ _ _ HG.out).mono ?_
  rintro e w3 ⟨a3, k3, rfl, hf3, hb3⟩
  have HF3 := hidOf (hf3.low HB2.out.size)
  have HB3 : Hid (Below w.heap.size w w3) := HB2.out.trans (hb3.mono HB2.out.size)
  have BX3 := hidOf (BX2.out.below hb3)
  clear hf3 hb3 HG
  have c0 : w3.cell? ⟨w.heap.size, 0, none⟩ = some (.string xn) := (BX3.out.2 0 _ rfl).1
  have c1 : w3.cell? ⟨w.heap.size, 1, none⟩ = some (.slice ai ni ci) := (BX3.out.2 1 _ rfl).1
  have c2 : w3.cell? ⟨w.heap.size, 2, none⟩ = some (.slice ao no co) := (BX3.out.2 2 _ rfl).1
  have c3 : w3.cell? ⟨w.heap.size, 3, none⟩ = some (.slice av nv cv) := (BX3.out.2 3 _ rfl).1
  have c4 : w3.cell? ⟨w.heap.size, 4, none⟩ = some (.slice at_ nt ct) := (BX3.out.2 4 _ rfl).1
  have sc := BX3.out.1
  go_wp2_with fail
  refine (HTO.out HK.out _ HB3.out).mono ?_
  rintro e w4 ⟨hi, ho, hv, hs, rfl, hg', hb4, hm4⟩
  obtain ⟨L, hL⟩ : ∃ L, w3.heap.size = L := ⟨_, rfl⟩
  obtain ⟨U, hU⟩ : ∃ U, w4.heap.size = U := ⟨_, rfl⟩
  have HLU : Hid (w.heap.size ≤ L ∧ L ≤ w4.heap.size ∧ U ≤ w4.heap.size) := ⟨by rw [← hL]; exact HB3.out.size, by rw [← hL]; exact hb4.size, by omega⟩
  have HLT : Hid (w.heap.size < L) := by show _ < _; rw [← hL]; exact BX3.out.1
  rw [hL, hU] at hm4
  have HM4 := hidOf hm4
  have HG4 := hidOf hg'
  have HB4 : Hid (Below w.heap.size w w4) := HB3.out.trans (hb4.mono HB3.out.size)
  have HF4 := hidOf (HF3.out.below hb4)
  have HFL : Hid (∀ W, Below w4.heap.size w4 W ∨ Below L w4 W → w4.heap.size ≤ W.heap.size → True) := fun _ _ _ => trivial
  have HS3 : Hid (∀ W, Below L w4 W → w4.heap.size ≤ W.heap.size → FreeS w.heap.size W a3 n N) := fun W hb hsz => by
    obtain ⟨q1, q2⟩ := HF3.out
    have hbL : Below L w3 W := (hb4.mono (by omega)).trans hb
    refine ⟨(q1.below (by rw [hL]; exact hbL)).mono (by have := hb4.size; omega), ?_⟩
    rcases q2 with q2 | ⟨b, e, hB, ho⟩
    · exact .inl q2
    · exact .inr ⟨b, e, hB, ho.below (by rw [hL]; exact hbL)⟩
  clear HFL
  have BX4 := hidOf (BX3.out.below hb4)
  clear c0 c1 c2 c3 c4 sc
  clear hg' hb4 hm4 hL hU HF3 HF4
  have hba : Below w4.heap.size w4 (w4.alloc (.cells #[.string xn, .slice (some ⟨hi, 0, none⟩) ni ni, .slice (some ⟨ho, 0, none⟩) no no, .slice (some ⟨hv, 0, none⟩) nv nv, .slice (some ⟨hs, 0, none⟩) nt nt] 34)) := (Below.refl _ _).alloc (Nat.le_refl _) _
  obtain ⟨W4, hW4⟩ : ∃ W, W = w4.alloc (.cells #[.string xn, .slice (some ⟨hi, 0, none⟩) ni ni, .slice (some ⟨ho, 0, none⟩) no no, .slice (some ⟨hv, 0, none⟩) nv nv, .slice (some ⟨hs, 0, none⟩) nt nt] 34) := ⟨_, rfl⟩
  have HW4 := hidOf hW4
  rw [← hW4] at hba
  have HB5 : Hid (Below w.heap.size w W4) := HB4.out.trans (hba.mono HB4.out.size)
  have HL5 : Hid (Below L w4 W4) := hba.mono HLU.out.2.1
  have HG5 := hidOf (HG4.out.below hba)
  have HM5 := hidOf (HM4.out.below hba)
  have BX5 := hidOf (BX4.out.below hba)
  have BC5 : Hid (BoxAt w4.heap.size [.string xn, .slice (some ⟨hi, 0, none⟩) ni ni, .slice (some ⟨ho, 0, none⟩) no no, .slice (some ⟨hv, 0, none⟩) nv nv, .slice (some ⟨hs, 0, none⟩) nt nt] W4) := by
    show BoxAt _ _ _
    rw [hW4]; exact boxAt_new w4 [.string xn, .slice (some ⟨hi, 0, none⟩) ni ni, .slice (some ⟨ho, 0, none⟩) no no, .slice (some ⟨hv, 0, none⟩) nv nv, .slice (some ⟨hs, 0, none⟩) nt nt] 34
  have HS5 : Hid (w4.heap.size ≤ W4.heap.size) := hba.size
  clear hba
  have e0 : W4.cell? ⟨w4.heap.size, 0, none⟩ = some (.string xn) := (BC5.out.2 0 _ rfl).1
  have e1 : W4.cell? ⟨w4.heap.size, 1, none⟩ = some (.slice (some ⟨hi, 0, none⟩) ni ni) := (BC5.out.2 1 _ rfl).1
  have e2 : W4.cell? ⟨w4.heap.size, 2, none⟩ = some (.slice (some ⟨ho, 0, none⟩) no no) := (BC5.out.2 2 _ rfl).1
  have e3 : W4.cell? ⟨w4.heap.size, 3, none⟩ = some (.slice (some ⟨hv, 0, none⟩) nv nv) := (BC5.out.2 3 _ rfl).1
  have e4 : W4.cell? ⟨w4.heap.size, 4, none⟩ = some (.slice (some ⟨hs, 0, none⟩) nt nt) := (BC5.out.2 4 _ rfl).1
  have se := BC5.out.1
  rw [hW4] at e0 e1 e2 e3 e4 se
  clear hW4
  go_wp2_with fail
  rw [← HW4.out]
  refine (HIM.out HK.out _ _ _ _ _ _ (HW.out.below HB5.out) HG5.out).mono ?_
  rintro e w5 ⟨a5, k5, rfl, hf5, hb5⟩
  have HB6 : Hid (Below w.heap.size w w5) := HB5.out.trans (hb5.mono HB5.out.size)
  have HL6 : Hid (Below L w4 w5) := HL5.out.trans (hb5.mono (by have := HS5.out; have := HLU.out; omega))
  have HS6 : Hid (w4.heap.size ≤ w5.heap.size) := Nat.le_trans HS5.out hb5.size
  have HF6 := hidOf (hf5.low HS5.out)
  have HG6 := hidOf (HG5.out.below hb5)
  have HM6 := hidOf (HM5.out.below hb5)
  have BX6 := hidOf (BX5.out.below hb5)
  have BC6 := hidOf (BC5.out.below hb5)
  clear e0 e1 e2 e3 e4 se
  clear hf5 hb5 HW4
  have c0 : w5.cell? ⟨w.heap.size, 0, none⟩ = some (.string xn) := (BX6.out.2 0 _ rfl).1
  have c1 : w5.cell? ⟨w.heap.size, 1, none⟩ = some (.slice ai ni ci) := (BX6.out.2 1 _ rfl).1
  have c2 : w5.cell? ⟨w.heap.size, 2, none⟩ = some (.slice ao no co) := (BX6.out.2 2 _ rfl).1
  have c3 : w5.cell? ⟨w.heap.size, 3, none⟩ = some (.slice av nv cv) := (BX6.out.2 3 _ rfl).1
  have c4 : w5.cell? ⟨w.heap.size, 4, none⟩ = some (.slice at_ nt ct) := (BX6.out.2 4 _ rfl).1
  have sc := BX6.out.1
  have e0 : w5.cell? ⟨w4.heap.size, 0, none⟩ = some (.string xn) := (BC6.out.2 0 _ rfl).1
  have e1 : w5.cell? ⟨w4.heap.size, 1, none⟩ = some (.slice (some ⟨hi, 0, none⟩) ni ni) := (BC6.out.2 1 _ rfl).1
  have e2 : w5.cell? ⟨w4.heap.size, 2, none⟩ = some (.slice (some ⟨ho, 0, none⟩) no no) := (BC6.out.2 2 _ rfl).1
  have e3 : w5.cell? ⟨w4.heap.size, 3, none⟩ = some (.slice (some ⟨hv, 0, none⟩) nv nv) := (BC6.out.2 3 _ rfl).1
  have e4 : w5.cell? ⟨w4.heap.size, 4, none⟩ = some (.slice (some ⟨hs, 0, none⟩) nt nt) := (BC6.out.2 4 _ rfl).1
  have se := BC6.out.1
  go_wp2_with fail
  refine (HES.out hnn _ _ _ _ _ _ _ HF6.out (HS3.out _ HL6.out HS6.out)).mono ?_
  rintro e w6 ⟨rfl, hb6⟩
  have HB7 : Hid (Below w.heap.size w w6) := HB6.out.trans (hb6.mono HB6.out.size)
  have HL7 : Hid (Below L w4 w6) := HL6.out.trans (hb6.mono (by have := HS6.out; have := HLU.out; omega))
  have HS7 : Hid (w4.heap.size ≤ w6.heap.size) := Nat.le_trans HS6.out hb6.size
  have HF7 := hidOf (HF6.out.below hb6)
  have HG7 := hidOf (HG6.out.below hb6)
  have HM7 := hidOf (HM6.out.below hb6)
  have BX7 := hidOf (BX6.out.below hb6)
  have BC7 := hidOf (BC6.out.below hb6)
  clear c0 c1 c2 c3 c4 sc
  clear e0 e1 e2 e3 e4 se
  clear hb6
  have c0 : w6.cell? ⟨w.heap.size, 0, none⟩ = some (.string xn) := (BX7.out.2 0 _ rfl).1
  have c1 : w6.cell? ⟨w.heap.size, 1, none⟩ = some (.slice ai ni ci) := (BX7.out.2 1 _ rfl).1
  have c2 : w6.cell? ⟨w.heap.size, 2, none⟩ = some (.slice ao no co) := (BX7.out.2 2 _ rfl).1
  have c3 : w6.cell? ⟨w.heap.size, 3, none⟩ = some (.slice av nv cv) := (BX7.out.2 3 _ rfl).1
  have c4 : w6.cell? ⟨w.heap.size, 4, none⟩ = some (.slice at_ nt ct) := (BX7.out.2 4 _ rfl).1
  have sc := BX7.out.1
  have e0 : w6.cell? ⟨w4.heap.size, 0, none⟩ = some (.string xn) := (BC7.out.2 0 _ rfl).1
  have e1 : w6.cell? ⟨w4.heap.size, 1, none⟩ = some (.slice (some ⟨hi, 0, none⟩) ni ni) := (BC7.out.2 1 _ rfl).1
  have e2 : w6.cell? ⟨w4.heap.size, 2, none⟩ = some (.slice (some ⟨ho, 0, none⟩) no no) := (BC7.out.2 2 _ rfl).1
  have e3 : w6.cell? ⟨w4.heap.size, 3, none⟩ = some (.slice (some ⟨hv, 0, none⟩) nv nv) := (BC7.out.2 3 _ rfl).1
  have e4 : w6.cell? ⟨w4.heap.size, 4, none⟩ = some (.slice (some ⟨hs, 0, none⟩) nt nt) := (BC7.out.2 4 _ rfl).1
  have se := BC7.out.1
  go_wp2_with fail
  go_region_held3 (fun w' => w'.cell? ⟨w.heap.size, 0, none⟩ = some (.string xn) ∧ w'.cell? ⟨w.heap.size, 1, none⟩ = some (.slice ai ni ci) ∧ w'.cell? ⟨w.heap.size, 2, none⟩ = some (.slice ao no co) ∧ w'.cell? ⟨w.heap.size, 3, none⟩ = some (.slice av nv cv) ∧ w'.cell? ⟨w.heap.size, 4, none⟩ = some (.slice at_ nt ct) ∧ w'.cell? ⟨w4.heap.size, 0, none⟩ = some (.string xn) ∧ w'.cell? ⟨w4.heap.size, 1, none⟩ = some (.slice (some ⟨hi, 0, none⟩) ni ni) ∧ w'.cell? ⟨w4.heap.size, 2, none⟩ = some (.slice (some ⟨ho, 0, none⟩) no no) ∧ w'.cell? ⟨w4.heap.size, 3, none⟩ = some (.slice (some ⟨hv, 0, none⟩) nv nv) ∧ w'.cell? ⟨w4.heap.size, 4, none⟩ = some (.slice (some ⟨hs, 0, none⟩) nt nt)) (simp [go_sem, *])
    (first
      | (go_at_call 7; refine (HTO.out HK.out _ (by first | exact HB7.out | exact below_drew1 HB7.out | exact drewN HB7.out _)).mono ?_; rintro e w7 ⟨ki, ko, kv, ks, rfl, hg, hb7, _⟩; replace hb7 : Below w6.heap.size w6 w7 := undrew hb7; have HK8 := hidOf hg; have HG8 := hidOf (HG7.out.below hb7); have HM8 := hidOf (HM7.out.below hb7); have HF8 := hidOf (HF7.out.below hb7); have HB8 : Hid (Below w.heap.size w w7) := HB7.out.trans (hb7.mono HB7.out.size); have HL8 : Hid (Below L w4 w7) := HL7.out.trans (hb7.mono (by have := HS7.out; have := HLU.out; omega)); have HS8 : Hid (w4.heap.size ≤ w7.heap.size) := Nat.le_trans HS7.out hb7.size; have BX8 := hidOf (BX7.out.below hb7); have BC8 := hidOf (BC7.out.below hb7); have q5 := BX8.out.1; have q7 := BC8.out.1; obtain ⟨hc1, hf1⟩ := bcell hb7; clear hg hb7 hf1)
      | (go_at_call 10; refine (HEQ.out HK.out _ _ _ _ _ _ _ _ _ _ _ HG8.out HK8.out).mono ?_; rintro e w8 ⟨rfl, hb8⟩; have HM9 := hidOf (HM8.out.below hb8); have HF9 := hidOf (HF8.out.below hb8); have HB9 : Hid (Below w.heap.size w w8) := HB8.out.trans (hb8.mono HB8.out.size); have HL9 : Hid (Below L w4 w8) := HL8.out.trans (hb8.mono (by have := HS8.out; have := HLU.out; omega)); have HS9 : Hid (w4.heap.size ≤ w8.heap.size) := Nat.le_trans HS8.out hb8.size; have BX9 := hidOf (BX8.out.below hb8); have BC9 := hidOf (BC8.out.below hb8); obtain ⟨hc2, hf2⟩ := bcell hb8; clear hb8 hf2))
  clear c0 c1 c2 c3 c4 sc
  clear e0 e1 e2 e3 e4 se
  try clear hc1 hc2 q5 q7
  have c0 : w8.cell? ⟨w.heap.size, 0, none⟩ = some (.string xn) := (BX9.out.2 0 _ rfl).1
  have c1 : w8.cell? ⟨w.heap.size, 1, none⟩ = some (.slice ai ni ci) := (BX9.out.2 1 _ rfl).1
  have c2 : w8.cell? ⟨w.heap.size, 2, none⟩ = some (.slice ao no co) := (BX9.out.2 2 _ rfl).1
  have c3 : w8.cell? ⟨w.heap.size, 3, none⟩ = some (.slice av nv cv) := (BX9.out.2 3 _ rfl).1
  have c4 : w8.cell? ⟨w.heap.size, 4, none⟩ = some (.slice at_ nt ct) := (BX9.out.2 4 _ rfl).1
  have sc := BX9.out.1
  have e0 : w8.cell? ⟨w4.heap.size, 0, none⟩ = some (.string xn) := (BC9.out.2 0 _ rfl).1
  have e1 : w8.cell? ⟨w4.heap.size, 1, none⟩ = some (.slice (some ⟨hi, 0, none⟩) ni ni) := (BC9.out.2 1 _ rfl).1
  have e2 : w8.cell? ⟨w4.heap.size, 2, none⟩ = some (.slice (some ⟨ho, 0, none⟩) no no) := (BC9.out.2 2 _ rfl).1
  have e3 : w8.cell? ⟨w4.heap.size, 3, none⟩ = some (.slice (some ⟨hv, 0, none⟩) nv nv) := (BC9.out.2 3 _ rfl).1
  have e4 : w8.cell? ⟨w4.heap.size, 4, none⟩ = some (.slice (some ⟨hs, 0, none⟩) nt nt) := (BC9.out.2 4 _ rfl).1
  have se := BC9.out.1
  go_wp2_with fail
  refine (HMK.out HK.out L U _ _ _ _ _ HM9.out (by have := HS9.out; have := HLU.out; omega)).mono ?_
  rintro e w9 ⟨mk, rfl, hmk, hmv⟩
  have HBm : Hid (Below L w8 w9) := hmv.belowL (Nat.le_refl _) (by have := HS9.out; have := HLU.out; omega)
  have HB10 : Hid (Below w.heap.size w w9) := HB9.out.trans (HBm.out.mono HLU.out.1)
  have HL10 : Hid (Below L w4 w9) := HL9.out.trans HBm.out
  have HS10 : Hid (w4.heap.size ≤ w9.heap.size) := Nat.le_trans HS9.out hmv.size
  have HF10 := hidOf (HF9.out.mvR hmv HLU.out.2.2)
  have BX10 := hidOf (BX9.out.mvR hmv (by have := HLT.out; omega))
  clear hmv HBm
  clear c0 c1 c2 c3 c4 sc
  clear e0 e1 e2 e3 e4 se
  have c0 : w9.cell? ⟨w.heap.size, 0, none⟩ = some (.string xn) := (BX10.out.2 0 _ rfl).1
  have c1 : w9.cell? ⟨w.heap.size, 1, none⟩ = some (.slice ai ni ci) := (BX10.out.2 1 _ rfl).1
  have c2 : w9.cell? ⟨w.heap.size, 2, none⟩ = some (.slice ao no co) := (BX10.out.2 2 _ rfl).1
  have c3 : w9.cell? ⟨w.heap.size, 3, none⟩ = some (.slice av nv cv) := (BX10.out.2 3 _ rfl).1
  have c4 : w9.cell? ⟨w.heap.size, 4, none⟩ = some (.slice at_ nt ct) := (BX10.out.2 4 _ rfl).1
  have sc := BX10.out.1
  have hmk0 : decide (mk < 0) = false := decide_eq_false (by omega)
  go_wp2_with fail
  refine (HES.out hnn _ _ _ _ _ _ _ HF10.out (HS3.out _ HL10.out HS10.out)).mono ?_
  rintro e wa ⟨rfl, hba⟩
  have HB11 : Hid (Below w.heap.size w wa) := HB10.out.trans (hba.mono HB10.out.size)
  have HL11 : Hid (Below L w4 wa) := HL10.out.trans (hba.mono (by have := HS10.out; have := HLU.out; omega))
  have HS11 : Hid (w4.heap.size ≤ wa.heap.size) := Nat.le_trans HS10.out hba.size
  have HF11 := hidOf (HF10.out.below hba)
  have BX11 := hidOf (BX10.out.below hba)
  clear c0 c1 c2 c3 c4 sc
  clear hba
  go_wp2_with fail
  refine (HMS.out hnn _ w4.heap.size _ _ HS11.out HF11.out).mono ?_
  rintro e wb ⟨rfl, hh, hbb⟩
  have HH := hidOf hh
  have HB12 : Hid (Below w.heap.size w wb) := HB11.out.trans (hbb.mono (by have := HB4.out.size; omega))
  have HL12 : Hid (Below L w4 wb) := HL11.out.trans (hbb.mono HLU.out.2.1)
  have HS12 : Hid (w4.heap.size ≤ wb.heap.size) := Nat.le_trans HS11.out hbb.size
  have BX12 : Hid (BoxAt (w.heap.size) [.string xn, .slice ai ni ci, .slice ao no co, .slice av nv cv, .slice at_ nt ct] wb) := by
    show BoxAt _ _ _
    have hlt : w.heap.size < w4.heap.size := by have := BX4.out.1; omega
    exact ⟨by have := HS12.out; omega, fun jj u hu => ⟨(hbb.cell (p := ⟨w.heap.size, jj, none⟩) hlt).trans (BX11.out.2 jj u hu).1, (hbb.frozen (p := ⟨w.heap.size, jj, none⟩) hlt).trans (BX11.out.2 jj u hu).2⟩⟩
  clear hh hbb
  go_wp2_with fail
  refine (HHS.out hnn _ _ _ HH.out).mono ?_
  rintro e wc ⟨rfl, hbc⟩
  have HB13 : Hid (Below w.heap.size w wc) := HB12.out.trans (hbc.mono HB12.out.size)
  have HL13 : Hid (Below L w4 wc) := HL12.out.trans (hbc.mono (by have := HS12.out; have := HLU.out; omega))
  have HS13 : Hid (w4.heap.size ≤ wc.heap.size) := Nat.le_trans HS12.out hbc.size
  have HH13 := hidOf (HH.out.below hbc)
  have BX13 := hidOf (BX12.out.below hbc)
  clear hbc HH
  have c0 : wc.cell? ⟨w.heap.size, 0, none⟩ = some (.string xn) := (BX13.out.2 0 _ rfl).1
  have c1 : wc.cell? ⟨w.heap.size, 1, none⟩ = some (.slice ai ni ci) := (BX13.out.2 1 _ rfl).1
  have c2 : wc.cell? ⟨w.heap.size, 2, none⟩ = some (.slice ao no co) := (BX13.out.2 2 _ rfl).1
  have c3 : wc.cell? ⟨w.heap.size, 3, none⟩ = some (.slice av nv cv) := (BX13.out.2 3 _ rfl).1
  have c4 : wc.cell? ⟨w.heap.size, 4, none⟩ = some (.slice at_ nt ct) := (BX13.out.2 4 _ rfl).1
  have sc := BX13.out.1
  have hq0 : decide ((1 : Int) + n < 0) = false := decide_eq_false (by omega)
  go_wp2_with fail
  refine (HTO.out HK.out _ HB13.out).mono ?_
  rintro e wd ⟨ki', ko', kv', ks', rfl, hg, hbd, _⟩
  have HGd := hidOf hg
  have HB14 : Hid (Below w.heap.size w wd) := HB13.out.trans (hbd.mono HB13.out.size)
  have HL14 : Hid (Below L w4 wd) := HL13.out.trans (hbd.mono (by have := HS13.out; have := HLU.out; omega))
  have HS14 : Hid (w4.heap.size ≤ wd.heap.size) := Nat.le_trans HS13.out hbd.size
  have HH14 := hidOf (HH13.out.below hbd)
  clear hg hbd
  clear c0 c1 c2 c3 c4 sc
  go_wp2_with fail
  refine (HIM.out HK.out _ _ _ _ _ _ (HW.out.below HB14.out) HGd.out).mono ?_
  rintro e we ⟨ae, ke, rfl, hfe, hbe⟩
  have HFe := hidOf hfe
  have HB15 : Hid (Below w.heap.size w we) := HB14.out.trans (hbe.mono HB14.out.size)
  have HL15 : Hid (Below L w4 we) := HL14.out.trans (hbe.mono (by have := HS14.out; have := HLU.out; omega))
  have HS15 : Hid (w4.heap.size ≤ we.heap.size) := Nat.le_trans HS14.out hbe.size
  have HH15 := hidOf (HH14.out.below hbe)
  clear hfe hbe
  go_wp2_with fail
  refine (HES.out hnn _ _ _ _ _ _ _ HFe.out (HS3.out _ HL15.out HS15.out)).mono ?_
  rintro e wf ⟨rfl, hbf⟩
  have HB16 : Hid (Below w.heap.size w wf) := HB15.out.trans (hbf.mono HB15.out.size)
  have HH16 := hidOf (HH15.out.below hbf)
  clear hbf
  go_wp2_with fail
  refine (HHS.out hnn _ _ _ HH16.out).mono ?_
  rintro e wg ⟨rfl, hbg⟩
  have HB17 : Hid (Below w.heap.size w wg) := HB16.out.trans (hbg.mono HB16.out.size)
  clear hbg
  go_wp2_with fail
  go_ret
  exact ⟨rfl, HB17.out⟩

/-! ### THE ROW's STEP -/
set_option maxRecDepth 100000 in
theorem lifted (os : Os) (started : os.Started) (H : Type) (enc : TypeId × Value → H) :
    ReturnsInHanded {} Tryz.checked os 3 .any (fun w args => (Rows.fnExactReachNeedsSpec.pre enc Tryz.prog Tryz.f3 Rows.fnExactReachNeedsRow.domain false w args ∧ laidMetH Tryz.prog theLaid w) ∧ sizedMet enc Tryz.prog Tryz.f3 (OpenSpec.ofChange Rows.fnExactReachNeedsSpec) false w args)
      (Rows.fnExactReachNeedsSpec.post enc Tryz.prog Tryz.f3 false true false false) := by
  refine returnsInHanded_of_change_and (C := Tryz.checked) (X := fun w _ => laidMetH Tryz.prog theLaid w) (fun _ _ _ hh h => h.of_heap hh) own started (by kernel_rfl) Tryz.func3
    (ChangeSpec.witness_shaped (enc := enc) (C := Tryz.checked) (os := os) (X := fun w _ => laidMetH Tryz.prog theLaid w) false (World.laidAll Tryz.prog os theLaid) #[.agg #[.string ByteArray.empty, .slice none 0 0, .slice none 0 0, .slice none 0 0, .slice none 0 0]] 8 (World.laidAll_os _ _ _)
      (shapedL os _) (by kernel_rfl) (by kernel_rfl) (by kernel_rfl) (metL os _)) ?_
  intro W base args ds gs before hval0 hW hcnd _ hL _
  have hval : ∀ (j : Nat) t v, Tryz.f3.params[j]? = some t → args[j]? = some v → Value.okWide Tryz.prog W .any base t v := hval0
  have hW' := hW
  obtain ⟨p, q, hA0, hV, rfl, hfz, hnd⟩ := hW
  have hA : DataW.TrodAll enc Tryz.prog W 0 (fun _ => true) true Tryz.f3.params.toList args.toList ds p := hA0
  rw [Tryz.params3] at hA hval
  obtain ⟨v0, d0, rfl, rfl, h0⟩ := trodAll_one hA
  have hV0 := hV
  obtain ⟨g, t, cs, fuel, gd, pp, rfl, _⟩ := trodVars_one hV0
  obtain ⟨cs0, rfl, hsz0⟩ := okWide_struct Tryz.underlying26 (hval 0 26 v0 rfl rfl)
  have k0 := h0
  have lt0 : ∀ x ∈ p, x.block < W.heap.size := by obtain ⟨m, hm⟩ := k0; exact DataW.trod_lt m _ _ _ hm
  obtain ⟨fuel0, hf0⟩ := h0
  obtain ⟨v, x, hcs0, hx, hwd⟩ := open_block fuel0 cs0.toList _ (by rw [Array.length_toList, hsz0]; kernel_rfl) hf0
  obtain rfl : cs0 = #[.string x.name, .slice v.ai v.ni v.ci, .slice v.ao v.no v.co, .slice v.av v.nv v.cv, .slice v.at_ v.nt v.ct] := by cases cs0; simpa [BkV.val, Value.cells] using hcs0
  clear hA0 hval0
  refine (walk v x W (tabs_of hL) hwd hx).mono fun e W' ⟨he, bel⟩ => ?_
  subst he
  exact ⟨_, rfl, _, _, _, [], _, _, hW', trodAll_mk1 (shut_bool Tryz.underlying4 _), trodAll_mk1 (Below.trod laidOut (by kernel_rfl) (of_decide_eq_true (by kernel_rfl)) k0 bel lt0), Below.trodVars laidOut bel (by kernel_rfl) hV, bel.frame _, fun h => by cases h⟩
end Go.Proofs.YtchemhjcknkbgaaGreatDoor.fnExactReachNeeds
