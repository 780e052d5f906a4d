/- For every Block the law FnExactInstNew returns true: InstNew of the program answers as the model's, its argument reads as before, its answer owns its memory. The one condition is the row's own: the package-level variables that it names lie as the program's text lays them. -/
import Derived.Test.YtceokbmejnopoaaGreatDoorLaidB
import Derived.Test.YtceokbmejnopoaaGreatDoorBunY51
import Derived.Test.YtceokbmejnopoaaGreatDoorBunY50
import Derived.Test.YtceokbmejnopoaaGreatDoorBunY10
import Derived.Test.YtceokbmejnopoaaGreatDoorBunY39
import Derived.Test.YtceokbmejnopoaaGreatDoorBunY31
import Derived.ChangeOld
import Derived.WalkKit
import Derived.ProofKit
import Derived.Deep.RegionHeld3
namespace Go.Proofs.YtceokbmejnopoaaGreatDoor.fnExactInstNew
open Go Go.ChangeShapes Go.WideShapes Go.ChangeAt Go.RowKit Go.Deep Go.PlainAid
set_option linter.unusedVariables false
set_option linter.unusedSimpArgs false


theorem few_of {x : Bk} (h : wtBk x ≤ 1048576) : FewBk x := by
  unfold wtBk at h
  refine ⟨⟨by omega, fun p hp => ?_⟩, ⟨by omega, fun p hp => ?_⟩, by omega, ⟨by omega, fun s hs => ?_⟩⟩
  · have h1 := wsum_mem (f := wtPt) hp
    have e : wtPt p = p.name.size + (p.vals.length + wsum wtS p.vals) := rfl
    show p.vals.length ≤ 1048576
    omega
  · have h1 := wsum_mem (f := wtPt) hp
    have e : wtPt p = p.name.size + (p.vals.length + wsum wtS p.vals) := rfl
    show p.vals.length ≤ 1048576
    omega
  · have h1 := wsum_mem (f := wtSt) hs
    have e : wtSt s = s.name.size + (s.moves.length + wsum wtMo s.moves) + (s.acts.length + wsum wtAc s.acts) := rfl
    exact ⟨by omega, by omega⟩

set_option maxHeartbeats 3200000 in
set_option maxRecDepth 100000 in
theorem walk (v : BkV) (x : Bk) (w : World) (hw : Tabs w) (hW : WideBk x) (hx : IsBk w.heap.size w v x) :
    Calls Tryz.prog 5 #[v.val x.name] w fun e w' => e = .returned (.bool true) ∧ Below w.heap.size w w' := by
  have HX : Hid (∀ W, Below w.heap.size w W → IsBk w.heap.size W v x) := fun W hb => hx.below hb
  have HW : Hid (Tabs w) := hw
  have lens : x.ins.length = v.ni ∧ x.outs.length = v.no ∧ x.vars.length = v.nv ∧ x.states.length = v.nt := ⟨hx.ins.1, hx.outs.1, hx.vars.1, hx.states.1⟩
  have HSZ : Hid (∀ W, Below w.heap.size w W → Calls Tryz.prog 8 #[v.val x.name, .int .i64 1048576] W fun e w' => SzP (wtBk x) 1048576 W e w') := fun W hb => szBlock_any w.heap.size W 1048576 v x (by decide) (by decide) hb.size hW (HX.out W hb)
  have HTO : Hid (wtBk x ≤ 1048576 → ∀ W, Below w.heap.size w W → Calls Tryz.prog 10 #[v.val x.name] W fun e w' => ∃ gi go gv gs, e = .returned ((cpV v.ni v.no v.nv v.nt gi go gv gs).val x.name) ∧ CpB W.heap.size w' v.ni v.no v.nv v.nt gi go gv gs x ∧ Below W.heap.size W w' ∧ MkB W.heap.size w'.heap.size gi go gv gs x w') := fun hk W hb => toBlock_mk w.heap.size W v x hb.size (few_of hk) (HX.out W hb)
  have HSP : Hid (wtBk x ≤ 1048576 → ∀ W L gi go gv gs, CpB L W v.ni v.no v.nv v.nt gi go gv gs x → Calls Tryz.prog 19 #[(cpV v.ni v.no v.nv v.nt gi go gv gs).val x.name] W fun e w' => ∃ a c, e = .returned (.agg #[.int .i64 0, .slice a (newM x).length c]) ∧ FreeI W.heap.size w' a (newM x).length (newM x) ∧ Below W.heap.size W w') := fun hk W L gi go gv gs hg => specInstNew_any W.heap.size _ x W (Nat.le_refl _) hk (hg.is (few_of hk))
  have HIM : Hid (wtBk x ≤ 1048576 → ∀ W L gi go gv gs, Tabs W → CpB L W v.ni v.no v.nv v.nt gi go gv gs x → Calls Tryz.prog 20 #[(cpV v.ni v.no v.nv v.nt gi go gv gs).val x.name] W fun e w' => ∃ a c, e = .returned (.agg #[.int .i64 0, .slice a (newM x).length c]) ∧ FreeI W.heap.size w' a (newM x).length (newM x) ∧ Below W.heap.size W w') := fun hk W L gi go gv gs ht hg => implInstNew_any W.heap.size _ x W (Nat.le_refl _) hk (hg.is (few_of hk)) ht
  have HEQ : Hid (wtBk x ≤ 1048576 → ∀ W L L' gi go gv gs hi ho hv hs, CpB L W v.ni v.no v.nv v.nt gi go gv gs x → CpB L' W v.ni v.no v.nv v.nt hi ho hv hs x → Calls Tryz.prog 13 #[(cpV v.ni v.no v.nv v.nt gi go gv gs).val x.name, (cpV v.ni v.no v.nv v.nt hi ho hv hs).val x.name] W fun e w' => e = .returned (.bool true) ∧ Below W.heap.size W w') := fun hk W L L' gi go gv gs hi ho hv hs hg hh => eqBlock_same W.heap.size _ _ x W (Nat.le_refl _) (few_of hk) (hg.is (few_of hk)) (hh.is (few_of hk))
  have HMK : Hid (wtBk x ≤ 1048576 → ∀ L H W gi go gv gs, MkB L H gi go gv gs x W → H ≤ W.heap.size → Calls Tryz.prog 14 #[(cpV v.ni v.no v.nv v.nt gi go gv gs).val x.name, .int .i64 1] W fun e w' => ∃ r : Int, e = .returned (.int .i64 r) ∧ 0 < r ∧ MvR L H W w') := fun hk L H W gi go gv gs hm hH => markBlock_kp L H gi go gv gs v.ni v.no v.nv v.nt x 1 W hm hH hk lens.1 lens.2.1 lens.2.2.1 lens.2.2.2 (by decide) (by decide)
  have HBN : Hid (wtBk x ≤ 1048576 → (newM x).length ≤ 1048576) := newM_few
  have HES : Hid ((newM x).length ≤ 1048576 → ∀ W a c a' c' B B', FreeI B W a (newM x).length (newM x) → FreeI B' W a' (newM x).length (newM x) → Calls Tryz.prog 21 #[.agg #[.int .i64 0, .slice a (newM x).length c], .agg #[.int .i64 0, .slice a' (newM x).length c']] W fun e w' => e = .returned (.bool true) ∧ Below W.heap.size W w') := fun hn W a c a' c' B B' h h' => eqInst_free 0 a a' _ c c' (newM x) B B' W hn h h'
  have HMS : Hid ((newM x).length ≤ 1048576 → ∀ W B H a c, FreeI B W a (newM x).length (newM x) → (∀ b o, a = some ⟨b, o, none⟩ → (newM x).length ≠ 0 → b < H) → Calls Tryz.prog 22 #[.agg #[.int .i64 0, .slice a (newM x).length c], .int .i64 1] W fun e w' => e = .returned (.int .i64 (1 + (newM x).length)) ∧ HeldI 1 w' a (newM x).length ∧ MvR B H W w') := fun hn W B H a c h hu => markInst_rng B H 0 a _ c (newM x) 1 W h hu (by omega) (by decide) (by decide)
  have HHS : Hid ((newM x).length ≤ 1048576 → ∀ W a c, HeldI 1 W a (newM x).length → Calls Tryz.prog 23 #[.agg #[.int .i64 0, .slice a (newM x).length c], .int .i64 1] W fun e w' => e = .returned (.int .i64 (1 + (newM x).length)) ∧ Below W.heap.size W w') := fun hn W a c h => heldInst_free 0 a _ c 1 W h (by omega) (by decide) (by decide)
  clear hx hw hW HX lens
  obtain ⟨ai, ni, ci, ao, no, co, av, nv, cv, at_, nt, ct⟩ := v
  obtain ⟨xn, hxn⟩ : ∃ n, x.name = n := ⟨_, rfl⟩
  obtain ⟨NW, hNW⟩ : ∃ n, newM x = n := ⟨_, rfl⟩
  obtain ⟨n, hn⟩ : ∃ n, NW.length = n := ⟨_, rfl⟩
  simp only [BkV.val, cpV] at HSZ HTO HSP HIM HEQ HMK ⊢
  rw [hxn] at HSZ HTO HSP HIM HEQ HMK ⊢
  rw [hNW, hn] at HSP HIM HES HMS HHS HBN
  clear hxn hNW hn
  go_enter Tryz.func5, Tryz.ntmps5
  go_wp2_with fail
  refine (HSZ.out _ (by go_grown)).mono ?_
  rintro e w1 ⟨r, rfl, hb1, p1, p2, p3⟩
  have HB1 := hidOf (below_boxed hb1)
  have BA1 := hidOf ((boxAt_new w [.string xn, .slice ai ni ci, .slice ao no co, .slice av nv cv, .slice at_ nt ct] 26).below hb1)
  have HP := hidOf p3
  clear hb1 p3 HSZ
  have c0 : w1.cell? ⟨w.heap.size, 0, none⟩ = some (.string xn) := (BA1.out.2 0 _ rfl).1
  have c1 : w1.cell? ⟨w.heap.size, 1, none⟩ = some (.slice ai ni ci) := (BA1.out.2 1 _ rfl).1
  have c2 : w1.cell? ⟨w.heap.size, 2, none⟩ = some (.slice ao no co) := (BA1.out.2 2 _ rfl).1
  have c3 : w1.cell? ⟨w.heap.size, 3, none⟩ = some (.slice av nv cv) := (BA1.out.2 3 _ rfl).1
  have c4 : w1.cell? ⟨w.heap.size, 4, none⟩ = some (.slice at_ nt ct) := (BA1.out.2 4 _ rfl).1
  have sc := BA1.out.1
  by_cases hr : r < 0
  · go_wp2_with fail
    go_ret
    exact ⟨rfl, HB1.out⟩
  have HK : Hid (wtBk x ≤ 1048576) := by have := HP.out (by omega); show _ ≤ _; omega
  have hnn : n ≤ 1048576 := HBN.out HK.out
  clear HP HBN
  go_wp2_with fail
  refine (HTO.out HK.out _ HB1.out).mono ?_
  rintro e w2 ⟨gi, go, gv, gs, rfl, hg, hb2, _⟩
  have HG := hidOf hg
  have HB2 : Hid (Below w.heap.size w w2) := HB1.out.trans (hb2.mono HB1.out.size)
  have BA2 := hidOf (BA1.out.below hb2)
  clear c0 c1 c2 c3 c4 sc
  clear hg hb2
  go_wp2_with fail
  refine (HSP.out HK.out _ _ _ _ _ _ HG.out).mono ?_
  rintro e w3 ⟨a3, k3, rfl, hf3, hb3⟩
  have HF3 := hidOf (hf3.low HB2.out.size)
  have HB3 : Hid (Below w.heap.size w w3) := HB2.out.trans (hb3.mono HB2.out.size)
  have BA3 := hidOf (BA2.out.below hb3)
  clear hf3 hb3 HG
  have hba : Below w3.heap.size w3 (w3.alloc (.cells #[.int .i64 0, .slice a3 n k3] 45)) := (Below.refl _ _).alloc (Nat.le_refl _) _
  obtain ⟨W3, hW3⟩ : ∃ W, W = w3.alloc (.cells #[.int .i64 0, .slice a3 n k3] 45) := ⟨_, rfl⟩
  have HW3 := hidOf hW3
  rw [← hW3] at hba
  have BA4 := hidOf (BA3.out.below hba)
  have HF4 := hidOf (HF3.out.below hba)
  have BD4 : Hid (BoxAt w3.heap.size [.int .i64 0, .slice a3 n k3] W3) := by
    show BoxAt _ _ _
    rw [hW3]; exact boxAt_new w3 [.int .i64 0, .slice a3 n k3] 45
  have HB4 : Hid (Below w.heap.size w W3) := HB3.out.trans (hba.mono HB3.out.size)
  clear hba
  have c0 : W3.cell? ⟨w.heap.size, 0, none⟩ = some (.string xn) := (BA4.out.2 0 _ rfl).1
  have c1 : W3.cell? ⟨w.heap.size, 1, none⟩ = some (.slice ai ni ci) := (BA4.out.2 1 _ rfl).1
  have c2 : W3.cell? ⟨w.heap.size, 2, none⟩ = some (.slice ao no co) := (BA4.out.2 2 _ rfl).1
  have c3 : W3.cell? ⟨w.heap.size, 3, none⟩ = some (.slice av nv cv) := (BA4.out.2 3 _ rfl).1
  have c4 : W3.cell? ⟨w.heap.size, 4, none⟩ = some (.slice at_ nt ct) := (BA4.out.2 4 _ rfl).1
  have sc := BA4.out.1
  have d0 : W3.cell? ⟨w3.heap.size, 0, none⟩ = some (.int .i64 0) := (BD4.out.2 0 _ rfl).1
  have d1 : W3.cell? ⟨w3.heap.size, 1, none⟩ = some (.slice a3 n k3) := (BD4.out.2 1 _ rfl).1
  have sd := BD4.out.1
  rw [hW3] at c0 c1 c2 c3 c4 sc
  clear hW3
  clear d0 d1 sd
  go_wp2_with fail
  rw [← HW3.out]
  refine (HTO.out HK.out _ HB4.out).mono ?_
  rintro e w4 ⟨hi, ho, hv, hs, rfl, hg', hb4, hm4⟩
  obtain ⟨L, hL⟩ : ∃ L, W3.heap.size = L := ⟨_, rfl⟩
  obtain ⟨U, hU⟩ : ∃ U, w4.heap.size = U := ⟨_, rfl⟩
  have HLU : Hid (w.heap.size ≤ L ∧ L ≤ w4.heap.size ∧ U ≤ w4.heap.size) := ⟨by rw [← hL]; exact HB4.out.size, by rw [← hL]; exact hb4.size, by omega⟩
  have HLT : Hid (w.heap.size < L ∧ w3.heap.size < L) := ⟨by rw [← hL]; exact BA4.out.1, by rw [← hL]; exact BD4.out.1⟩
  rw [hL, hU] at hm4
  have HM5 := hidOf hm4
  have HG5 := hidOf hg'
  have HB5 : Hid (Below w.heap.size w w4) := HB4.out.trans (hb4.mono HB4.out.size)
  have HS3 : Hid (∀ W, Below L w4 W → w4.heap.size ≤ W.heap.size → FreeI w.heap.size W a3 n NW) := fun W hb hsz => by
    obtain ⟨q1, q2⟩ := HF4.out
    have hbL : Below L W3 W := (hb4.mono (by omega)).trans hb
    refine ⟨(q1.below (by rw [hL]; exact hbL)).mono (by have := hb4.size; omega), ?_⟩
    rcases q2 with q2 | ⟨b, e, hB, ho⟩
    · exact .inl q2
    · exact .inr ⟨b, e, hB, ho.below (by rw [hL]; exact hbL)⟩
  have BA5 := hidOf (BA4.out.below hb4)
  have BD5 := hidOf (BD4.out.below hb4)
  clear c0 c1 c2 c3 c4 sc
  clear hg' hb4 hm4 hL hU HF3 HF4 HW3
  have hba : Below w4.heap.size w4 (w4.alloc (.cells #[.string xn, .slice (some ⟨hi, 0, none⟩) ni ni, .slice (some ⟨ho, 0, none⟩) no no, .slice (some ⟨hv, 0, none⟩) nv nv, .slice (some ⟨hs, 0, none⟩) nt nt] 34)) := (Below.refl _ _).alloc (Nat.le_refl _) _
  obtain ⟨W4, hW4⟩ : ∃ W, W = w4.alloc (.cells #[.string xn, .slice (some ⟨hi, 0, none⟩) ni ni, .slice (some ⟨ho, 0, none⟩) no no, .slice (some ⟨hv, 0, none⟩) nv nv, .slice (some ⟨hs, 0, none⟩) nt nt] 34) := ⟨_, rfl⟩
  have HW4 := hidOf hW4
  rw [← hW4] at hba
  have BA6 := hidOf (BA5.out.below hba)
  have BD6 := hidOf (BD5.out.below hba)
  have HG6 := hidOf (HG5.out.below hba)
  have HM6 := hidOf (HM5.out.below hba)
  have BC6 : Hid (BoxAt w4.heap.size [.string xn, .slice (some ⟨hi, 0, none⟩) ni ni, .slice (some ⟨ho, 0, none⟩) no no, .slice (some ⟨hv, 0, none⟩) nv nv, .slice (some ⟨hs, 0, none⟩) nt nt] W4) := by
    show BoxAt _ _ _
    rw [hW4]; exact boxAt_new w4 [.string xn, .slice (some ⟨hi, 0, none⟩) ni ni, .slice (some ⟨ho, 0, none⟩) no no, .slice (some ⟨hv, 0, none⟩) nv nv, .slice (some ⟨hs, 0, none⟩) nt nt] 34
  have HB6 : Hid (Below w.heap.size w W4) := HB5.out.trans (hba.mono HB5.out.size)
  have HL6 : Hid (Below L w4 W4) := hba.mono HLU.out.2.1
  have HS6 : Hid (w4.heap.size ≤ W4.heap.size) := hba.size
  clear hba
  have e0 : W4.cell? ⟨w4.heap.size, 0, none⟩ = some (.string xn) := (BC6.out.2 0 _ rfl).1
  have e1 : W4.cell? ⟨w4.heap.size, 1, none⟩ = some (.slice (some ⟨hi, 0, none⟩) ni ni) := (BC6.out.2 1 _ rfl).1
  have e2 : W4.cell? ⟨w4.heap.size, 2, none⟩ = some (.slice (some ⟨ho, 0, none⟩) no no) := (BC6.out.2 2 _ rfl).1
  have e3 : W4.cell? ⟨w4.heap.size, 3, none⟩ = some (.slice (some ⟨hv, 0, none⟩) nv nv) := (BC6.out.2 3 _ rfl).1
  have e4 : W4.cell? ⟨w4.heap.size, 4, none⟩ = some (.slice (some ⟨hs, 0, none⟩) nt nt) := (BC6.out.2 4 _ rfl).1
  have se := BC6.out.1
  rw [hW4] at e0 e1 e2 e3 e4 se
  clear hW4
  go_wp2_with fail
  rw [← HW4.out]
  refine (HIM.out HK.out _ _ _ _ _ _ (HW.out.below HB6.out) HG6.out).mono ?_
  rintro e w5 ⟨a5, k5, rfl, hf5, hb5⟩
  have HB7 : Hid (Below w.heap.size w w5) := HB6.out.trans (hb5.mono HB6.out.size)
  have HL7 : Hid (Below L w4 w5) := HL6.out.trans (hb5.mono (by have := HS6.out; have := HLU.out; omega))
  have HS7 : Hid (w4.heap.size ≤ w5.heap.size) := Nat.le_trans HS6.out hb5.size
  have HUP : Hid (∀ b o, a5 = some ⟨b, o, none⟩ → n ≠ 0 → b < w5.heap.size) := hf5.upto
  have HF7 := hidOf (hf5.low HS6.out)
  have HG7 := hidOf (HG6.out.below hb5)
  have HM7 := hidOf (HM6.out.below hb5)
  have BA7 := hidOf (BA6.out.below hb5)
  have BD7 := hidOf (BD6.out.below hb5)
  have BC7 := hidOf (BC6.out.below hb5)
  clear e0 e1 e2 e3 e4 se
  clear hf5 hb5 HW4
  have hba : Below w5.heap.size w5 (w5.alloc (.cells #[.int .i64 0, .slice a5 n k5] 45)) := (Below.refl _ _).alloc (Nat.le_refl _) _
  obtain ⟨W5, hW5⟩ : ∃ W, W = w5.alloc (.cells #[.int .i64 0, .slice a5 n k5] 45) := ⟨_, rfl⟩
  have HW5 := hidOf hW5
  rw [← hW5] at hba
  have BA8 := hidOf (BA7.out.below hba)
  have BD8 := hidOf (BD7.out.below hba)
  have BC8 := hidOf (BC7.out.below hba)
  have HF8 := hidOf (HF7.out.below hba)
  have HG8 := hidOf (HG7.out.below hba)
  have HM8 := hidOf (HM7.out.below hba)
  have BE8 : Hid (BoxAt w5.heap.size [.int .i64 0, .slice a5 n k5] W5) := by
    show BoxAt _ _ _
    rw [hW5]; exact boxAt_new w5 [.int .i64 0, .slice a5 n k5] 45
  have HB8 : Hid (Below w.heap.size w W5) := HB7.out.trans (hba.mono HB7.out.size)
  have HL8 : Hid (Below L w4 W5) := HL7.out.trans (hba.mono (by have := HS7.out; have := HLU.out; omega))
  have HS8 : Hid (w4.heap.size ≤ W5.heap.size) := Nat.le_trans HS7.out hba.size
  clear hba
  have d0 : W5.cell? ⟨w3.heap.size, 0, none⟩ = some (.int .i64 0) := (BD8.out.2 0 _ rfl).1
  have d1 : W5.cell? ⟨w3.heap.size, 1, none⟩ = some (.slice a3 n k3) := (BD8.out.2 1 _ rfl).1
  have sd := BD8.out.1
  have f0 : W5.cell? ⟨w5.heap.size, 0, none⟩ = some (.int .i64 0) := (BE8.out.2 0 _ rfl).1
  have f1 : W5.cell? ⟨w5.heap.size, 1, none⟩ = some (.slice a5 n k5) := (BE8.out.2 1 _ rfl).1
  have sf := BE8.out.1
  rw [hW5] at d0 d1 f0 f1 sd sf
  clear hW5
  go_wp2_with fail
  rw [← HW5.out]
  refine (HES.out hnn _ _ _ _ _ _ _ HF8.out (HS3.out _ HL8.out HS8.out)).mono ?_
  rintro e w6 ⟨rfl, hb6⟩
  have HB9 : Hid (Below w.heap.size w w6) := HB8.out.trans (hb6.mono HB8.out.size)
  have HL9 : Hid (Below L w4 w6) := HL8.out.trans (hb6.mono (by have := HS8.out; have := HLU.out; omega))
  have HS9 : Hid (w4.heap.size ≤ w6.heap.size) := Nat.le_trans HS8.out hb6.size
  have BA9 := hidOf (BA8.out.below hb6)
  have BD9 := hidOf (BD8.out.below hb6)
  have BC9 := hidOf (BC8.out.below hb6)
  have BE9 := hidOf (BE8.out.below hb6)
  have HF9 := hidOf (HF8.out.below hb6)
  have HG9 := hidOf (HG8.out.below hb6)
  have HM9 := hidOf (HM8.out.below hb6)
  clear d0 d1 sd
  clear f0 f1 sf
  clear hb6 HW5
  have c0 : w6.cell? ⟨w.heap.size, 0, none⟩ = some (.string xn) := (BA9.out.2 0 _ rfl).1
  have c1 : w6.cell? ⟨w.heap.size, 1, none⟩ = some (.slice ai ni ci) := (BA9.out.2 1 _ rfl).1
  have c2 : w6.cell? ⟨w.heap.size, 2, none⟩ = some (.slice ao no co) := (BA9.out.2 2 _ rfl).1
  have c3 : w6.cell? ⟨w.heap.size, 3, none⟩ = some (.slice av nv cv) := (BA9.out.2 3 _ rfl).1
  have c4 : w6.cell? ⟨w.heap.size, 4, none⟩ = some (.slice at_ nt ct) := (BA9.out.2 4 _ rfl).1
  have sc := BA9.out.1
  have e0 : w6.cell? ⟨w4.heap.size, 0, none⟩ = some (.string xn) := (BC9.out.2 0 _ rfl).1
  have e1 : w6.cell? ⟨w4.heap.size, 1, none⟩ = some (.slice (some ⟨hi, 0, none⟩) ni ni) := (BC9.out.2 1 _ rfl).1
  have e2 : w6.cell? ⟨w4.heap.size, 2, none⟩ = some (.slice (some ⟨ho, 0, none⟩) no no) := (BC9.out.2 2 _ rfl).1
  have e3 : w6.cell? ⟨w4.heap.size, 3, none⟩ = some (.slice (some ⟨hv, 0, none⟩) nv nv) := (BC9.out.2 3 _ rfl).1
  have e4 : w6.cell? ⟨w4.heap.size, 4, none⟩ = some (.slice (some ⟨hs, 0, none⟩) nt nt) := (BC9.out.2 4 _ rfl).1
  have se := BC9.out.1
  go_wp2_with fail
  go_region_held3 (fun w' => w'.cell? ⟨w.heap.size, 0, none⟩ = some (.string xn) ∧ w'.cell? ⟨w.heap.size, 1, none⟩ = some (.slice ai ni ci) ∧ w'.cell? ⟨w.heap.size, 2, none⟩ = some (.slice ao no co) ∧ w'.cell? ⟨w.heap.size, 3, none⟩ = some (.slice av nv cv) ∧ w'.cell? ⟨w.heap.size, 4, none⟩ = some (.slice at_ nt ct) ∧ w'.cell? ⟨w4.heap.size, 0, none⟩ = some (.string xn) ∧ w'.cell? ⟨w4.heap.size, 1, none⟩ = some (.slice (some ⟨hi, 0, none⟩) ni ni) ∧ w'.cell? ⟨w4.heap.size, 2, none⟩ = some (.slice (some ⟨ho, 0, none⟩) no no) ∧ w'.cell? ⟨w4.heap.size, 3, none⟩ = some (.slice (some ⟨hv, 0, none⟩) nv nv) ∧ w'.cell? ⟨w4.heap.size, 4, none⟩ = some (.slice (some ⟨hs, 0, none⟩) nt nt)) (simp [go_sem, *])
    (first
      | (go_at_call 10; refine (HTO.out HK.out _ (by first | exact HB9.out | exact below_drew1 HB9.out | exact drewN HB9.out _)).mono ?_; rintro e w7 ⟨ki, ko, kv, ks, rfl, hg, hb7, _⟩; replace hb7 : Below w6.heap.size w6 w7 := undrew hb7; have HK8 := hidOf hg; have HG10 := hidOf (HG9.out.below hb7); have HM10 := hidOf (HM9.out.below hb7); have HF10 := hidOf (HF9.out.below hb7); have HB10 : Hid (Below w.heap.size w w7) := HB9.out.trans (hb7.mono HB9.out.size); have HL10 : Hid (Below L w4 w7) := HL9.out.trans (hb7.mono (by have := HS9.out; have := HLU.out; omega)); have HS10 : Hid (w4.heap.size ≤ w7.heap.size) := Nat.le_trans HS9.out hb7.size; have BA10 := hidOf (BA9.out.below hb7); have BC10 := hidOf (BC9.out.below hb7); have BD10 := hidOf (BD9.out.below hb7); have BE10 := hidOf (BE9.out.below hb7); have q5 := BA10.out.1; have q7 := BC10.out.1; obtain ⟨hc1, hf1⟩ := bcell hb7; clear hg hb7 hf1)
      | (go_at_call 13; refine (HEQ.out HK.out _ _ _ _ _ _ _ _ _ _ _ HG10.out HK8.out).mono ?_; rintro e w8 ⟨rfl, hb8⟩; have HM11 := hidOf (HM10.out.below hb8); have HF11 := hidOf (HF10.out.below hb8); have HB11 : Hid (Below w.heap.size w w8) := HB10.out.trans (hb8.mono HB10.out.size); have HL11 : Hid (Below L w4 w8) := HL10.out.trans (hb8.mono (by have := HS10.out; have := HLU.out; omega)); have HS11 : Hid (w4.heap.size ≤ w8.heap.size) := Nat.le_trans HS10.out hb8.size; have BA11 := hidOf (BA10.out.below hb8); have BC11 := hidOf (BC10.out.below hb8); have BD11 := hidOf (BD10.out.below hb8); have BE11 := hidOf (BE10.out.below hb8); obtain ⟨hc2, hf2⟩ := bcell hb8; clear hb8 hf2))
  clear c0 c1 c2 c3 c4 sc
  clear e0 e1 e2 e3 e4 se
  try clear hc1 hc2 q5 q7
  have e0 : w8.cell? ⟨w4.heap.size, 0, none⟩ = some (.string xn) := (BC11.out.2 0 _ rfl).1
  have e1 : w8.cell? ⟨w4.heap.size, 1, none⟩ = some (.slice (some ⟨hi, 0, none⟩) ni ni) := (BC11.out.2 1 _ rfl).1
  have e2 : w8.cell? ⟨w4.heap.size, 2, none⟩ = some (.slice (some ⟨ho, 0, none⟩) no no) := (BC11.out.2 2 _ rfl).1
  have e3 : w8.cell? ⟨w4.heap.size, 3, none⟩ = some (.slice (some ⟨hv, 0, none⟩) nv nv) := (BC11.out.2 3 _ rfl).1
  have e4 : w8.cell? ⟨w4.heap.size, 4, none⟩ = some (.slice (some ⟨hs, 0, none⟩) nt nt) := (BC11.out.2 4 _ rfl).1
  have se := BC11.out.1
  go_wp2_with fail
  refine (HMK.out HK.out L U _ _ _ _ _ HM11.out (by have := HS11.out; have := HLU.out; omega)).mono ?_
  rintro e w9 ⟨mk, rfl, hmk, hmv⟩
  have HBm : Hid (Below L w8 w9) := hmv.belowL (Nat.le_refl _) (by have := HS11.out; have := HLU.out; omega)
  have HB12 : Hid (Below w.heap.size w w9) := HB11.out.trans (HBm.out.mono HLU.out.1)
  have HL12 : Hid (Below L w4 w9) := HL11.out.trans HBm.out
  have HS12 : Hid (w4.heap.size ≤ w9.heap.size) := Nat.le_trans HS11.out hmv.size
  have HF12 := hidOf (HF11.out.mvR hmv HLU.out.2.2)
  have BA12 := hidOf (BA11.out.mvR hmv (by have := HLT.out; omega))
  have BD12 := hidOf (BD11.out.mvR hmv (by have := HLT.out; omega))
  have BE12 := hidOf (BE11.out.mvR hmv (by have := HS7.out; have := HLU.out; omega))
  clear hmv HBm
  clear e0 e1 e2 e3 e4 se
  have d0 : w9.cell? ⟨w3.heap.size, 0, none⟩ = some (.int .i64 0) := (BD12.out.2 0 _ rfl).1
  have d1 : w9.cell? ⟨w3.heap.size, 1, none⟩ = some (.slice a3 n k3) := (BD12.out.2 1 _ rfl).1
  have sd := BD12.out.1
  have f0 : w9.cell? ⟨w5.heap.size, 0, none⟩ = some (.int .i64 0) := (BE12.out.2 0 _ rfl).1
  have f1 : w9.cell? ⟨w5.heap.size, 1, none⟩ = some (.slice a5 n k5) := (BE12.out.2 1 _ rfl).1
  have sf := BE12.out.1
  have hmk0 : decide (mk < 0) = false := decide_eq_false (by omega)
  go_wp2_with fail
  refine (HES.out hnn _ _ _ _ _ _ _ HF12.out (HS3.out _ HL12.out HS12.out)).mono ?_
  rintro e wa ⟨rfl, hba⟩
  have HB13 : Hid (Below w.heap.size w wa) := HB12.out.trans (hba.mono HB12.out.size)
  have HL13 : Hid (Below L w4 wa) := HL12.out.trans (hba.mono (by have := HS12.out; have := HLU.out; omega))
  have HS13 : Hid (w4.heap.size ≤ wa.heap.size) := Nat.le_trans HS12.out hba.size
  have BA13 := hidOf (BA12.out.below hba)
  have BD13 := hidOf (BD12.out.below hba)
  have BE13 := hidOf (BE12.out.below hba)
  have HF13 := hidOf (HF12.out.below hba)
  clear d0 d1 sd
  clear f0 f1 sf
  clear hba
  have f0 : wa.cell? ⟨w5.heap.size, 0, none⟩ = some (.int .i64 0) := (BE13.out.2 0 _ rfl).1
  have f1 : wa.cell? ⟨w5.heap.size, 1, none⟩ = some (.slice a5 n k5) := (BE13.out.2 1 _ rfl).1
  have sf := BE13.out.1
  go_wp2_with fail
  refine (HMS.out hnn _ w4.heap.size w5.heap.size _ _ HF13.out HUP.out).mono ?_
  rintro e wb ⟨rfl, hh, hmv⟩
  have HH := hidOf hh
  have HB14 : Hid (Below w.heap.size w wb) := HB13.out.trans (hmv.belowL (by have := HB5.out.size; omega) HB13.out.size)
  have HL14 : Hid (Below L w4 wb) := HL13.out.trans (hmv.belowL HLU.out.2.1 (by have := HS13.out; have := HLU.out; omega))
  have HS14 : Hid (w4.heap.size ≤ wb.heap.size) := Nat.le_trans HS13.out hmv.size
  have BA14 := hidOf (BA13.out.mvR hmv (by have := HLT.out; have := HLU.out; omega))
  have BD14 := hidOf (BD13.out.mvR hmv (by have := HLT.out; have := HLU.out; omega))
  have BE14 := hidOf (BE13.out.mvR hmv (by omega))
  clear hh hmv
  clear f0 f1 sf
  have f0 : wb.cell? ⟨w5.heap.size, 0, none⟩ = some (.int .i64 0) := (BE14.out.2 0 _ rfl).1
  have f1 : wb.cell? ⟨w5.heap.size, 1, none⟩ = some (.slice a5 n k5) := (BE14.out.2 1 _ rfl).1
  have sf := BE14.out.1
  go_wp2_with fail
  refine (HHS.out hnn _ _ _ HH.out).mono ?_
  rintro e wc ⟨rfl, hbc⟩
  have HB15 : Hid (Below w.heap.size w wc) := HB14.out.trans (hbc.mono HB14.out.size)
  have HL15 : Hid (Below L w4 wc) := HL14.out.trans (hbc.mono (by have := HS14.out; have := HLU.out; omega))
  have HS15 : Hid (w4.heap.size ≤ wc.heap.size) := Nat.le_trans HS14.out hbc.size
  have HH15 := hidOf (HH.out.below hbc)
  have BA15 := hidOf (BA14.out.below hbc)
  have BD15 := hidOf (BD14.out.below hbc)
  have BE15 := hidOf (BE14.out.below hbc)
  clear hbc HH
  clear f0 f1 sf
  have c0 : wc.cell? ⟨w.heap.size, 0, none⟩ = some (.string xn) := (BA15.out.2 0 _ rfl).1
  have c1 : wc.cell? ⟨w.heap.size, 1, none⟩ = some (.slice ai ni ci) := (BA15.out.2 1 _ rfl).1
  have c2 : wc.cell? ⟨w.heap.size, 2, none⟩ = some (.slice ao no co) := (BA15.out.2 2 _ rfl).1
  have c3 : wc.cell? ⟨w.heap.size, 3, none⟩ = some (.slice av nv cv) := (BA15.out.2 3 _ rfl).1
  have c4 : wc.cell? ⟨w.heap.size, 4, none⟩ = some (.slice at_ nt ct) := (BA15.out.2 4 _ rfl).1
  have sc := BA15.out.1
  have hq0 : decide ((1 : Int) + n < 0) = false := decide_eq_false (by omega)
  go_wp2_with fail
  refine (HTO.out HK.out _ HB15.out).mono ?_
  rintro e wd ⟨ki', ko', kv', ks', rfl, hg, hbd, _⟩
  have HGd := hidOf hg
  have HB16 : Hid (Below w.heap.size w wd) := HB15.out.trans (hbd.mono HB15.out.size)
  have HL16 : Hid (Below L w4 wd) := HL15.out.trans (hbd.mono (by have := HS15.out; have := HLU.out; omega))
  have HS16 : Hid (w4.heap.size ≤ wd.heap.size) := Nat.le_trans HS15.out hbd.size
  have HH16 := hidOf (HH15.out.below hbd)
  have BD16 := hidOf (BD15.out.below hbd)
  have BE16 := hidOf (BE15.out.below hbd)
  clear hg hbd
  clear c0 c1 c2 c3 c4 sc
  go_wp2_with fail
  refine (HIM.out HK.out _ _ _ _ _ _ (HW.out.below HB16.out) HGd.out).mono ?_
  rintro e we ⟨ae, ke, rfl, hfe, hbe⟩
  have HF17 := hidOf hfe
  have HB17 : Hid (Below w.heap.size w we) := HB16.out.trans (hbe.mono HB16.out.size)
  have HL17 : Hid (Below L w4 we) := HL16.out.trans (hbe.mono (by have := HS16.out; have := HLU.out; omega))
  have HS17 : Hid (w4.heap.size ≤ we.heap.size) := Nat.le_trans HS16.out hbe.size
  have HH17 := hidOf (HH16.out.below hbe)
  have BD17 := hidOf (BD16.out.below hbe)
  have BE17 := hidOf (BE16.out.below hbe)
  clear hfe hbe
  have hba : Below we.heap.size we (we.alloc (.cells #[.int .i64 0, .slice ae n ke] 45)) := (Below.refl _ _).alloc (Nat.le_refl _) _
  obtain ⟨We, hWe⟩ : ∃ W, W = we.alloc (.cells #[.int .i64 0, .slice ae n ke] 45) := ⟨_, rfl⟩
  have HWe := hidOf hWe
  rw [← hWe] at hba
  have BD18 := hidOf (BD17.out.below hba)
  have BE18 := hidOf (BE17.out.below hba)
  have HF18 := hidOf (HF17.out.below hba)
  have HH18 := hidOf (HH17.out.below hba)
  have BF18 : Hid (BoxAt we.heap.size [.int .i64 0, .slice ae n ke] We) := by
    show BoxAt _ _ _
    rw [hWe]; exact boxAt_new we [.int .i64 0, .slice ae n ke] 45
  have HB18 : Hid (Below w.heap.size w We) := HB17.out.trans (hba.mono HB17.out.size)
  have HL18 : Hid (Below L w4 We) := HL17.out.trans (hba.mono (by have := HS17.out; have := HLU.out; omega))
  have HS18 : Hid (w4.heap.size ≤ We.heap.size) := Nat.le_trans HS17.out hba.size
  clear hba
  have d0 : We.cell? ⟨w3.heap.size, 0, none⟩ = some (.int .i64 0) := (BD18.out.2 0 _ rfl).1
  have d1 : We.cell? ⟨w3.heap.size, 1, none⟩ = some (.slice a3 n k3) := (BD18.out.2 1 _ rfl).1
  have sd := BD18.out.1
  have g0 : We.cell? ⟨we.heap.size, 0, none⟩ = some (.int .i64 0) := (BF18.out.2 0 _ rfl).1
  have g1 : We.cell? ⟨we.heap.size, 1, none⟩ = some (.slice ae n ke) := (BF18.out.2 1 _ rfl).1
  have sg := BF18.out.1
  rw [hWe] at d0 d1 g0 g1 sd sg
  clear hWe
  go_wp2_with fail
  rw [← HWe.out]
  refine (HES.out hnn _ _ _ _ _ _ _ HF18.out (HS3.out _ HL18.out HS18.out)).mono ?_
  rintro e wf ⟨rfl, hbf⟩
  have HB19 : Hid (Below w.heap.size w wf) := HB18.out.trans (hbf.mono HB18.out.size)
  have HH19 := hidOf (HH18.out.below hbf)
  have BE19 := hidOf (BE18.out.below hbf)
  clear hbf HWe
  clear d0 d1 sd
  clear g0 g1 sg
  have f0 : wf.cell? ⟨w5.heap.size, 0, none⟩ = some (.int .i64 0) := (BE19.out.2 0 _ rfl).1
  have f1 : wf.cell? ⟨w5.heap.size, 1, none⟩ = some (.slice a5 n k5) := (BE19.out.2 1 _ rfl).1
  have sf := BE19.out.1
  go_wp2_with fail
  refine (HHS.out hnn _ _ _ HH19.out).mono ?_
  rintro e wg ⟨rfl, hbg⟩
  have HB20 : Hid (Below w.heap.size w wg) := HB19.out.trans (hbg.mono HB19.out.size)
  clear hbg
  clear f0 f1 sf
  go_wp2_with fail
  go_ret
  exact ⟨rfl, HB20.out⟩

/-! ### THE ROW's STEP -/
set_option maxRecDepth 100000 in
theorem lifted (os : Os) (started : os.Started) (H : Type) (enc : TypeId × Value → H) :
    ReturnsInHanded {} Tryz.checked os 5 .any (fun w args => (Rows.fnExactInstNewSpec.pre enc Tryz.prog Tryz.f5 Rows.fnExactInstNewRow.domain false w args ∧ laidMetH Tryz.prog theLaid w) ∧ sizedMet enc Tryz.prog Tryz.f5 (OpenSpec.ofChange Rows.fnExactInstNewSpec) false w args)
      (Rows.fnExactInstNewSpec.post enc Tryz.prog Tryz.f5 false true false false) := by
  refine returnsInHanded_of_change_and (C := Tryz.checked) (X := fun w _ => laidMetH Tryz.prog theLaid w) (fun _ _ _ hh h => h.of_heap hh) own started (by kernel_rfl) Tryz.func5
    (ChangeSpec.witness_shaped (enc := enc) (C := Tryz.checked) (os := os) (X := fun w _ => laidMetH Tryz.prog theLaid w) false (World.laidAll Tryz.prog os theLaid) #[.agg #[.string ByteArray.empty, .slice none 0 0, .slice none 0 0, .slice none 0 0, .slice none 0 0]] 8 (World.laidAll_os _ _ _)
      (shapedL os _) (by kernel_rfl) (by kernel_rfl) (by kernel_rfl) (metL os _)) ?_
  intro W base args ds gs before hval0 hW hcnd _ hL _
  have hval : ∀ (j : Nat) t v, Tryz.f5.params[j]? = some t → args[j]? = some v → Value.okWide Tryz.prog W .any base t v := hval0
  have hW' := hW
  obtain ⟨p, q, hA0, hV, rfl, hfz, hnd⟩ := hW
  have hA : DataW.TrodAll enc Tryz.prog W 0 (fun _ => true) true Tryz.f5.params.toList args.toList ds p := hA0
  rw [Tryz.params5] at hA hval
  obtain ⟨v0, d0, rfl, rfl, h0⟩ := trodAll_one hA
  have hV0 := hV
  obtain ⟨g, t, cs, fuel, gd, pp, rfl, _⟩ := trodVars_one hV0
  obtain ⟨cs0, rfl, hsz0⟩ := okWide_struct Tryz.underlying26 (hval 0 26 v0 rfl rfl)
  have k0 := h0
  have lt0 : ∀ x ∈ p, x.block < W.heap.size := by obtain ⟨m, hm⟩ := k0; exact DataW.trod_lt m _ _ _ hm
  obtain ⟨fuel0, hf0⟩ := h0
  obtain ⟨v, x, hcs0, hx, hwd⟩ := open_block fuel0 cs0.toList _ (by rw [Array.length_toList, hsz0]; kernel_rfl) hf0
  obtain rfl : cs0 = #[.string x.name, .slice v.ai v.ni v.ci, .slice v.ao v.no v.co, .slice v.av v.nv v.cv, .slice v.at_ v.nt v.ct] := by cases cs0; simpa [BkV.val, Value.cells] using hcs0
  clear hA0 hval0
  refine (walk v x W (tabs_of hL) hwd hx).mono fun e W' ⟨he, bel⟩ => ?_
  subst he
  exact ⟨_, rfl, _, _, _, [], _, _, hW', trodAll_mk1 (shut_bool Tryz.underlying4 _), trodAll_mk1 (Below.trod laidOut (by kernel_rfl) (of_decide_eq_true (by kernel_rfl)) k0 bel lt0), Below.trodVars laidOut bel (by kernel_rfl) hV, bel.frame _, fun h => by cases h⟩
end Go.Proofs.YtceokbmejnopoaaGreatDoor.fnExactInstNew
