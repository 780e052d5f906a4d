/- For every list of nodes and names the law FnExactCodeOf returns true: CodeOf of the program answers as the model's, writes into no argument, keeps nothing of one, and its answer owns its memory. The one condition is the row's own: the package-level variables hold what the program's text lays (tied by the card). -/
import Derived.Test.YtbpfonmkbbnkcaaGreatDoorCodeOfLaw
import Derived.Test.YtbpfonmkbbnkcaaGreatDoorOpens
import Derived.ShutString
import Derived.ChangeOld
namespace Go.Proofs.YtbpfonmkbbnkcaaGreatDoor.fnExactCodeOf
open Go.ChangeShapes Go.WideShapes Go.ChangeAt Go.RowKit Go.Deep Go.PlainAid
set_option linter.unusedVariables false
set_option linter.unusedSimpArgs false

theorem open_nds {b n : Nat} {w : World} {l : List Nd} (h : IsNds w.heap.size w (some ⟨b, 0, none⟩) n l) (hb : b < w.heap.size) (hf : ∀ j, j < n * 3 → w.frozen? ⟨b, j, none⟩ = false) : Open b (n * 3) w := by
  refine ⟨hb, fun j hj => ⟨?_, hf j hj⟩⟩
  rcases h.2 with h0 | ⟨q, o, e, _, hc⟩
  · omega
  · cases e
    have hi : j / 3 < l.length := by rw [h.1]; omega
    obtain ⟨c0, c1, c2⟩ := hc (j / 3) hi
    have hj3 : j = 0 + j / 3 * 3 ∨ j = 0 + j / 3 * 3 + 1 ∨ j = 0 + j / 3 * 3 + 1 + 1 := by omega
    rcases hj3 with e | e | e
    · exact ⟨_, by rw [e]; exact c0⟩
    · exact ⟨_, by rw [e]; exact c1⟩
    · exact ⟨_, by rw [e]; exact c2⟩
theorem open_strs' {b n : Nat} {w : World} {l : List ByteArray} (h : IsStrs w.heap.size w (some ⟨b, 0, none⟩) n l) (hb : b < w.heap.size) (hf : ∀ j, j < n → w.frozen? ⟨b, j, none⟩ = false) : Open b n w := by
  refine ⟨hb, fun j hj => ⟨?_, hf j hj⟩⟩
  rcases h.2 with h0 | ⟨q, o, e, _, hc⟩
  · omega
  · cases e
    exact ⟨_, by have := hc j (by rw [h.1]; exact hj); rw [Nat.zero_add] at this; exact this⟩
theorem mv_below {B p : Nat} {w0 w w' : World} (h : Below B w0 w) (hm : Mv p w w') (hB : B ≤ p) (hs : B ≤ w.heap.size) : Below B w0 w' :=
  h.trans ⟨hm.os, hm.tape, hm.output, hm.size, fun q hq => hm.block q (by omega) (by omega)⟩

set_option maxHeartbeats 1600000 in
set_option maxRecDepth 100000 in
theorem walk (a0 : Option Addr) (n cap : Nat) (l : List Nd) (a1 : Option Addr) (n1 c1 : Nat) (names : List ByteArray) (w : World) (hw : Tabs w) (hm : n ≤ maxLen) (hm1 : n1 ≤ maxLen) (hs : ∀ x ∈ l, x.2.2.size ≤ maxLen) (hs1 : ∀ x ∈ names, x.size ≤ maxLen) (h64 : Nums64 l) (hz : IsNds w.heap.size w a0 n l) (hzs : IsStrs w.heap.size w a1 n1 names) :
    Calls Tryz.prog 11 #[.slice a0 n cap, .slice a1 n1 c1] w fun e w' => e = .returned (.bool true) ∧ Below w.heap.size w w' := by
  have HZ := hidOf hz
  have HY := hidOf hzs
  have HW := hidOf hw
  have H64 := hidOf h64
  have HSZ : Hid (Calls Tryz.prog 32 #[.slice a0 n cap, .int .i64 1048576] w fun e w' => SzPost n l 1048576 w e w') := szNodeS_any w.heap.size a0 n cap l 1048576 w (by decide) (by decide) hm (Nat.le_refl _) hs hz
  have HM1 : Hid (n1 ≤ maxLen) := hm1
  have HS1 : Hid (∀ x ∈ names, x.size ≤ maxLen) := hs1
  clear hz hzs hw h64 hs hs1
  unfold maxLen at hm hm1
  go_enter Tryz.func11, Tryz.ntmps11
  go_wp2_with fail
  refine HSZ.out.mono ?_
  rintro e w1 ⟨r, rfl, hb1, hr1, hr2, hr3⟩
  clear HSZ
  by_cases hr : r < 0
  · go_wp2_with fail
    go_ret
    exact ⟨rfl, hb1⟩
  obtain ⟨hn, hsz⟩ := hr3 (by omega)
  have HS : Hid (∀ x ∈ l, x.2.2.size ≤ 1048576) := hsz
  have HB1 : Hid (Below w.heap.size w w1) := hb1
  have Z1 : Hid (IsNds w1.heap.size w1 a0 n l) := (HZ.out.below hb1).mono hb1.size
  have Y1 : Hid (IsStrs w1.heap.size w1 a1 n1 names) := (HY.out.below hb1).mono hb1.size
  have HW1 : Hid (Tabs w1) := HW.out.up hb1
  clear hb1 hr3 hsz HZ HY HW
  go_wp2_with fail
  refine (szStringS_any w1.heap.size a1 n1 c1 names r w1 (by omega) hr1 HM1.out HS1.out Y1.out).mono ?_
  rintro e w1' ⟨q, rfl, hw1', hq1, hq2, hq3⟩
  rw [hw1']
  clear hw1' w1'
  by_cases hq : q < 0
  · go_wp2_with fail
    go_ret
    exact ⟨rfl, HB1.out⟩
  obtain ⟨hn1, hsz1⟩ := hq3 (by omega)
  have HN1 : Hid (∀ x ∈ names, x.size ≤ 1048576) := hsz1
  clear hq3 hsz1 HM1 HS1
  -- copies for the model
  have ZA : Hid (∀ W, Below w1.heap.size w1 W → IsNds W.heap.size W a0 n l) := fun W hb => (Z1.out.below hb).mono hb.size
  have YA : Hid (∀ W, Below w1.heap.size w1 W → IsStrs W.heap.size W a1 n1 names) := fun W hb => (Y1.out.below hb).mono hb.size
  have WA : Hid (∀ W, Below w1.heap.size w1 W → Tabs W) := fun W hb => HW1.out.up hb
  clear HW1
  go_wp2_with fail
  refine (toNodeS_any w1.heap.size a0 n cap l w1 hn (Nat.le_refl _) Z1.out).mono ?_
  rintro e w2 ⟨b2, rfl, hb2, hz2, bel2⟩
  have HB2 : Hid (Below w1.heap.size w1 w2) := bel2
  have I2 := hidOf hz2
  clear bel2 hz2 Z1 Y1
  go_wp2_with fail
  refine (toStringS_any w2.heap.size a1 n1 c1 names w2 hn1 (Nat.le_refl _) (YA.out w2 HB2.out)).mono ?_
  rintro e w3 ⟨b3, rfl, hb3, hz3, bel3⟩
  have HB3 : Hid (Below w1.heap.size w1 w3) := below_up HB2.out HB2.out.size bel3
  have I3 : Hid (IsNds w3.heap.size w3 (some ⟨b2, 0, none⟩) n l) := (I2.out.below bel3).mono bel3.size
  have J3 := hidOf hz3
  clear bel3 hz3 I2 HB2
  go_wp2_with fail
  refine (specCodeOf_any w3.heap.size (some ⟨b2, 0, none⟩) n n l (some ⟨b3, 0, none⟩) n1 n1 names w3 hn (Nat.le_refl _) HS.out I3.out hn1 HN1.out J3.out).mono ?_
  intro e w4 hpost4
  obtain ⟨aw, cw, rfl, hans4, bel4⟩ := hpost4.ans
  clear hpost4 I3 J3
  obtain ⟨R, hR⟩ : ∃ R, codeOfM names l = R := ⟨_, rfl⟩
  have HR := hidOf hR
  have hZ24 : (codeZs R).length ≤ 1048576 := by
    rw [← hR]
    unfold codeOfM codeM codeZs
    split
    · simp
    · rename_i hh
      cases hsm : sumM l with
      | none => exact absurd (.inl hsm) hh
      | some t =>
        cases hc : codeTo names l l.length with
        | none => simp
        | some st =>
          obtain ⟨stk, hstk⟩ := good_to (sum_summy hsm) l.length (Nat.le_refl _)
          have := (code_len (sum_summy hsm) l.length (Nat.le_refl _) hc hstk).1
          have := (sumM_some hsm).1
          simp; omega
  rw [hR] at hans4 ⊢
  clear hR
  have HB4 : Hid (Below w1.heap.size w1 w4) := below_up HB3.out HB3.out.size bel4
  have A4 : Hid (IsOps w4 aw (codeZs R).length (codeZs R)) := hans4.ops
  have AW : Hid (∀ W, Below w4.heap.size w4 W → IsOps W aw (codeZs R).length (codeZs R)) := fun W hb => ops_below A4.out hb
  obtain ⟨B, hB⟩ : ∃ B, R.isSome = B := ⟨_, rfl⟩
  rw [hB]
  have HBo := hidOf hB
  obtain ⟨zs, hzs⟩ : ∃ zs, codeZs R = zs := ⟨_, rfl⟩
  have HZS := hidOf hzs
  rw [hzs] at hZ24 A4 AW ⊢
  obtain ⟨m, hm2⟩ : ∃ m, zs.length = m := ⟨_, rfl⟩
  have HMZ := hidOf hm2
  rw [hm2] at hZ24 A4 AW ⊢
  have hs4 := HB4.out.size
  clear hans4 bel4 hB hzs hm2 A4 HB3
  have HI : Hid (∀ W a b, Below w1.heap.size w1 W → IsNds W.heap.size W a n l → IsStrs W.heap.size W b n1 names → ∀ c c', Calls Tryz.prog 24 #[.slice a n c, .slice b n1 c'] W fun e w' => ∃ ag cg, e = .returned (.tuple #[.slice ag m cg, .bool B]) ∧ OpAns W.heap.size w' ag m zs ∧ Below W.heap.size W w') := fun W a b hb h1 h2 c c' => by
    refine (implCodeOf_any W.heap.size a n c l b n1 c' names W (WA.out W hb) hn (Nat.le_refl _) HS.out H64.out h1 hn1 h2).mono ?_
    intro e w' hp
    obtain ⟨ag, cg, he, h3, h4⟩ := hp.ans
    rw [HR.out, HZS.out, HMZ.out, HBo.out] at he
    rw [HR.out, HZS.out, HMZ.out] at h3
    exact ⟨ag, cg, he, h3, h4⟩
  clear HR HZS HMZ HBo WA
  -- copies for the program
  go_wp2_with fail
  refine (toNodeS_open w4.heap.size a0 n cap l w4 hn (Nat.le_refl _) (ZA.out w4 HB4.out)).mono ?_
  rintro e w5 ⟨b5, rfl, hb5, hz5, bel5, lt5, fz5⟩
  have D5 : Hid (Below w4.heap.size w4 w5) := bel5
  have HB5 : Hid (Below w1.heap.size w1 w5) := below_up HB4.out hs4 bel5
  have I5 := hidOf hz5
  have hs5 := D5.out.size
  have O5 : Hid (Open b5 (n * 3) w5) := open_nds hz5 lt5 fz5
  clear bel5 hz5 fz5
  go_wp2_with fail
  refine (toStringS_open w5.heap.size a1 n1 c1 names w5 hn1 (Nat.le_refl _) (YA.out w5 HB5.out)).mono ?_
  rintro e w6 ⟨b6, rfl, hb6, hz6, bel6, lt6, fz6⟩
  have D6 : Hid (Below w4.heap.size w4 w6) := below_up D5.out hs5 bel6
  have HB6 : Hid (Below w1.heap.size w1 w6) := below_up HB5.out HB5.out.size bel6
  have I6 : Hid (IsNds w6.heap.size w6 (some ⟨b5, 0, none⟩) n l) := (I5.out.below bel6).mono bel6.size
  have O6 : Hid (Open b5 (n * 3) w6) := O5.out.below bel6
  have P6 : Hid (Open b6 n1 w6) := open_strs' hz6 lt6 fz6
  have J6 := hidOf hz6
  have hs6 := bel6.size
  clear bel6 hz6 fz6 I5 O5 D5 HB5
  go_wp2_with fail
  refine (HI.out w6 _ _ HB6.out I6.out J6.out n n1).mono ?_
  rintro e w7 ⟨ag, cg, rfl, ans7, bel7⟩
  have D7 : Hid (Below w4.heap.size w4 w7) := below_up D6.out (by omega) bel7
  have HB7 : Hid (Below w1.heap.size w1 w7) := below_up HB6.out HB6.out.size bel7
  have I7 : Hid (IsNds w7.heap.size w7 (some ⟨b5, 0, none⟩) n l) := (I6.out.below bel7).mono bel7.size
  have J7 : Hid (IsStrs w7.heap.size w7 (some ⟨b6, 0, none⟩) n1 names) := (J6.out.below bel7).mono bel7.size
  have O7 : Hid (Open b5 (n * 3) w7) := O6.out.below bel7
  have P7 : Hid (Open b6 n1 w7) := P6.out.below bel7
  have G7 := hidOf ans7
  have hs7 := bel7.size
  clear bel7 ans7 I6 J6 O6 P6 D6 HB6
  have HE7 := hidOf (eqOpS_same ag aw m cg cw zs w7 hZ24 G7.out.ops (AW.out w7 D7.out))
  go_wp2_with (go_at_call 39; refine HE7.out.mono ?_; rintro e w8 ⟨rfl, bel8⟩; have D8 : Hid (Below w4.heap.size w4 w8) := below_up D7.out (by omega) bel8; have HB8 : Hid (Below w1.heap.size w1 w8) := below_up HB7.out HB7.out.size bel8; have I8 : Hid (IsNds w8.heap.size w8 (some ⟨b5, 0, none⟩) n l) := (I7.out.below bel8).mono bel8.size; have J8 : Hid (IsStrs w8.heap.size w8 (some ⟨b6, 0, none⟩) n1 names) := (J7.out.below bel8).mono bel8.size; have O8 : Hid (Open b5 (n * 3) w8) := O7.out.below bel8; have P8 : Hid (Open b6 n1 w8) := P7.out.below bel8; have G8 : Hid (OpAns w6.heap.size w8 ag m zs) := G7.out.up bel8; have hs8 := bel8.size; clear bel8 HE7 I7 J7 O7 P7 D7 HB7 G7)
  refine (toNodeS_any w8.heap.size a0 n cap l w8 hn (Nat.le_refl _) (ZA.out w8 HB8.out)).mono ?_
  rintro e w9 ⟨b9, rfl, hb9, hz9, bel9⟩
  have D9 : Hid (Below w4.heap.size w4 w9) := below_up D8.out (by omega) bel9
  have HB9 : Hid (Below w1.heap.size w1 w9) := below_up HB8.out HB8.out.size bel9
  have I9 : Hid (IsNds w9.heap.size w9 (some ⟨b5, 0, none⟩) n l) := (I8.out.below bel9).mono bel9.size
  have J9 : Hid (IsStrs w9.heap.size w9 (some ⟨b6, 0, none⟩) n1 names) := (J8.out.below bel9).mono bel9.size
  have O9 : Hid (Open b5 (n * 3) w9) := O8.out.below bel9
  have P9 : Hid (Open b6 n1 w9) := P8.out.below bel9
  have G9 : Hid (OpAns w6.heap.size w9 ag m zs) := G8.out.up bel9
  have hs9 := bel9.size
  have HE9 := hidOf (eqNodeS_same w9.heap.size (some ⟨b5, 0, none⟩) (some ⟨b9, 0, none⟩) n n n l w9 hn (Nat.le_refl _) I9.out hz9)
  clear bel9 hz9 I8 J8 O8 P8 D8 HB8 G8 I9
  go_wp2_with (go_at_call 29; refine HE9.out.mono ?_; rintro e w10 ⟨rfl, bel10⟩; have D10 : Hid (Below w4.heap.size w4 w10) := below_up D9.out (by omega) bel10; have HB10 : Hid (Below w1.heap.size w1 w10) := below_up HB9.out HB9.out.size bel10; have J10 : Hid (IsStrs w10.heap.size w10 (some ⟨b6, 0, none⟩) n1 names) := (J9.out.below bel10).mono bel10.size; have O10 : Hid (Open b5 (n * 3) w10) := O9.out.below bel10; have P10 : Hid (Open b6 n1 w10) := P9.out.below bel10; have G10 : Hid (OpAns w6.heap.size w10 ag m zs) := G9.out.up bel10; have hs10 := bel10.size; clear bel10 HE9 J9 O9 P9 D9 HB9 G9)
  refine (toStringS_any w10.heap.size a1 n1 c1 names w10 hn1 (Nat.le_refl _) (YA.out w10 HB10.out)).mono ?_
  rintro e w11 ⟨b11, rfl, hb11, hz11, bel11⟩
  have D11 : Hid (Below w4.heap.size w4 w11) := below_up D10.out (by omega) bel11
  have HB11 : Hid (Below w1.heap.size w1 w11) := below_up HB10.out HB10.out.size bel11
  have J11 : Hid (IsStrs w11.heap.size w11 (some ⟨b6, 0, none⟩) n1 names) := (J10.out.below bel11).mono bel11.size
  have O11 : Hid (Open b5 (n * 3) w11) := O10.out.below bel11
  have P11 : Hid (Open b6 n1 w11) := P10.out.below bel11
  have G11 : Hid (OpAns w6.heap.size w11 ag m zs) := G10.out.up bel11
  have hs11 := bel11.size
  have HE11 := hidOf (eqStringS_same w11.heap.size (some ⟨b6, 0, none⟩) (some ⟨b11, 0, none⟩) n1 n1 n1 names w11 hn1 (Nat.le_refl _) J11.out hz11)
  clear bel11 hz11 J10 O10 P10 D10 HB10 G10 J11
  go_wp2_with (go_at_call 37; refine HE11.out.mono ?_; rintro e w12 ⟨rfl, bel12⟩; have D12 : Hid (Below w4.heap.size w4 w12) := below_up D11.out (by omega) bel12; have HB12 : Hid (Below w1.heap.size w1 w12) := below_up HB11.out HB11.out.size bel12; have O12 : Hid (Open b5 (n * 3) w12) := O11.out.below bel12; have P12 : Hid (Open b6 n1 w12) := P11.out.below bel12; have G12 : Hid (OpAns w6.heap.size w12 ag m zs) := G11.out.up bel12; have hs12 := bel12.size; clear bel12 HE11 O11 P11 D11 HB11 G11)
  -- marks in the copies
  refine (markNodeS_open b5 n n 1 w12 O12.out hn (by decide) (by decide)).mono ?_
  rintro e w13 ⟨rfl, mv13⟩
  have D13 : Hid (Below w4.heap.size w4 w13) := mv_below D12.out mv13 (by omega) (by omega)
  have HB13 : Hid (Below w1.heap.size w1 w13) := mv_below HB12.out mv13 (by omega) HB12.out.size
  have P13 : Hid (Open b6 n1 w13) := P12.out.mv mv13 (by omega)
  have G13 : Hid (OpAns w6.heap.size w13 ag m zs) := G12.out.mv mv13 (by omega)
  have hs13 := mv13.size
  clear mv13 O12 P12 D12 HB12 G12
  go_wp2_with fail
  refine (markStringS_open b6 n1 n1 (1 + 3 * n) w13 P13.out hn1 (by omega) (by omega)).mono ?_
  rintro e w14 ⟨rfl, mv14⟩
  have D14 : Hid (Below w4.heap.size w4 w14) := mv_below D13.out mv14 (by omega) (by omega)
  have HB14 : Hid (Below w1.heap.size w1 w14) := mv_below HB13.out mv14 (by omega) HB13.out.size
  have G14 : Hid (OpAns w6.heap.size w14 ag m zs) := G13.out.mv mv14 (by omega)
  have hs14 := mv14.size
  have hk14 : ¬ (1 + 3 * (n : Int) + n1 < 0) := by omega
  clear mv14 P13 D13 HB13 G13
  have HE14 := hidOf (eqOpS_same ag aw m cg cw zs w14 hZ24 G14.out.ops (AW.out w14 D14.out))
  go_wp2_with (go_at_call 39; refine HE14.out.mono ?_; rintro e w15 ⟨rfl, bel15⟩; have D15 : Hid (Below w4.heap.size w4 w15) := below_up D14.out (by omega) bel15; have HB15 : Hid (Below w1.heap.size w1 w15) := below_up HB14.out HB14.out.size bel15; have G15 : Hid (OpAns w6.heap.size w15 ag m zs) := G14.out.up bel15; have hs15 := bel15.size; clear bel15 HE14 D14 HB14 G14)
  -- marks in the answer
  refine (markOpS_ans G15.out cg hZ24).mono ?_
  rintro e w16 ⟨rfl, bel16, ops16⟩
  have D16 : Hid (Below w4.heap.size w4 w16) := D15.out.trans (bel16.mono (by omega))
  have HB16 : Hid (Below w1.heap.size w1 w16) := HB15.out.trans (bel16.mono (by omega))
  have K16 := hidOf ops16
  have hs16 := bel16.size
  clear bel16 ops16 D15 HB15 G15
  go_wp2_with fail
  refine (heldOpS_any ag m cg 1 w16 K16.out hZ24 (by decide) (by decide)).mono ?_
  rintro e w' ⟨rfl, hw'⟩
  rw [hw']
  clear hw' w'
  have hq16 : ¬ (1 + 2 * (m : Int) < 0) := by omega
  go_wp2_with fail
  refine (toNodeS_any w16.heap.size a0 n cap l w16 hn (Nat.le_refl _) (ZA.out w16 HB16.out)).mono ?_
  rintro e w17 ⟨b17, rfl, hb17, hz17, bel17⟩
  have D17 : Hid (Below w4.heap.size w4 w17) := below_up D16.out (by omega) bel17
  have HB17 : Hid (Below w1.heap.size w1 w17) := below_up HB16.out HB16.out.size bel17
  have I17 := hidOf hz17
  have K17 : Hid (IsOps w17 ag m (markO m 1)) := ops_below K16.out bel17
  have hs17 := bel17.size
  clear bel17 hz17 D16 HB16 K16
  go_wp2_with fail
  refine (toStringS_any w17.heap.size a1 n1 c1 names w17 hn1 (Nat.le_refl _) (YA.out w17 HB17.out)).mono ?_
  rintro e w18 ⟨b18, rfl, hb18, hz18, bel18⟩
  have D18 : Hid (Below w4.heap.size w4 w18) := below_up D17.out (by omega) bel18
  have HB18 : Hid (Below w1.heap.size w1 w18) := below_up HB17.out HB17.out.size bel18
  have I18 : Hid (IsNds w18.heap.size w18 (some ⟨b17, 0, none⟩) n l) := (I17.out.below bel18).mono bel18.size
  have J18 := hidOf hz18
  have K18 : Hid (IsOps w18 ag m (markO m 1)) := ops_below K17.out bel18
  have hs18 := bel18.size
  clear bel18 hz18 D17 HB17 K17 I17
  go_wp2_with fail
  refine (HI.out w18 _ _ HB18.out I18.out J18.out n n1).mono ?_
  rintro e w19 ⟨ah, ch, rfl, ans19, bel19⟩
  have D19 : Hid (Below w4.heap.size w4 w19) := below_up D18.out (by omega) bel19
  have HB19 : Hid (Below w1.heap.size w1 w19) := below_up HB18.out HB18.out.size bel19
  have K19 : Hid (IsOps w19 ag m (markO m 1)) := ops_below K18.out bel19
  have HE19 := hidOf (eqOpS_same ah aw m ch cw zs w19 hZ24 ans19.ops (AW.out w19 D19.out))
  clear bel19 ans19 D18 HB18 K18 I18 J18
  go_wp2_with (go_at_call 39; refine HE19.out.mono ?_; rintro e w20 ⟨rfl, bel20⟩; have HB20 : Hid (Below w1.heap.size w1 w20) := below_up HB19.out HB19.out.size bel20; have K20 : Hid (IsOps w20 ag m (markO m 1)) := ops_below K19.out bel20; clear bel20 HE19 D19 HB19 K19)
  refine (heldOpS_any ag m cg 1 w20 K20.out hZ24 (by decide) (by decide)).mono ?_
  rintro e w' ⟨rfl, hw'⟩
  rw [hw']
  clear hw' w'
  go_wp2_with fail
  go_ret
  exact ⟨rfl, below_up HB1.out HB1.out.size HB20.out⟩

/-! ### THE ROW's STEP -/
set_option maxRecDepth 100000 in
theorem lifted (os : Os) (started : os.Started) (H : Type) (enc : TypeId × Value → H) :
    ReturnsInHanded {} Tryz.checked os 11 .any (fun w args => (Rows.fnExactCodeOfSpec.pre enc Tryz.prog Tryz.f11 Rows.fnExactCodeOfRow.domain false w args ∧ laidMetH Tryz.prog theLaid w) ∧ sizedMet enc Tryz.prog Tryz.f11 (OpenSpec.ofChange Rows.fnExactCodeOfSpec) false w args)
      (Rows.fnExactCodeOfSpec.post enc Tryz.prog Tryz.f11 false true false false) := by
  refine returnsInHanded_of_change_and (C := Tryz.checked) (X := fun w _ => laidMetH Tryz.prog theLaid w) (fun _ _ _ hh h => h.of_heap hh) own started (by kernel_rfl) Tryz.func11
    (ChangeSpec.witness_shaped (enc := enc) (C := Tryz.checked) (os := os) (X := fun w _ => laidMetH Tryz.prog theLaid w) false (World.laidAll Tryz.prog os theLaid) #[.slice none 0 0, .slice none 0 0] 8 (World.laidAll_os _ _ _)
      (shapedL os _) (by kernel_rfl) (by kernel_rfl) (by kernel_rfl) (metL os _)) ?_
  intro W base args ds gs before hval0 hW hcnd _ hL _
  have hval : ∀ (j : Nat) t v, Tryz.f11.params[j]? = some t → args[j]? = some v → Value.okWide Tryz.prog W .any base t v := hval0
  have hW' := hW
  obtain ⟨p, q, hA0, hV, rfl, hfz, hnd⟩ := hW
  have hA : DataW.TrodAll enc Tryz.prog W 0 (fun _ => true) true Tryz.f11.params.toList args.toList ds p := hA0
  rw [Tryz.params11] at hA hval
  obtain ⟨v0, vs0, d0, ds0, p0, q0, hargs, rfl, rfl, h0, r0⟩ := trodAll_cons hA
  obtain ⟨v1, vs1, d1, ds1, p1, q1, rfl, rfl, rfl, h1, r1⟩ := trodAll_cons r0
  obtain ⟨rfl, rfl, rfl⟩ := trodAll_nil r1
  obtain rfl : args = #[v0, v1] := by cases args; simp_all
  have hV0 := hV
  obtain ⟨g, t, cs, fuel, gd, pp, rfl, _⟩ := trodVars_one hV0
  obtain ⟨a0, len0, cap0, rfl⟩ := okWide_slice Tryz.underlying50 (hval 0 50 v0 rfl rfl)
  obtain ⟨a1, len1, cap1, rfl⟩ := okWide_slice Tryz.underlying31 (hval 1 31 v1 rfl rfl)
  have k0 := h0
  have k1 := h1
  have lt0 : ∀ x ∈ p0, x.block < W.heap.size := by obtain ⟨m, hm⟩ := k0; exact DataW.trod_lt m _ _ _ hm
  have lt1 : ∀ x ∈ p1, x.block < W.heap.size := by obtain ⟨m, hm⟩ := k1; exact DataW.trod_lt m _ _ _ hm
  obtain ⟨f0, hf0⟩ := h0
  obtain ⟨l, hm0, w0, h64, hsz⟩ := open_nodes hf0
  obtain ⟨f1, hf1⟩ := h1
  obtain ⟨names, hm1, w1, hsz1⟩ := open_texts hf1
  clear hA0 hval0
  refine (walk a0 len0 cap0 l a1 len1 cap1 names W (tabs_of hL) hm0 hm1 hsz hsz1 h64 w0 w1).mono fun e W' ⟨he, bel⟩ => ?_
  subst he
  exact ⟨_, rfl, _, _, _, [], _, _, hW', trodAll_mk1 (shut_bool Tryz.underlying4 _), (trodAll_cons_mk (Below.trod laidOut (by kernel_rfl) (of_decide_eq_true (by kernel_rfl)) k0 bel lt0) (trodAll_cons_mk (Below.trod laidOut (by kernel_rfl) (of_decide_eq_true (by kernel_rfl)) k1 bel lt1) trodAll_mk0)), Below.trodVars laidOut bel (by kernel_rfl) hV, bel.frame _, fun h => by cases h⟩

theorem over : Rows.FnExactCodeOfSaid :=
  OpenClaim.holds_of_wide 11 Tryz.f11 rfl rfl rfl rfl rfl rfl rfl ⟨rfl, rfl, rfl, rfl, rfl⟩ rfl rfl rfl rfl rfl (by kernel_rfl) Tryz.func11 (by kernel_rfl)
    (of_decide_eq_true (by kernel_rfl)) (by unfold Func.isWrapper; first | (rw [if_pos (by decide +kernel)]; kernel_rfl) | (rw [if_neg (by decide +kernel)]; exact ⟨rfl, rfl⟩))
    (fun os started H enc _ => lifted os started H enc)

theorem proved : Rows.FnExactCodeOfCardSaid :=
  Claim7.holds_tied_plain_at .later [] [.data, .data, .data, .data, .sentinel, .sentinel, .data, .pinned] true Rows.fnExactCodeOfCard.stood.harness true over (fun _ h => by cases h) (by kernel_rfl) (fun _ h => by cases h) fnExactCodeOf_row_tie rfl ⟨rfl, rfl⟩ (by kernel_rfl) rfl
    (fun f fn hf hfn => by
      obtain rfl : f = 11 := Option.some.inj ((show Tryz.prog.funcNamed "loop.example/telltale/laws.FnExactCodeOf" = some 11 by kernel_rfl).symm.trans hf) |>.symm
      obtain rfl : fn = Tryz.f11 := (Option.some.inj (Tryz.func11.symm.trans hfn)).symm
      exact ⟨by kernel_rfl, fun j t ht => by
        rw [Tryz.params11] at ht
        have hm : t ∈ [50, 31] := by simpa using Array.mem_of_getElem? ht
        have hall : ([50, 31].all fun u => !Tryz.prog.wantsStandIn u) = true := by kernel_rfl
        exact (show Tryz.prog.wantsStandIn t = false by simpa using List.all_eq_true.1 hall t hm)⟩)
    (by kernel_rfl)
#print axioms proved
end Go.Proofs.YtbpfonmkbbnkcaaGreatDoor.fnExactCodeOf
