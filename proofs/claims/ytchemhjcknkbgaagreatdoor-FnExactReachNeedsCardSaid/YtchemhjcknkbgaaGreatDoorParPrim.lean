/- The reader's prim, if its sum is as said. -/
import Derived.Test.YtchemhjcknkbgaaGreatDoorBunY7
namespace Go.Proofs.YtchemhjcknkbgaaGreatDoor
open Go.RowKit Go.PlainAid
set_option linter.unusedSimpArgs false
set_option linter.unusedVariables false

/-- what sum does, with so much to go on -/
def SumOk (s : ByteArray) (f : Nat) : Prop := ∀ (level : Int) (p : Nat) (st : Par) (v : Value) (w : World), 1 ≤ level → level ≤ 6 → ((7 * (s.size - st.at_) + 7 : Nat) : Int) ≤ f + level →
  st.at_ ≤ s.size → st.deep ≤ st.at_ → st.out.length ≤ 24 → ParAt p w s st v →
  Calls Tryz.prog 116 #[.pointer (some ⟨p, 0, none⟩), .int .i64 level] w fun e w' => e = .returned (.tuple #[]) ∧ ∃ v', ParAt p w' s (sumF s f level st) v' ∧ Touch p v w w' v'

theorem ParAt.deep_bad {p : Nat} {w : World} {s : ByteArray} {st : Par} {v : Value} (h : ParAt p w s st v) (b : Bool) (hb : b = st.bad) : ParAt p w s { st with bad := b } v := by subst hb; exact h

theorem put_any' (p : Nat) (s : ByteArray) (st : Par) (v : Value) (a b : Int) (c : ByteArray) (w : World) (hl : st.out.length ≤ 24) (h : ParAt p w s st v) :
    Calls Tryz.prog 160 #[.pointer (some ⟨p, 0, none⟩), .agg #[.int .i64 a, .int .i64 b, .string c]] w fun e w' => e = .returned (.tuple #[]) ∧ ∃ v', ParAt p w' s (putNd st (a, b, c)) v' ∧ Touch p v w w' v' :=
  put_any p s st v (a, b, c) w hl h

theorem extract_le (s : ByteArray) (a b : Nat) : (s.extract a b).size ≤ s.size := by
  rw [ByteArray.size_extract]; omega

set_option maxHeartbeats 1600000 in
set_option maxRecDepth 100000 in
theorem prim_any (s : ByteArray) (f : Nat) (hsum : SumOk s f) (hs : s.size ≤ 1048576) (p : Nat) (st : Par) (v : Value) (w : World) (hf : 7 * (s.size - st.at_) ≤ f) (ha : st.at_ ≤ s.size) (hd : st.deep ≤ st.at_) (hl : st.out.length ≤ 24) (h : ParAt p w s st v) :
    Calls Tryz.prog 200 #[.pointer (some ⟨p, 0, none⟩)] w fun e w' => e = .returned (.tuple #[]) ∧ ∃ v', ParAt p w' s (primM (sumF s f) s st) v' ∧ Touch p v w w' v' := by
  have HP : Hid (ParAt p w s st v) := h
  have HS : Hid (SumOk s f) := hsum
  have hle := skipTo_le ha
  obtain ⟨k, hk⟩ : ∃ k, skipTo s st.at_ = k := ⟨_, rfl⟩
  have HK : Hid (skipTo s st.at_ = k) := hk
  have HI : Hid (skipTo s k = k) := by
    show skipTo s k = k
    rw [← hk]; exact skipTo_idem s st.at_
  rw [hk] at hle
  clear h hk hsum
  cases hh : hasAt s k lpar
  · have HH : Hid (hasAt s k lpar = false) := hh
    have HT : Hid (takeAt s k lpar = k) := by
      show takeAt s k lpar = _
      unfold takeAt; rw [hh]; rfl
    have hw := wordTo_le hle.2
    obtain ⟨wd, hwd⟩ : ∃ wd, s.extract k (wordTo s k) = wd := ⟨_, rfl⟩
    have HW : Hid (s.extract k (wordTo s k) = wd) := hwd
    have hws : wd.size ≤ 1048576 := by rw [← hwd]; have := extract_le s k (wordTo s k); omega
    obtain ⟨k2, hk2⟩ : ∃ k2, wordTo s k = k2 := ⟨_, rfl⟩
    have HK2 : Hid (wordTo s k = k2) := hk2
    rw [hk2] at hw HW
    clear hh hwd hk2
    go_enter Tryz.func200, Tryz.ntmps200
    go_wp2_with fail
    refine (look_any p s st v _ (by unfold maxLen; omega) ha HP.out).mono ?_
    rw [HK.out]
    rintro e w1 ⟨rfl, hp1, ht1⟩
    have HP1 : Hid (ParAt p w1 s { st with at_ := k } v) := hp1
    clear hp1
    go_wp2_with fail
    refine (take_any p s lpar { st with at_ := k } v _ hs (by decide) hle.2 HP1.out).mono ?_
    simp only
    rw [HI.out, HH.out, HT.out]
    rintro e w2 ⟨rfl, hp2, ht2⟩
    have HP2 : Hid (ParAt p w2 s { st with at_ := k } v) := hp2
    clear hp2
    go_wp2_with fail
    refine (word_any p s { st with at_ := k } v _ hs hle.2 HP2.out).mono ?_
    simp only
    rw [HK2.out, HW.out]
    rintro e w3 ⟨rfl, hp3, ht3⟩
    have HP3 : Hid (ParAt p w3 s { st with at_ := k2 } v) := hp3
    have HT3 : Hid (Touch p v w w3 v) := (ht1.trans ht2).trans ht3
    have c3 := hp3.c3
    have ho := hp3.open_
    simp only at c3
    clear hp3 ht1 ht2 ht3
    cases hfb : figB (bt s k)
    · have HM : Hid (primM (sumF s f) s st = putNd { st with at_ := k2, bad := st.bad || !nmB wd } (2, 0, wd)) := by
        show primM _ _ _ = _
        unfold primM; rw [HK.out, HH.out, if_neg (by decide)]
        simp only
        rw [HK2.out, hfb, if_neg (by decide), HW.out]
      cases hbad : st.bad
      · rw [hbad] at c3
        have HB : Hid (st.bad = false) := hbad
        clear hbad
        go_wp2_with (first | (go_at_call 154; refine (l1Figure_is hfb _).mono ?_; rintro e w' ⟨rfl, hw'⟩; rw [hw']; clear hw' w') | (go_at_call 110; refine (l1Name_any wd _ (by unfold maxLen; omega)).mono ?_; rintro e w' ⟨rfl, hw'⟩; rw [hw']; clear hw' w'))
        refine (put_any' p s { st with at_ := k2, bad := !nmB wd } v _ _ _ _ hl (by exact HP3.out.bad1 _)).mono ?_
        rintro e w5 ⟨rfl, v5, hp5, ht5⟩
        go_wp2_with fail
        go_returns
        rw [HM.out, HB.out]
        exact ⟨rfl, v5, hp5, (HT3.out.setCell _ _).trans ht5⟩
      · rw [hbad] at c3
        have HB : Hid (st.bad = true) := hbad
        clear hbad
        go_wp2_with (go_at_call 154; refine (l1Figure_is hfb _).mono ?_; rintro e w' ⟨rfl, hw'⟩; rw [hw']; clear hw' w')
        refine (put_any' p s { st with at_ := k2, bad := true } v _ _ _ _ hl (by exact HP3.out.bad1 _)).mono ?_
        rintro e w5 ⟨rfl, v5, hp5, ht5⟩
        go_wp2_with fail
        go_returns
        rw [HM.out, HB.out]
        exact ⟨rfl, v5, hp5, (HT3.out.setCell _ _).trans ht5⟩
    · obtain ⟨nn, hnn⟩ : ∃ nn, numOf wd = nn := ⟨_, rfl⟩
      have HNN : Hid (numOf wd = nn) := hnn
      have HM : Hid (primM (sumF s f) s st = putNd { st with at_ := k2, bad := st.bad || decide (nn < 0) } (1, nn, noName)) := by
        show primM _ _ _ = _
        unfold primM; rw [HK.out, HH.out, if_neg (by decide)]
        simp only
        rw [HK2.out, hfb, if_pos rfl, HW.out, hnn]
      clear hnn
      go_wp2_with (go_at_call 154; refine (l1Figure_is hfb _).mono ?_; rintro e w' ⟨rfl, hw'⟩; rw [hw']; clear hw' w')
      refine (l1Num_any wd _ hws).mono ?_
      rw [HNN.out]
      rintro e w4 ⟨rfl, hw4⟩
      rw [hw4]
      clear hw4 w4
      cases hbad : st.bad
      · rw [hbad] at c3
        have HB : Hid (st.bad = false) := hbad
        clear hbad
        go_wp2_with fail
        refine (put_any' p s { st with at_ := k2, bad := decide (nn < 0) } v _ _ _ _ hl (by exact HP3.out.bad1 _)).mono ?_
        rintro e w5 ⟨rfl, v5, hp5, ht5⟩
        go_wp2_with fail
        go_returns
        rw [HM.out, HB.out]
        exact ⟨rfl, v5, hp5, (HT3.out.setCell _ _).trans ht5⟩
      · rw [hbad] at c3
        have HB : Hid (st.bad = true) := hbad
        clear hbad
        go_wp2_with fail
        refine (put_any' p s { st with at_ := k2, bad := true } v _ _ _ _ hl (by exact HP3.out.bad1 _)).mono ?_
        rintro e w5 ⟨rfl, v5, hp5, ht5⟩
        go_wp2_with fail
        go_returns
        rw [HM.out, HB.out]
        exact ⟨rfl, v5, hp5, (HT3.out.setCell _ _).trans ht5⟩
  · have h1 := hasAt_lt hh
    have e1 : lpar.size = 1 := rfl
    rw [e1] at h1
    have HH : Hid (hasAt s k lpar = true) := hh
    have HT : Hid (takeAt s k lpar = k + 1) := by
      show takeAt s k lpar = _
      unfold takeAt; rw [hh]; rfl
    clear hh
    go_enter Tryz.func200, Tryz.ntmps200
    go_wp2_with fail
    refine (look_any p s st v _ (by unfold maxLen; omega) ha HP.out).mono ?_
    rw [HK.out]
    rintro e w1 ⟨rfl, hp1, ht1⟩
    have HP1 : Hid (ParAt p w1 s { st with at_ := k } v) := hp1
    clear hp1
    go_wp2_with fail
    refine (take_any p s lpar { st with at_ := k } v _ hs (by omega) hle.2 HP1.out).mono ?_
    simp only
    rw [HI.out, HH.out, HT.out]
    rintro e w2 ⟨rfl, hp2, ht2⟩
    have HP2 : Hid (ParAt p w2 s { st with at_ := k + 1 } v) := hp2
    have c2 := hp2.c2
    have ho := hp2.open_
    simp only at c2
    clear hp2
    by_cases hdeep : 6 < st.deep + 1
    · have HM : Hid (primM (sumF s f) s st = { st with at_ := k + 1, deep := st.deep + 1, bad := true }) := by
        show primM _ _ _ = _
        unfold primM; rw [HK.out, HH.out, if_pos rfl, if_pos hdeep]
      have c3 := HP2.out.c3
      simp only at c3
      go_wp2_with fail
      go_returns
      rw [HM.out]
      refine ⟨rfl, v, ?_, ?_⟩
      · exact (HP2.out.deep1 (st.deep + 1)).bad1 true
      · exact ((ht1.trans ht2).setCell _ _).setCell _ _
    · have HM : Hid (primM (sumF s f) s st = (let st3 := sumF s f 1 { st with at_ := k + 1, deep := st.deep + 1 }
          { st3 with at_ := takeAt s (skipTo s st3.at_) rpar, deep := st3.deep - 1, bad := st3.bad || !hasAt s (skipTo s st3.at_) rpar })) := by
        show primM _ _ _ = _
        unfold primM; rw [HK.out, HH.out, if_pos rfl, if_neg hdeep]
      have HA : Hid (Adv s { st with at_ := k + 1, deep := st.deep + 1 } (sumF s f 1 { st with at_ := k + 1, deep := st.deep + 1 })) := adv_sum s f 1 _
      go_wp2_with fail
      refine (HS.out 1 p { st with at_ := k + 1, deep := st.deep + 1 } v _ (by decide) (by decide) (by simp only; omega) (by simp only; omega) (by simp only; omega) hl (by exact HP2.out.deep1 (st.deep + 1))).mono ?_
      rintro e w3 ⟨rfl, v3, hp3, ht3⟩
      obtain ⟨st3, hst3⟩ : ∃ st3, sumF s f 1 { st with at_ := k + 1, deep := st.deep + 1 } = st3 := ⟨_, rfl⟩
      rw [hst3] at hp3 HM HA
      clear hst3
      obtain ⟨a1, a2, a3, a4, a5⟩ := HA.out
      simp only at a1 a2 a3 a4 a5
      have a2' := a2 (by omega)
      have HP3 : Hid (ParAt p w3 s st3 v3) := hp3
      have HT3 : Hid (Touch p v w w3 v3) := ((ht1.trans ht2).setCell _ _).trans ht3
      have c2' := hp3.c2
      have ho' := hp3.open_
      obtain ⟨d3, hd3⟩ : ∃ d3, st3.deep = d3 + 1 := ⟨st3.deep - 1, by omega⟩
      rw [hd3] at c2' a4 a3
      have HD3 : Hid (st3.deep - 1 = d3) := by
        show st3.deep - 1 = d3
        omega
      clear hp3 ht3 a5 a2 c2 ho hd3
      go_wp2_with fail
      refine (take_any p s rpar { st3 with deep := d3 } v3 _ hs (by decide) a2' (by exact HP3.out.deep1 d3)).mono ?_
      simp only
      have HPk : Hid (ParAt p (w3.setCell ⟨p, 2, none⟩ (.int .i64 d3)) s { st3 with deep := d3 } v3) := HP3.out.deep1 d3
      cases hr : hasAt s (skipTo s st3.at_) rpar
      · rintro e w4 ⟨rfl, hp4, ht4⟩
        have HP4 : Hid (ParAt p w4 s { st3 with deep := d3, at_ := takeAt s (skipTo s st3.at_) rpar } v3) := hp4
        have ho4 := hp4.open_
        have c34 := hp4.c3
        simp only at c34
        have HR : Hid (hasAt s (skipTo s st3.at_) rpar = false) := hr
        clear hp4 c2' ho' hr
        go_wp2_with fail
        go_returns
        rw [HM.out]
        refine ⟨rfl, v3, ?_, ?_⟩
        · rw [HR.out, HD3.out]
          have := HP4.out.bad1 true
          simpa using this
        · exact ((HT3.out.setCell _ _).trans ht4).setCell _ _
      · rintro e w4 ⟨rfl, hp4, ht4⟩
        have HP4 : Hid (ParAt p w4 s { st3 with deep := d3, at_ := takeAt s (skipTo s st3.at_) rpar } v3) := hp4
        have HR : Hid (hasAt s (skipTo s st3.at_) rpar = true) := hr
        clear hp4 c2' ho' hr
        go_wp2_with fail
        go_returns
        rw [HM.out]
        refine ⟨rfl, v3, ?_, ?_⟩
        · rw [HR.out, HD3.out]
          simpa using HP4.out
        · exact (HT3.out.setCell _ _).trans ht4
end Go.Proofs.YtchemhjcknkbgaaGreatDoor
