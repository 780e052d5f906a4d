/- The reader's sum, for every text: it comes to what the function sumF says. -/
import Derived.Test.YtcajjngjojegfaaGreatDoorParUnary2
namespace Go.Proofs.YtcajjngjojegfaaGreatDoor
open Go.RowKit Go.PlainAid
set_option linter.unusedSimpArgs false
set_option linter.unusedVariables false

theorem loopS_eq {s : ByteArray} {rec : Int → Par → Par} (hrec : ∀ l st, Adv s st (rec l st)) (level : Int) (n : Nat) : ∀ m st, s.size - st.at_ + 1 ≤ n → s.size - st.at_ + 1 ≤ m → st.at_ ≤ s.size → loopS rec s level n st = loopS rec s level m st := by
  induction n with
  | zero => intro m st h; omega
  | succ n ih =>
    intro m st hn hm ha
    obtain ⟨m, rfl⟩ : ∃ m', m = m' + 1 := ⟨m - 1, by omega⟩
    unfold loopS
    split
    · rfl
    · split
      · rfl
      · rename_i hf
        have h1 := findSign_lt hf
        have h2 := skipTo_mono s st.at_
        have h3 := (hrec (level + 1) { st with at_ := signAt s (skipTo s st.at_) level }).trans (adv_put s _ (findSign s (skipTo s st.at_) level, 0, noName))
        have h4 := h3.lo
        have h5 := h3.hi
        simp only at h4 h5
        have h6 := (signAt_le s st.at_ level).2 ha
        have h7 : signAt s (skipTo s st.at_) level = skipTo s st.at_ + (sg (findSign s (skipTo s st.at_) level)).size := rfl
        exact ih m _ (by omega) (by omega) (h5 h6)

set_option maxHeartbeats 1600000 in
set_option maxRecDepth 100000 in
theorem sum_any (s : ByteArray) (hs : s.size ≤ 1048576) (f : Nat) : SumOk s f := by
  induction f with
  | zero =>
    intro level p st v w h1 h2 h3
    omega
  | succ f ih =>
    intro level p st v w h1 h2 h3 ha hd hl h
    have HS : Hid (SumOk s f) := ih
    have HP : Hid (ParAt p w s st v) := h
    clear ih h
    by_cases h6 : 5 < level
    · have HM : Hid (sumF s (f + 1) level st = unaryM (sumF s f) s st) := by
        show sumF _ _ _ _ = _
        rw [sumF, if_pos h6]
      go_enter Tryz.func73, Tryz.ntmps73
      go_wp2_with fail
      refine (unary_any s f HS.out hs p st v _ (by omega) ha hd hl HP.out).mono ?_
      rintro e w1 ⟨rfl, v1, hp1, ht1⟩
      go_wp2_with fail
      go_returns
      rw [HM.out]
      exact ⟨rfl, v1, hp1, ht1⟩
    · have HM : Hid (sumF s (f + 1) level st = loopS (sumF s f) s level (s.size + 1) (sumF s f (level + 1) st)) := by
        show sumF _ _ _ _ = _
        rw [sumF, if_neg h6]
      have HA := adv_sum s f (level + 1) st
      obtain ⟨st0, hst0⟩ : ∃ st0, sumF s f (level + 1) st = st0 := ⟨_, rfl⟩
      have HST : Hid (sumF s f (level + 1) st = st0) := hst0
      rw [hst0] at HM HA
      obtain ⟨a1, a2, a3, a4, a5⟩ := HA
      have a2' := a2 ha
      have a5' := a5 hl
      clear hst0 a2 a5
      go_enter Tryz.func73, Tryz.ntmps73
      go_wp2_with fail
      refine (HS.out (level + 1) p st v _ (by omega) (by omega) (by omega) ha hd hl HP.out).mono ?_
      rw [HST.out]
      rintro e w1 ⟨rfl, v1, hp1, ht1⟩
      have HP1 : Hid (ParAt p w1 s st0 v1) := hp1
      clear hp1
      go_wp2_with fail
      go_loopw [] (fun wr => ∃ (st' : Par) (v' : Value) (n : Nat), Hid (loopS (sumF s f) s level (s.size + 1) st0 = loopS (sumF s f) s level n st') ∧ s.size - st'.at_ + 1 ≤ n ∧ st'.at_ ≤ s.size ∧ st.at_ ≤ st'.at_ ∧ st'.deep ≤ st'.at_ ∧ st'.out.length ≤ 24 ∧ Hid (ParAt p wr s st' v') ∧ Touch p v w wr v')
        (fun wr => s.size - (intOf ((wr.cell? ⟨p, 1, none⟩).getD undef)).toNat)
      case atStart => exact ⟨st0, v1, s.size + 1, rfl, by omega, a2', a1, by omega, a5', HP1.out, ht1⟩
      case round =>
        obtain ⟨st', v', n, HQ, hn, hat, hat2, hdt, hlt, HPr, htr⟩ := hrel
        have c3 := HPr.out.c3
        have c1 := HPr.out.c1
        obtain ⟨n, rfl⟩ : ∃ n', n = n' + 1 := ⟨n - 1, by omega⟩
        cases hbad : st'.bad
        · rw [hbad] at c3
          by_cases hf0 : findSign s (skipTo s st'.at_) level = 0
          · have HE : Hid (loopS (sumF s f) s level (s.size + 1) st0 = { st' with at_ := signAt s (skipTo s st'.at_) level }) := by
              show loopS _ _ _ _ _ = _
              rw [HQ.out, loopS, hbad, if_neg (by decide), if_pos hf0]
            have HF : Hid (findSign s (skipTo s st'.at_) level = 0) := hf0
            clear hbad hf0
            go_wp2_with fail
            refine (sign_any p s st' v' level _ ⟨h1, by omega⟩ hs hat HPr.out).mono ?_
            rw [HF.out]
            rintro e w2 ⟨rfl, hp2, ht2⟩
            go_wp2_with fail
            go_returns
            rw [HM.out, HE.out]
            exact ⟨rfl, v', hp2, htr.trans ht2⟩
          · obtain ⟨K, hK⟩ : ∃ K, findSign s (skipTo s st'.at_) level = K := ⟨_, rfl⟩
            have hK0 : ((K : Int) == 0) = false := by rw [← hK]; simp [hf0]
            have HF : Hid (findSign s (skipTo s st'.at_) level = K) := hK
            have hfl := findSign_lt hf0
            have hsl := signAt_le s st'.at_ level
            have hsk := skipTo_mono s st'.at_
            have hsg : signAt s (skipTo s st'.at_) level = skipTo s st'.at_ + (sg (findSign s (skipTo s st'.at_) level)).size := rfl
            obtain ⟨st2, hst2⟩ : ∃ st2, sumF s f (level + 1) { st' with at_ := signAt s (skipTo s st'.at_) level } = st2 := ⟨_, rfl⟩
            have HST2 : Hid (sumF s f (level + 1) { st' with at_ := signAt s (skipTo s st'.at_) level } = st2) := hst2
            have HE : Hid (loopS (sumF s f) s level (s.size + 1) st0 = loopS (sumF s f) s level n (putNd st2 (K, 0, noName))) := by
              show loopS _ _ _ _ _ = _
              rw [HQ.out, loopS, if_neg (by rw [hbad]; decide), if_neg hf0, hK, hst2]
            have HA2 := (adv_sum s f (level + 1) { st' with at_ := signAt s (skipTo s st'.at_) level })
            rw [hst2] at HA2
            obtain ⟨b1, b2, b3, b4, b5⟩ := HA2
            simp only at b1 b2 b3 b4 b5
            obtain ⟨d1, d2, d3, d4, d5⟩ := adv_put s st2 (K, 0, noName)
            have hsA := hsl.2 hat
            have b2' := b2 hsA
            have b5' := b5 hlt
            have d5' := d5 b5'
            have d2' := d2 b2'
            obtain ⟨A, hA⟩ : ∃ A, signAt s (skipTo s st'.at_) level = A := ⟨_, rfl⟩
            have HAA : Hid (signAt s (skipTo s st'.at_) level = A) := hA
            rw [hA] at hsA b1 b4 hsg HST2
            have hAgt : st'.at_ < A := by omega
            clear hbad hf0 hK hfl hsl hsk hsg hst2 b2 b5 d2 d5 hA
            go_wp2_with fail
            refine (sign_any p s st' v' level _ ⟨h1, by omega⟩ hs hat HPr.out).mono ?_
            rw [HF.out, HAA.out]
            rintro e w2 ⟨rfl, hp2, ht2⟩
            have HP2 : Hid (ParAt p w2 s { st' with at_ := A } v') := hp2
            clear hp2
            go_wp2_with fail
            refine (HS.out (level + 1) p { st' with at_ := A } v' _ (by omega) (by omega) (by simp only; omega) hsA (by simp only; omega) hlt HP2.out).mono ?_
            rw [HST2.out]
            rintro e w3 ⟨rfl, v3, hp3, ht3⟩
            have HP3 : Hid (ParAt p w3 s st2 v3) := hp3
            clear hp3
            go_wp2_with fail
            refine (put_any' p s st2 v3 _ _ _ _ b5' HP3.out).mono ?_
            rintro e w4 ⟨rfl, v4, hp4, ht4⟩
            have HP4 : Hid (ParAt p w4 s (putNd st2 (K, 0, noName)) v4) := hp4
            have HT4 : Hid (Touch p v w w4 v4) := ((htr.trans ht2).trans ht3).trans ht4
            have hc4 := HP4.out.c1
            generalize putNd st2 (K, 0, noName) = st4 at *
            clear hp4 ht2 ht3 ht4
            go_wp2_with fail
            go_roundw
            case rel => exact ⟨st4, v4, n, HE.out, by omega, d2', by omega, by omega, d5', HP4.out, HT4.out⟩
            case measure =>
              rw [hc4, c1]
              simp [intOf]; omega
        · have HE : Hid (loopS (sumF s f) s level (s.size + 1) st0 = st') := by
            show loopS _ _ _ _ _ = _
            rw [HQ.out, loopS, hbad, if_pos rfl]
          rw [hbad] at c3
          clear hbad
          go_wp2_with fail
          go_end0
          rw [HM.out, HE.out]
          exact ⟨rfl, v', HPr.out, htr⟩
end Go.Proofs.YtcajjngjojegfaaGreatDoor
