/- The program's reader: climbing. -/
import Derived.Test.YtcajjngjojegfaaGreatDoorParts3
namespace Go.Proofs.YtcajjngjojegfaaGreatDoor
open Go Go.RowKit Go.PlainAid
set_option linter.unusedSimpArgs false
set_option linter.unusedVariables false

theorem loopC_at (s : ByteArray) (least : Int) (d n : Nat) (t : Tree) (a : Nat) : loopC (CC s) s least d (n + 1) t a = if pairAt s (skipTo s a) = 0 ∨ lvl (pairAt s (skipTo s a)) < least then some (t, skipTo s a)
    else thenC (fun r a' => loopC (CC s) s least d n (.pair (pairAt s (skipTo s a)) t r) a') (CC s (lvl (pairAt s (skipTo s a)) + 1) (skipTo s a + (sg (pairAt s (skipTo s a))).size) d) := by
  conv => lhs; unfold loopC
  split
  · rfl
  · cases CC s (lvl (pairAt s (skipTo s a)) + 1) (skipTo s a + (sg (pairAt s (skipTo s a))).size) d with
    | none => rfl
    | some q => rfl
theorem CC_then (s : ByteArray) (least : Int) (a d : Nat) : CC s least a d = thenC (fun t a' => loopC (CC s) s least d (s.size - a' + 1) t a') (aheadC (CC s) s d (s.size - a + 1) a) := by
  rw [CC_eq]
  cases aheadC (CC s) s d (s.size - a + 1) a with
  | none => rfl
  | some q => rfl
theorem partV_form (t : Tree) : ∃ tv xv, partV t = .iface tv xv := by cases t <;> exact ⟨_, _, rfl⟩

set_option maxHeartbeats 1600000 in
set_option maxRecDepth 100000 in
theorem climb_rd (s : ByteArray) (hs : s.size ≤ 1048576) : ∀ (f : Nat) (p : Nat) (least : Int) (a d : Nat) (w : World), s.size - a < f → p ≠ 0 → a ≤ s.size → d ≤ 6 → 1 ≤ least → least ≤ 6 → RdI w p s a d → Signs w →
    Calls Tryz.prog 72 #[.pointer (some ⟨p, 0, none⟩), .int .i64 least] w fun e w' => RdPost p s d w (CC s least a d) e w' := by
  intro f
  induction f with
  | zero => intro p least a d w hf; omega
  | succ f ih =>
    intro p least a d w hf hp ha hd hl1 hl6 h hg
    have hC : ClimbAt s a := fun p' l' b' d' w' q1 q2 q3 q4 q5 q6 q7 q8 => ih p' l' b' d' w' (by omega) q1 q3 q4 q5 q6 q7 q8
    have H : Hid (RdI w p s a d) := h
    have HG : Hid (Signs w) := hg
    have HC : Hid (ClimbAt s a) := hC
    obtain ⟨R, hR⟩ : ∃ R, CC s least a d = R := ⟨_, rfl⟩
    rw [hR]
    rw [CC_then] at hR
    have HA : Hid (Calls Tryz.prog 101 #[.pointer (some ⟨p, 0, none⟩)] w fun e w' => RdPost p s d w (aheadC (CC s) s d (s.size - a + 1) a) e w') := ahead_rd p s d hp hs hd (s.size - a + 1) a w (by omega) h hg ha hC
    have hadv : ∀ t a', aheadC (CC s) s d (s.size - a + 1) a = some (t, a') → a ≤ a' ∧ (a ≤ s.size → a' ≤ s.size) := fun t a' h => advC_ahead (advCC s) _ _ h
    have HADV : Hid (∀ t a', aheadC (CC s) s d (s.size - a + 1) a = some (t, a') → a ≤ a' ∧ (a ≤ s.size → a' ≤ s.size)) := hadv
    clear h hg hC ih hadv
    generalize aheadC (CC s) s d (s.size - a + 1) a = Q at *
    have HRR : Hid (thenC (fun t a' => loopC (CC s) s least d (s.size - a' + 1) t a') Q = R) := hR
    clear hR
    go_enter Tryz.func72, Tryz.ntmps72
    go_wp2_with fail
    refine HA.out.mono ?_
    rintro e w1 ⟨hm1, hpost⟩
    have M1 : Hid (Mv p w w1) := hm1
    clear hm1 HA
    cases Q with
    | none =>
      obtain ⟨v, hv, rfl⟩ := hpost
      have hRn : R = none := HRR.out.symm
      subst hRn
      go_wp2_with fail
      go_ret2
      exact ⟨M1.out, _, .inl rfl, rfl⟩
    | some q =>
      obtain ⟨t0, a0⟩ := q
      obtain ⟨rfl, hr1⟩ := hpost
      have hL : loopC (CC s) s least d (s.size - a0 + 1) t0 a0 = R := HRR.out
      have HL : Hid (loopC (CC s) s least d (s.size - a0 + 1) t0 a0 = R) := hL
      have H1 : Hid (RdI w1 p s a0 d) := hr1
      obtain ⟨ha1, ha2⟩ := HADV.out t0 a0 rfl
      have ha3 := ha2 ha
      clear hr1 hL HRR HADV ha2
      go_wp2_with fail
      go_loopw [6] (fun v wr => ∃ (t : Tree) (b : Nat), v = partV t ∧ a ≤ b ∧ b ≤ s.size ∧ Hid (loopC (CC s) s least d (s.size - b + 1) t b = R) ∧ Hid (RdI wr p s b d) ∧ Hid (Mv p w wr)) (fun _ wr => match wr.cell? ⟨p, 0, none⟩ with | some (.string x) => x.size | _ => 0)
      case atStart => exact ⟨t0, a0, rfl, ha1, ha3, HL.out, H1.out, M1.out⟩
      case round =>
        obtain ⟨t, b, rfl, hab, hbs, HLb, HR, HM⟩ := hrel
        have hms : (match wr.cell? ⟨p, 0, none⟩ with | some (.string x) => x.size | _ => 0) = s.size - b := by rw [HR.out.c0]; exact tl_size s b
        have HMS : Hid ((match wr.cell? ⟨p, 0, none⟩ with | some (.string x) => x.size | _ => 0) = s.size - b) := hms
        have hsk := skipTo_le hbs
        have hL := HLb.out
        rw [loopC_at] at hL
        obtain ⟨tv, xv, hpv⟩ := partV_form t
        have HPV : Hid (partV t = .iface tv xv) := hpv
        rw [hpv]
        have GR : Hid (Signs wr) := HG.out.mv hp HM.out
        have HNP : Hid (Calls Tryz.prog 102 #[.pointer (some ⟨p, 0, none⟩)] wr fun e w' => e = .returned (.tuple #[.int .i64 (pairAt s (skipTo s b)), .bool (!(pairAt s (skipTo s b) == 0))]) ∧ RdI w' p s (skipTo s b) d ∧ Mv p wr w') := nextPair_rd p s b d wr hp HR.out GR.out hs hbs
        have hpl : pairAt s (skipTo s b) ≠ 0 → skipTo s b + (sg (pairAt s (skipTo s b))).size ≤ s.size ∧ 1 ≤ (sg (pairAt s (skipTo s b))).size ∧ 5 ≤ pairAt s (skipTo s b) ∧ pairAt s (skipTo s b) ≤ 13 := fun h => ⟨(pair_lt h).1, (pair_lt h).2.1, (pairAt_is h).1.1, (pairAt_is h).1.2⟩
        generalize skipTo s b = c at *
        generalize pairAt s c = k at *
        have HLL : Hid ((if k = 0 ∨ lvl k < least then some (t, c) else thenC (fun r a' => loopC (CC s) s least d (s.size - b) (.pair k t r) a') (CC s (lvl k + 1) (c + (sg k).size) d)) = R) := hL
        clear hL hpv hms HLb
        by_cases hk0 : k = 0
        · subst hk0
          have hRs : R = some (t, c) := by rw [← HLL.out, if_pos (.inl rfl)]
          subst hRs
          go_wp2_with (go_at_call 102; refine HNP.out.mono ?_; rintro e w2 ⟨rfl, hr2, hm2⟩; have H2 : Hid (RdI w2 p s c d) := hr2; have M2 : Hid (Mv p w w2) := HM.out.trans hm2; clear hr2 hm2)
          go_ret2
          exact ⟨M2.out, by rw [HPV.out]; rfl, H2.out⟩
        · obtain ⟨hp1, hp2, hp3, hp4⟩ := hpl hk0
          have e0 : (k == 0) = false := by simp [hk0]
          have HGK : Hid (∀ w2, Mv p w w2 → w2.cell? ⟨0, k * 2, none⟩ = some (.string (sg k)) ∧ w2.cell? ⟨0, k * 2 + 1, none⟩ = some (.int .i64 (lvl k))) := fun w2 hm2 => by
            have := (HG.out.mv hp hm2) k (by omega)
            have e1 : sgI k = sg k := by unfold sgI; rw [if_neg (by omega), if_neg (by omega)]
            have e2 : tgI k = lvl k := by unfold tgI; rw [if_neg (by omega), if_pos (by omega)]
            rw [e1, e2] at this
            exact this
          have hlv := lvl_range k
          rw [e0] at HNP
          clear hpl
          by_cases hlow : lvl k < least
          · have hRs : R = some (t, c) := by rw [← HLL.out, if_pos (.inr hlow)]
            subst hRs
            generalize lvl (k : Int) = lv at *
            go_wp2_with (go_at_call 102; refine HNP.out.mono ?_; rintro e w2 ⟨rfl, hr2, hm2⟩; have H2 : Hid (RdI w2 p s c d) := hr2; have M2 : Hid (Mv p w w2) := HM.out.trans hm2; clear hr2 hm2; obtain ⟨g0, g1⟩ := HGK.out w2 M2.out)
            go_ret2
            exact ⟨M2.out, by rw [HPV.out]; rfl, H2.out⟩
          · have HLT : Hid (thenC (fun r a' => loopC (CC s) s least d (s.size - b) (.pair k t r) a') (CC s (lvl k + 1) (c + (sg k).size) d) = R) := by
              show thenC _ _ = R
              rw [← HLL.out, if_neg (by omega)]
            have HCL : Hid (∀ w3, RdI w3 p s (c + (sg k).size) d → Signs w3 → Calls Tryz.prog 72 #[.pointer (some ⟨p, 0, none⟩), .int .i64 (lvl k + 1)] w3 fun e w' => RdPost p s d w3 (CC s (lvl k + 1) (c + (sg k).size) d) e w') := fun w3 h3 g3 =>
              HC.out p (lvl k + 1) (c + (sg k).size) d w3 hp (by omega) hp1 hd (by omega) (by omega) h3 g3
            have HADV : Hid (∀ r a', CC s (lvl k + 1) (c + (sg k).size) d = some (r, a') → c + (sg k).size ≤ a' ∧ a' ≤ s.size) := fun r a' h => ⟨(advCC s _ _ _ _ _ h).1, (advCC s _ _ _ _ _ h).2 hp1⟩
            have HSK : Hid (∀ w2, RdI w2 p s c d → Calls Tryz.prog 103 #[.pointer (some ⟨p, 0, none⟩), .int .i64 (sg k).size] w2 fun e w' => e = .returned (.tuple #[]) ∧ w' = w2.setCell ⟨p, 0, none⟩ (.string (tl s (c + (sg k).size)))) := fun w2 h2 => skip_rd p s c d (sg k).size w2 h2 hs hp1
            clear HLL
            generalize lvl (k : Int) = lv at *
            have hlv1 := hlv.1
            have hlv2 := hlv.2
            clear hlv
            generalize sg k = y at *
            generalize CC s (lv + 1) (c + y.size) d = Q at *
            go_wp2_with (first | (go_at_call 102; refine HNP.out.mono ?_; rintro e w2 ⟨rfl, hr2, hm2⟩; have H2 : Hid (RdI w2 p s c d) := hr2; have M2 : Hid (Mv p w w2) := HM.out.trans hm2; clear hr2 hm2; obtain ⟨g0, g1⟩ := HGK.out w2 M2.out) | (go_at_call 103; refine (HSK.out _ H2.out).mono ?_; rintro e w3 ⟨rfl, hw3⟩; have H3 : Hid (RdI w3 p s (c + y.size) d) := (by rw [hw3]; exact H2.out.at _); have M3 : Hid (Mv p w w3) := (by rw [hw3]; exact M2.out.cell _ _); clear hw3 g0 g1; obtain ⟨g0, g1⟩ := HGK.out w3 M3.out))
            refine (HCL.out w3 H3.out (HG.out.mv hp M3.out)).mono ?_
            rintro e w4 ⟨hm4, hpost⟩
            have M4 : Hid (Mv p w w4) := M3.out.trans hm4
            clear hm4 g0 g1 HNP HSK HCL
            cases Q with
            | none =>
              obtain ⟨v, hv, rfl⟩ := hpost
              have hRn : R = none := HLT.out.symm
              subst hRn
              go_wp2_with fail
              go_ret2
              exact ⟨M4.out, _, .inl rfl, rfl⟩
            | some q =>
              obtain ⟨r, a'⟩ := q
              obtain ⟨rfl, hr4⟩ := hpost
              obtain ⟨hv1, hv2⟩ := HADV.out r a' rfl
              have H4 : Hid (RdI w4 p s a' d) := hr4
              have HLn : Hid (loopC (CC s) s least d (s.size - a' + 1) (.pair k t r) a' = R) := by
                show loopC _ _ _ _ _ _ _ = R
                rw [← HLT.out]
                exact fuelLoopC s least d _ _ _ _ (by omega) (by omega)
              obtain ⟨tr, xr, hpr⟩ := partV_form r
              have HPR : Hid (partV r = .iface tr xr) := hpr
              rw [hpr]
              clear hr4 hpr HLT HADV
              go_wp2_with fail
              go_roundw
              case rel => exact ⟨.pair k t r, a', by rw [partV, HPV.out, HPR.out], by omega, hv2, HLn.out, H4.out, M4.out⟩
              case measure =>
                have e1 : (match w4.cell? ⟨p, 0, none⟩ with | some (.string x) => x.size | _ => 0) = s.size - a' := by rw [H4.out.c0]; exact tl_size s a'
                have e2 := HMS.out
                show (match w4.cell? ⟨p, 0, none⟩ with | some (.string x) => x.size | _ => 0) < (match wr.cell? ⟨p, 0, none⟩ with | some (.string x) => x.size | _ => 0)
                rw [e1, e2]
                omega
end Go.Proofs.YtcajjngjojegfaaGreatDoor
