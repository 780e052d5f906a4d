/- The program's reader: a single part, signs ahead, climbing, all of a text. -/
import Derived.Test.YtchemhjcknkbgaaGreatDoorBunY19
namespace Go.Proofs.YtchemhjcknkbgaaGreatDoor
open Go Go.RowKit Go.PlainAid
set_option linter.unusedSimpArgs false
set_option linter.unusedVariables false

set_option maxHeartbeats 800000 in
set_option maxRecDepth 100000 in
theorem single_rd (p : Nat) (s : ByteArray) (a d : Nat) (w : World) (hp : p ≠ 0) (h : RdI w p s a d) (hg : Signs w) (hs : s.size ≤ 1048576) (ha : a ≤ s.size) (hd : d ≤ 6) (hC : ClimbAt s a) :
    Calls Tryz.prog 212 #[.pointer (some ⟨p, 0, none⟩)] w fun e w' => RdPost p s d w (singleC (CC s) s a d) e w' := by
  have H : Hid (RdI w p s a d) := h
  have HG : Hid (Signs w) := hg
  have HC : Hid (ClimbAt s a) := hC
  have c0 := h.c0
  have hsz := tl_size s a
  rw [singleC_eq]
  by_cases hend : s.size ≤ a
  · rw [if_pos hend]
    have e0 : tl s a = ⟨#[]⟩ := empty_of (by omega)
    rw [e0] at c0
    clear e0
    clear h hg hC
    go_enter Tryz.func212, Tryz.ntmps212
    go_wp2_with fail
    go_ret2
    exact ⟨Mv.refl p w, _, .inl rfl, rfl⟩
  rw [if_neg hend]
  have hbx := get_bt (tl s a)
  have hb0 := tl_bt s a 0
  rw [Nat.add_zero] at hb0
  have hpos : 0 < (tl s a).size := by omega
  have hl : ¬ (tl s a).toList = [] := by
    intro h
    rw [Lib.toList_data] at h
    have : (tl s a).size = 0 := by
      show (tl s a).data.size = 0
      rw [← Array.length_toList, h]; rfl
    omega
  have he : (tl s a).toList.isEmpty = false := by simpa using hl
  have HT : Hid (tl s a = tl s a) := rfl
  obtain ⟨x, hx⟩ : ∃ x, tl s a = x := ⟨_, rfl⟩
  rw [hx] at c0 hsz hbx hb0 hpos hl he
  clear hx HT
  by_cases h40 : bt s a = 40
  · rw [if_pos h40]
    rw [h40] at hb0
    have HW : Hid (Calls Tryz.prog 233 #[.pointer (some ⟨p, 0, none⟩)] w fun e w' => RdPost p s d w (withinC s a d) e w') := within_rd p s a d w hp h hg hs (by omega) hd hC
    generalize withinC s a d = R at *
    clear h hg hC
    go_enter Tryz.func212, Tryz.ntmps212
    go_wp2_with fail
    refine HW.out.mono ?_
    rintro e w1 ⟨hm, hpost⟩
    have HM : Hid (Mv p w w1) := hm
    clear hm
    cases R with
    | none =>
      obtain ⟨v, hv, rfl⟩ := hpost
      have HV : Hid (IsPart v) := hv
      clear hv
      go_wp2_with fail
      go_ret2
      exact ⟨HM.out, _, HV.out, rfl⟩
    | some q =>
      obtain ⟨t, a'⟩ := q
      obtain ⟨rfl, hr⟩ := hpost
      have HR : Hid (RdI w1 p s a' d) := hr
      clear hr
      go_wp2_with fail
      go_ret2
      exact ⟨HM.out, rfl, HR.out⟩
  rw [if_neg h40]
  have e40 : (bt s a == 40) = false := by simp [h40]
  cases hf : figB (bt s a)
  · rw [if_neg (by simp)]
    have HRW : Hid (Calls Tryz.prog 235 #[.pointer (some ⟨p, 0, none⟩), .func (Fn.func 164) #[] #[]] w fun e w' => e = .returned (.string (s.extract a (wordTo s a))) ∧ w' = w.setCell ⟨p, 0, none⟩ (.string (tl s (wordTo s a)))) := runWord_rd p s a d w h hs ha
    have hxz : (s.extract a (wordTo s a)).size ≤ maxLen := by have := extract_le s a (wordTo s a); unfold maxLen; omega
    have HNM : Hid (∀ w, Calls Tryz.prog 121 #[.string (s.extract a (wordTo s a))] w fun e w' => e = .returned (.bool (nmB (s.extract a (wordTo s a)))) ∧ w' = w) := fun w => implNameOk_any _ w hxz
    clear h hg hC hxz
    generalize wordTo s a = b at *
    generalize s.extract a b = y at *
    cases hn : nmB y
    · rw [hn] at HNM
      rw [if_neg (by decide)]
      go_enter Tryz.func212, Tryz.ntmps212
      go_wp2_with (first | (go_at_call 203; refine (isFigure_is hf _).mono ?_; rintro e w' ⟨rfl, hw'⟩; rw [hw']; clear hw' w') | (go_at_call 235; refine HRW.out.mono ?_; rintro e w1 ⟨rfl, hw1⟩; have H1 : Hid (RdI w1 p s b d) := (by rw [hw1]; exact H.out.at b); have M1 : Hid (Mv p w w1) := (by rw [hw1]; exact (Mv.refl p w).cell _ _); clear hw1 HRW c0) | (go_at_call 121; refine (HNM.out _).mono ?_; rintro e w' ⟨rfl, hw'⟩; rw [hw']; clear hw' w'))
      go_ret2
      exact ⟨M1.out, _, partV_is (.name y), rfl⟩
    · rw [hn] at HNM
      rw [if_pos rfl]
      go_enter Tryz.func212, Tryz.ntmps212
      go_wp2_with (first | (go_at_call 203; refine (isFigure_is hf _).mono ?_; rintro e w' ⟨rfl, hw'⟩; rw [hw']; clear hw' w') | (go_at_call 235; refine HRW.out.mono ?_; rintro e w1 ⟨rfl, hw1⟩; have H1 : Hid (RdI w1 p s b d) := (by rw [hw1]; exact H.out.at b); have M1 : Hid (Mv p w w1) := (by rw [hw1]; exact (Mv.refl p w).cell _ _); clear hw1 HRW c0) | (go_at_call 121; refine (HNM.out _).mono ?_; rintro e w' ⟨rfl, hw'⟩; rw [hw']; clear hw' w'))
      go_ret2
      exact ⟨M1.out, rfl, H1.out⟩
  · rw [if_pos rfl]
    have HW : Hid (Calls Tryz.prog 234 #[.pointer (some ⟨p, 0, none⟩)] w fun e w' => RdPost p s d w (numberC s a) e w') := number_rd p s a d w h hs (by omega) hf
    generalize numberC s a = R at *
    clear h hg hC
    go_enter Tryz.func212, Tryz.ntmps212
    go_wp2_with (first | (go_at_call 203; refine (isFigure_is hf _).mono ?_; rintro e w' ⟨rfl, hw'⟩; rw [hw']; clear hw' w'))
    refine HW.out.mono ?_
    rintro e w1 ⟨hm, hpost⟩
    have HM : Hid (Mv p w w1) := hm
    clear hm
    cases R with
    | none =>
      obtain ⟨v, hv, rfl⟩ := hpost
      have HV : Hid (IsPart v) := hv
      clear hv
      go_wp2_with fail
      go_ret2
      exact ⟨HM.out, _, HV.out, rfl⟩
    | some q =>
      obtain ⟨t, a'⟩ := q
      obtain ⟨rfl, hr⟩ := hpost
      have HR : Hid (RdI w1 p s a' d) := hr
      clear hr
      go_wp2_with fail
      go_ret2
      exact ⟨HM.out, rfl, HR.out⟩

theorem minus_at (s : ByteArray) (k : Nat) : hasAt s k (sgI 3) = decide (bt s k = 45) := by
  have e : sgI 3 = ⟨#[45]⟩ := rfl
  by_cases h : bt s k = 45
  · rw [decide_eq_true h]
    have := bt_lt h (by decide)
    refine hasAt_of (by show k + 1 ≤ s.size; omega) (fun j hj => ?_)
    have h1 : j < 1 := hj
    have : j = 0 := by omega
    subst this; rw [Nat.add_zero, h]; decide
  · rw [decide_eq_false h]
    cases e : hasAt s k (sgI 3) with
    | false => rfl
    | true => exact absurd ((hasAt_bt e (j := 0) (by decide)).trans (by decide)) h
theorem bang_at (s : ByteArray) (k : Nat) : hasAt s k (sgI 4) = decide (bt s k = 33) := by
  by_cases h : bt s k = 33
  · rw [decide_eq_true h]
    have := bt_lt h (by decide)
    refine hasAt_of (by show k + 1 ≤ s.size; omega) (fun j hj => ?_)
    have h1 : j < 1 := hj
    have : j = 0 := by omega
    subst this; rw [Nat.add_zero, h]; decide
  · rw [decide_eq_false h]
    cases e : hasAt s k (sgI 4) with
    | false => rfl
    | true => exact absurd ((hasAt_bt e (j := 0) (by decide)).trans (by decide)) h
theorem aheadC_at (s : ByteArray) (d n a : Nat) : aheadC (CC s) s d (n + 1) a = if bt s (skipTo s a) = 45 then (match aheadC (CC s) s d n (skipTo s a + 1) with | none => none | some (t, a') => some (.ahead 3 t, a'))
    else if bt s (skipTo s a) = 33 then (match aheadC (CC s) s d n (skipTo s a + 1) with | none => none | some (t, a') => some (.ahead 4 t, a')) else singleC (CC s) s (skipTo s a) d := rfl

set_option maxHeartbeats 1600000 in
set_option maxRecDepth 100000 in
theorem ahead_rd (p : Nat) (s : ByteArray) (d : Nat) (hp : p ≠ 0) (hs : s.size ≤ 1048576) (hd : d ≤ 6) : ∀ (n a : Nat) (w : World), s.size - a < n → RdI w p s a d → Signs w → a ≤ s.size → ClimbAt s a →
    Calls Tryz.prog 182 #[.pointer (some ⟨p, 0, none⟩)] w fun e w' => RdPost p s d w (aheadC (CC s) s d n a) e w' := by
  intro n
  induction n with
  | zero => intro a w hn; omega
  | succ n ih =>
    intro a w hn h hg ha hC
    have H : Hid (RdI w p s a d) := h
    have HG : Hid (Signs w) := hg
    have HC : Hid (ClimbAt s a) := hC
    have hsk := skipTo_le ha
    obtain ⟨R, hR⟩ : ∃ R, aheadC (CC s) s d (n + 1) a = R := ⟨_, rfl⟩
    have HRR : Hid (aheadC (CC s) s d (n + 1) a = R) := hR
    rw [hR]
    rw [aheadC_at] at hR
    obtain ⟨b, hb⟩ : ∃ b, skipTo s a = b := ⟨_, rfl⟩
    rw [hb] at hR hsk
    have HB : Hid (skipTo s a = b) := hb
    have HR2 : Hid ((if bt s b = 45 then (match aheadC (CC s) s d n (b + 1) with | none => none | some (t, a') => some (.ahead 3 t, a')) else if bt s b = 33 then (match aheadC (CC s) s d n (b + 1) with | none => none | some (t, a') => some (.ahead 4 t, a')) else singleC (CC s) s b d) = R) := hR
    have HIH : Hid (∀ (w : World), b < s.size → RdI w p s (b + 1) d → Signs w → Calls Tryz.prog 182 #[.pointer (some ⟨p, 0, none⟩)] w fun e w' => RdPost p s d w (aheadC (CC s) s d n (b + 1)) e w') := fun w hlt h1 h2 =>
      ih (b + 1) w (by omega) h1 h2 (by omega) (fun p' l' b' d' w' q1 q2 => hC p' l' b' d' w' q1 (by omega))
    have HSG : Hid (∀ (w : World), RdI w p s b d → Signs w → Calls Tryz.prog 212 #[.pointer (some ⟨p, 0, none⟩)] w fun e w' => RdPost p s d w (singleC (CC s) s b d) e w') := fun w h1 h2 =>
      single_rd p s b d w hp h1 h2 hs (by omega) hd (fun p' l' b' d' w' q1 q2 => hC p' l' b' d' w' q1 (by omega))
    clear h hg hC hR hb ih HRR
    go_enter Tryz.func182, Tryz.ntmps182
    go_wp2_with fail
    refine (skipBlanks_rd p s a d w H.out hs ha).mono ?_
    rintro e w1 ⟨rfl, hw1⟩
    rw [HB.out] at hw1
    have H1 : Hid (RdI w1 p s b d) := by rw [hw1]; exact H.out.at b
    have M1 : Hid (Mv p w w1) := by rw [hw1]; exact (Mv.refl p w).cell _ _
    clear hw1
    go_wp2_with fail
    go_loopw [4] (fun i wr => ∃ k : Nat, 3 ≤ k ∧ k ≤ 5 ∧ i = .int .i64 k ∧ Hid ((3 < k → bt s b ≠ 45) ∧ (4 < k → bt s b ≠ 33)) ∧ Hid (RdI wr p s b d) ∧ Hid (Mv p w wr)) (fun i _ => 5 - (intOf i).toNat)
    case atStart => exact ⟨3, by omega, by omega, rfl, ⟨fun h => by omega, fun h => by omega⟩, H1.out, M1.out⟩
    case round =>
      obtain ⟨k, hk3, hk5, rfl, HN, HR, HM⟩ := hrel
      by_cases hlt : k < 5
      · have c0 := HR.out.c0
        have hgs := HG.out.mv hp HM.out
        obtain ⟨g0, g1⟩ := hgs k (by omega)
        have hsz : (sgI k).size ≤ 1048576 := by have := sgI_size k; omega
        have HP : Hid (∀ w, Calls Tryz.prog 211 #[.string (tl s b), .string (sgI k)] w fun e w' => e = .returned (.bool (hasAt s b (sgI k))) ∧ w' = w) := fun w => hasPrefix_any s (sgI k) b w hs hsz hsk.2
        have HHK : Hid (hasAt s b (sgI k) = decide (bt s b = if k = 3 then 45 else 33)) := by
          show hasAt s b (sgI k) = _
          have : k = 3 ∨ k = 4 := by omega
          rcases this with rfl | rfl
          · rw [minus_at]; rfl
          · rw [bang_at]; rfl
        have hs1 : (sgI k).size = 1 := by
          have : k = 3 ∨ k = 4 := by omega
          rcases this with rfl | rfl <;> rfl
        have HGS : Hid (Signs wr) := hgs
        generalize sgI k = y at *
        clear g1 hsz hgs
        cases hh : hasAt s b y
        · rw [hh] at HP
          go_wp2_with fail
          go_quiet ((go_at_call 211; exact Calls.quiet_of_same (HP.out _)))
          go_wp2_with fail
          go_roundw
          case rel => exact ⟨k + 1, by omega, by omega, by go_num, by
              have h1 := HHK.out
              rw [hh] at h1
              have h2 := of_decide_eq_false h1.symm
              have : k = 3 ∨ k = 4 := by omega
              rcases this with rfl | rfl
              · exact ⟨fun _ => by simpa using h2, fun h => by omega⟩
              · exact ⟨fun _ => HN.out.1 (by omega), fun _ => by simpa using h2⟩, HR.out.drewN _, HM.out.drewN _⟩
          case measure => simp [intOf]; omega
        · rw [hh] at HP
          have hbk : bt s b = if k = 3 then 45 else 33 := of_decide_eq_true (HHK.out.symm.trans hh)
          have hblt : b < s.size := bt_lt hbk (by split <;> decide)
          have hRk : R = match aheadC (CC s) s d n (b + 1) with | none => none | some (t, a') => some (.ahead k t, a') := by
            rw [← HR2.out]
            have : k = 3 ∨ k = 4 := by omega
            rcases this with rfl | rfl
            · rw [if_pos (by simpa using hbk)]; rfl
            · have h33 : bt s b = 33 := by simpa using hbk
              rw [if_neg (by omega), if_pos h33]; rfl
          have HRk : Hid (R = match aheadC (CC s) s d n (b + 1) with | none => none | some (t, a') => some (.ahead k t, a')) := hRk
          have HSK : Hid (∀ w, RdI w p s b d → Calls Tryz.prog 184 #[.pointer (some ⟨p, 0, none⟩), .int .i64 (1 : Nat)] w fun e w' => e = .returned (.tuple #[]) ∧ w' = w.setCell ⟨p, 0, none⟩ (.string (tl s (b + 1)))) := fun w h => skip_rd p s b d 1 w h hs (by omega)
          clear hbk hRk HR2 HHK
          go_wp2_with fail
          go_quiet ((go_at_call 211; exact Calls.quiet_of_same (HP.out _)))
          go_wp2_with fail
          refine (HSK.out _ (HR.out.drewN _)).mono ?_
          rintro e w2 ⟨rfl, hw2⟩
          have H2 : Hid (RdI w2 p s (b + 1) d) := by rw [hw2]; exact (HR.out.drewN _).at (b + 1)
          have M2 : Hid (Mv p w w2) := by rw [hw2]; exact (HM.out.drewN _).cell _ _
          have G2 : Hid (Signs w2) := HG.out.mv hp M2.out
          clear hw2 HP c0 g0 hh hs1
          go_wp2_with fail
          refine (HIH.out w2 hblt H2.out G2.out).mono ?_
          rintro e w3 ⟨hm3, hpost⟩
          have M3 : Hid (Mv p w w3) := M2.out.trans hm3
          clear hm3 HIH HSG
          generalize aheadC (CC s) s d n (b + 1) = Q at *
          cases Q with
          | none =>
            obtain ⟨v, hv, rfl⟩ := hpost
            have hRn : R = none := HRk.out
            subst hRn
            rcases hv with rfl | ⟨tv, xv, rfl⟩
            · go_wp2_with fail
              go_ret2
              exact ⟨M3.out, _, .inr ⟨_, _, rfl⟩, rfl⟩
            · go_wp2_with fail
              go_ret2
              exact ⟨M3.out, _, .inr ⟨_, _, rfl⟩, rfl⟩
          | some q =>
            obtain ⟨t, a'⟩ := q
            obtain ⟨rfl, hr3⟩ := hpost
            have hRs : R = some (.ahead k t, a') := HRk.out
            have H3 : Hid (RdI w3 p s a' d) := hr3
            subst hRs
            obtain ⟨tv, xv, hpv⟩ : ∃ tv xv, partV t = .iface tv xv := by cases t <;> exact ⟨_, _, rfl⟩
            have HPV : Hid (partV t = .iface tv xv) := hpv
            rw [hpv]
            clear hr3 HRk hpv
            go_wp2_with fail
            go_ret2
            exact ⟨M3.out, by rw [partV, HPV.out]; rfl, H3.out⟩
      · have hRk : R = singleC (CC s) s b d := by
          rw [← HR2.out, if_neg (HN.out.1 (by omega)), if_neg (HN.out.2 (by omega))]
        have G2 : Hid (Signs wr) := HG.out.mv hp HM.out
        clear HR2 HIH
        go_wp2_with fail
        refine (HSG.out wr HR.out G2.out).mono ?_
        rintro e w3 ⟨hm3, hpost⟩
        rw [← hRk] at hpost
        have M3 : Hid (Mv p w w3) := HM.out.trans hm3
        clear hm3 HSG hRk
        cases R with
        | none =>
          obtain ⟨v, hv, rfl⟩ := hpost
          have HV : Hid (IsPart v) := hv
          clear hv
          go_wp2_with fail
          go_ret2
          exact ⟨M3.out, _, HV.out, rfl⟩
        | some q =>
          obtain ⟨t, a'⟩ := q
          obtain ⟨rfl, hr⟩ := hpost
          have HRR : Hid (RdI w3 p s a' d) := hr
          clear hr
          go_wp2_with fail
          go_ret2
          exact ⟨M3.out, rfl, HRR.out⟩
end Go.Proofs.YtchemhjcknkbgaaGreatDoor

/- The program's reader: climbing. -/
namespace Go.Proofs.YtchemhjcknkbgaaGreatDoor
open Go Go.RowKit Go.PlainAid
set_option linter.unusedSimpArgs false
set_option linter.unusedVariables false

theorem loopC_at (s : ByteArray) (least : Int) (d n : Nat) (t : Tree) (a : Nat) : loopC (CC s) s least d (n + 1) t a = if pairAt s (skipTo s a) = 0 ∨ lvl (pairAt s (skipTo s a)) < least then some (t, skipTo s a)
    else thenC (fun r a' => loopC (CC s) s least d n (.pair (pairAt s (skipTo s a)) t r) a') (CC s (lvl (pairAt s (skipTo s a)) + 1) (skipTo s a + (sg (pairAt s (skipTo s a))).size) d) := by
  conv => lhs; unfold loopC
  split
  · rfl
  · cases CC s (lvl (pairAt s (skipTo s a)) + 1) (skipTo s a + (sg (pairAt s (skipTo s a))).size) d with
    | none => rfl
    | some q => rfl
theorem CC_then (s : ByteArray) (least : Int) (a d : Nat) : CC s least a d = thenC (fun t a' => loopC (CC s) s least d (s.size - a' + 1) t a') (aheadC (CC s) s d (s.size - a + 1) a) := by
  rw [CC_eq]
  cases aheadC (CC s) s d (s.size - a + 1) a with
  | none => rfl
  | some q => rfl
theorem partV_form (t : Tree) : ∃ tv xv, partV t = .iface tv xv := by cases t <;> exact ⟨_, _, rfl⟩

set_option maxHeartbeats 1600000 in
set_option maxRecDepth 100000 in
theorem climb_rd (s : ByteArray) (hs : s.size ≤ 1048576) : ∀ (f : Nat) (p : Nat) (least : Int) (a d : Nat) (w : World), s.size - a < f → p ≠ 0 → a ≤ s.size → d ≤ 6 → 1 ≤ least → least ≤ 6 → RdI w p s a d → Signs w →
    Calls Tryz.prog 137 #[.pointer (some ⟨p, 0, none⟩), .int .i64 least] w fun e w' => RdPost p s d w (CC s least a d) e w' := by
  intro f
  induction f with
  | zero => intro p least a d w hf; omega
  | succ f ih =>
    intro p least a d w hf hp ha hd hl1 hl6 h hg
    have hC : ClimbAt s a := fun p' l' b' d' w' q1 q2 q3 q4 q5 q6 q7 q8 => ih p' l' b' d' w' (by omega) q1 q3 q4 q5 q6 q7 q8
    have H : Hid (RdI w p s a d) := h
    have HG : Hid (Signs w) := hg
    have HC : Hid (ClimbAt s a) := hC
    obtain ⟨R, hR⟩ : ∃ R, CC s least a d = R := ⟨_, rfl⟩
    rw [hR]
    rw [CC_then] at hR
    have HA : Hid (Calls Tryz.prog 182 #[.pointer (some ⟨p, 0, none⟩)] w fun e w' => RdPost p s d w (aheadC (CC s) s d (s.size - a + 1) a) e w') := ahead_rd p s d hp hs hd (s.size - a + 1) a w (by omega) h hg ha hC
    have hadv : ∀ t a', aheadC (CC s) s d (s.size - a + 1) a = some (t, a') → a ≤ a' ∧ (a ≤ s.size → a' ≤ s.size) := fun t a' h => advC_ahead (advCC s) _ _ h
    have HADV : Hid (∀ t a', aheadC (CC s) s d (s.size - a + 1) a = some (t, a') → a ≤ a' ∧ (a ≤ s.size → a' ≤ s.size)) := hadv
    clear h hg hC ih hadv
    generalize aheadC (CC s) s d (s.size - a + 1) a = Q at *
    have HRR : Hid (thenC (fun t a' => loopC (CC s) s least d (s.size - a' + 1) t a') Q = R) := hR
    clear hR
    go_enter Tryz.func137, Tryz.ntmps137
    go_wp2_with fail
    refine HA.out.mono ?_
    rintro e w1 ⟨hm1, hpost⟩
    have M1 : Hid (Mv p w w1) := hm1
    clear hm1 HA
    cases Q with
    | none =>
      obtain ⟨v, hv, rfl⟩ := hpost
      have hRn : R = none := HRR.out.symm
      subst hRn
      go_wp2_with fail
      go_ret2
      exact ⟨M1.out, _, .inl rfl, rfl⟩
    | some q =>
      obtain ⟨t0, a0⟩ := q
      obtain ⟨rfl, hr1⟩ := hpost
      have hL : loopC (CC s) s least d (s.size - a0 + 1) t0 a0 = R := HRR.out
      have HL : Hid (loopC (CC s) s least d (s.size - a0 + 1) t0 a0 = R) := hL
      have H1 : Hid (RdI w1 p s a0 d) := hr1
      obtain ⟨ha1, ha2⟩ := HADV.out t0 a0 rfl
      have ha3 := ha2 ha
      clear hr1 hL HRR HADV ha2
      go_wp2_with fail
      go_loopw [6] (fun v wr => ∃ (t : Tree) (b : Nat), v = partV t ∧ a ≤ b ∧ b ≤ s.size ∧ Hid (loopC (CC s) s least d (s.size - b + 1) t b = R) ∧ Hid (RdI wr p s b d) ∧ Hid (Mv p w wr)) (fun _ wr => match wr.cell? ⟨p, 0, none⟩ with | some (.string x) => x.size | _ => 0)
      case atStart => exact ⟨t0, a0, rfl, ha1, ha3, HL.out, H1.out, M1.out⟩
      case round =>
        obtain ⟨t, b, rfl, hab, hbs, HLb, HR, HM⟩ := hrel
        have hms : (match wr.cell? ⟨p, 0, none⟩ with | some (.string x) => x.size | _ => 0) = s.size - b := by rw [HR.out.c0]; exact tl_size s b
        have HMS : Hid ((match wr.cell? ⟨p, 0, none⟩ with | some (.string x) => x.size | _ => 0) = s.size - b) := hms
        have hsk := skipTo_le hbs
        have hL := HLb.out
        rw [loopC_at] at hL
        obtain ⟨tv, xv, hpv⟩ := partV_form t
        have HPV : Hid (partV t = .iface tv xv) := hpv
        rw [hpv]
        have GR : Hid (Signs wr) := HG.out.mv hp HM.out
        have HNP : Hid (Calls Tryz.prog 183 #[.pointer (some ⟨p, 0, none⟩)] wr fun e w' => e = .returned (.tuple #[.int .i64 (pairAt s (skipTo s b)), .bool (!(pairAt s (skipTo s b) == 0))]) ∧ RdI w' p s (skipTo s b) d ∧ Mv p wr w') := nextPair_rd p s b d wr hp HR.out GR.out hs hbs
        have hpl : pairAt s (skipTo s b) ≠ 0 → skipTo s b + (sg (pairAt s (skipTo s b))).size ≤ s.size ∧ 1 ≤ (sg (pairAt s (skipTo s b))).size ∧ 5 ≤ pairAt s (skipTo s b) ∧ pairAt s (skipTo s b) ≤ 13 := fun h => ⟨(pair_lt h).1, (pair_lt h).2.1, (pairAt_is h).1.1, (pairAt_is h).1.2⟩
        generalize skipTo s b = c at *
        generalize pairAt s c = k at *
        have HLL : Hid ((if k = 0 ∨ lvl k < least then some (t, c) else thenC (fun r a' => loopC (CC s) s least d (s.size - b) (.pair k t r) a') (CC s (lvl k + 1) (c + (sg k).size) d)) = R) := hL
        clear hL hpv hms HLb
        by_cases hk0 : k = 0
        · subst hk0
          have hRs : R = some (t, c) := by rw [← HLL.out, if_pos (.inl rfl)]
          subst hRs
          go_wp2_with (go_at_call 183; refine HNP.out.mono ?_; rintro e w2 ⟨rfl, hr2, hm2⟩; have H2 : Hid (RdI w2 p s c d) := hr2; have M2 : Hid (Mv p w w2) := HM.out.trans hm2; clear hr2 hm2)
          go_ret2
          exact ⟨M2.out, by rw [HPV.out]; rfl, H2.out⟩
        · obtain ⟨hp1, hp2, hp3, hp4⟩ := hpl hk0
          have e0 : (k == 0) = false := by simp [hk0]
          have HGK : Hid (∀ w2, Mv p w w2 → w2.cell? ⟨0, k * 2, none⟩ = some (.string (sg k)) ∧ w2.cell? ⟨0, k * 2 + 1, none⟩ = some (.int .i64 (lvl k))) := fun w2 hm2 => by
            have := (HG.out.mv hp hm2) k (by omega)
            have e1 : sgI k = sg k := by unfold sgI; rw [if_neg (by omega), if_neg (by omega)]
            have e2 : tgI k = lvl k := by unfold tgI; rw [if_neg (by omega), if_pos (by omega)]
            rw [e1, e2] at this
            exact this
          have hlv := lvl_range k
          rw [e0] at HNP
          clear hpl
          by_cases hlow : lvl k < least
          · have hRs : R = some (t, c) := by rw [← HLL.out, if_pos (.inr hlow)]
            subst hRs
            generalize lvl (k : Int) = lv at *
            go_wp2_with (go_at_call 183; refine HNP.out.mono ?_; rintro e w2 ⟨rfl, hr2, hm2⟩; have H2 : Hid (RdI w2 p s c d) := hr2; have M2 : Hid (Mv p w w2) := HM.out.trans hm2; clear hr2 hm2; obtain ⟨g0, g1⟩ := HGK.out w2 M2.out)
            go_ret2
            exact ⟨M2.out, by rw [HPV.out]; rfl, H2.out⟩
          · have HLT : Hid (thenC (fun r a' => loopC (CC s) s least d (s.size - b) (.pair k t r) a') (CC s (lvl k + 1) (c + (sg k).size) d) = R) := by
              show thenC _ _ = R
              rw [← HLL.out, if_neg (by omega)]
            have HCL : Hid (∀ w3, RdI w3 p s (c + (sg k).size) d → Signs w3 → Calls Tryz.prog 137 #[.pointer (some ⟨p, 0, none⟩), .int .i64 (lvl k + 1)] w3 fun e w' => RdPost p s d w3 (CC s (lvl k + 1) (c + (sg k).size) d) e w') := fun w3 h3 g3 =>
              HC.out p (lvl k + 1) (c + (sg k).size) d w3 hp (by omega) hp1 hd (by omega) (by omega) h3 g3
            have HADV : Hid (∀ r a', CC s (lvl k + 1) (c + (sg k).size) d = some (r, a') → c + (sg k).size ≤ a' ∧ a' ≤ s.size) := fun r a' h => ⟨(advCC s _ _ _ _ _ h).1, (advCC s _ _ _ _ _ h).2 hp1⟩
            have HSK : Hid (∀ w2, RdI w2 p s c d → Calls Tryz.prog 184 #[.pointer (some ⟨p, 0, none⟩), .int .i64 (sg k).size] w2 fun e w' => e = .returned (.tuple #[]) ∧ w' = w2.setCell ⟨p, 0, none⟩ (.string (tl s (c + (sg k).size)))) := fun w2 h2 => skip_rd p s c d (sg k).size w2 h2 hs hp1
            clear HLL
            generalize lvl (k : Int) = lv at *
            have hlv1 := hlv.1
            have hlv2 := hlv.2
            clear hlv
            generalize sg k = y at *
            generalize CC s (lv + 1) (c + y.size) d = Q at *
            go_wp2_with (first | (go_at_call 183; refine HNP.out.mono ?_; rintro e w2 ⟨rfl, hr2, hm2⟩; have H2 : Hid (RdI w2 p s c d) := hr2; have M2 : Hid (Mv p w w2) := HM.out.trans hm2; clear hr2 hm2; obtain ⟨g0, g1⟩ := HGK.out w2 M2.out) | (go_at_call 184; refine (HSK.out _ H2.out).mono ?_; rintro e w3 ⟨rfl, hw3⟩; have H3 : Hid (RdI w3 p s (c + y.size) d) := (by rw [hw3]; exact H2.out.at _); have M3 : Hid (Mv p w w3) := (by rw [hw3]; exact M2.out.cell _ _); clear hw3 g0 g1; obtain ⟨g0, g1⟩ := HGK.out w3 M3.out))
            refine (HCL.out w3 H3.out (HG.out.mv hp M3.out)).mono ?_
            rintro e w4 ⟨hm4, hpost⟩
            have M4 : Hid (Mv p w w4) := M3.out.trans hm4
            clear hm4 g0 g1 HNP HSK HCL
            cases Q with
            | none =>
              obtain ⟨v, hv, rfl⟩ := hpost
              have hRn : R = none := HLT.out.symm
              subst hRn
              go_wp2_with fail
              go_ret2
              exact ⟨M4.out, _, .inl rfl, rfl⟩
            | some q =>
              obtain ⟨r, a'⟩ := q
              obtain ⟨rfl, hr4⟩ := hpost
              obtain ⟨hv1, hv2⟩ := HADV.out r a' rfl
              have H4 : Hid (RdI w4 p s a' d) := hr4
              have HLn : Hid (loopC (CC s) s least d (s.size - a' + 1) (.pair k t r) a' = R) := by
                show loopC _ _ _ _ _ _ _ = R
                rw [← HLT.out]
                exact fuelLoopC s least d _ _ _ _ (by omega) (by omega)
              obtain ⟨tr, xr, hpr⟩ := partV_form r
              have HPR : Hid (partV r = .iface tr xr) := hpr
              rw [hpr]
              clear hr4 hpr HLT HADV
              go_wp2_with fail
              go_roundw
              case rel => exact ⟨.pair k t r, a', by rw [partV, HPV.out, HPR.out], by omega, hv2, HLn.out, H4.out, M4.out⟩
              case measure =>
                have e1 : (match w4.cell? ⟨p, 0, none⟩ with | some (.string x) => x.size | _ => 0) = s.size - a' := by rw [H4.out.c0]; exact tl_size s a'
                have e2 := HMS.out
                show (match w4.cell? ⟨p, 0, none⟩ with | some (.string x) => x.size | _ => 0) < (match wr.cell? ⟨p, 0, none⟩ with | some (.string x) => x.size | _ => 0)
                rw [e1, e2]
                omega
end Go.Proofs.YtchemhjcknkbgaaGreatDoor
