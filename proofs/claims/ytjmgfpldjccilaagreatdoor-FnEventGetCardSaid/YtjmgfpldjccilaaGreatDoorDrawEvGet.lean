/- Drawn texts of events. -/
import Derived.Test.YtjmgfpldjccilaaGreatDoorDrawEv
import Derived.Test.YtjmgfpldjccilaaGreatDoorCodes
import Derived.Test.YtjmgfpldjccilaaGreatDoorEvPutM
import Derived.Test.YtjmgfpldjccilaaGreatDoorBentS
import Derived.Test.YtjmgfpldjccilaaGreatDoorOneAt
namespace Go.Proofs.YtjmgfpldjccilaaGreatDoor
open Go Go.RowKit Go.PlainAid
set_option linter.unusedSimpArgs false
set_option linter.unusedVariables false

theorem putE_size (e : Ev) : (bt8 (putE e)).size ≤ 80 := by
  unfold putE
  by_cases h : okE e = true
  · rw [if_pos h, bt8_size]; exact evT_len (okE_iff.1 h)
  · rw [if_neg h]; decide
theorem app_no {p q r : List UInt8} (hq : q ≠ []) (hn : NoB 32 q) : p ++ q ≠ r ++ [32] := by
  intro h
  have e : q.dropLast ++ [q.getLast hq] = q := List.dropLast_concat_getLast hq
  rw [← e, ← List.append_assoc] at h
  have h2 := (List.append_inj' h rfl).2
  have h3 : q.getLast hq = 32 := by simpa using h2
  exact hn (h3 ▸ List.getLast_mem hq)
theorem evT_end {e : Ev} (h : OkE e) (r : List UInt8) : evT e ≠ r ++ [32] := by
  unfold evT tailT
  by_cases h7 : e.1 = 7
  · rw [if_pos h7]
    rw [show wd e.1 ++ 32 :: (Lib.itoa e.2.1 ++ 32 :: Lib.itoa e.2.2.1) = (wd e.1 ++ 32 :: (Lib.itoa e.2.1 ++ [32])) ++ Lib.itoa e.2.2.1 by simp]
    exact app_no (itoa_ne _) (itoa_noB _)
  · rw [if_neg h7]
    by_cases h0 : e.2.2.2 = []
    · rw [if_pos h0]
      rw [show wd e.1 ++ 32 :: (Lib.itoa e.2.1 ++ []) = (wd e.1 ++ [32]) ++ Lib.itoa e.2.1 by simp]
      exact app_no (itoa_ne _) (itoa_noB _)
    · rw [if_neg h0]
      rw [show wd e.1 ++ 32 :: (Lib.itoa e.2.1 ++ 32 :: valsT e.2.2.2) = (wd e.1 ++ 32 :: (Lib.itoa e.2.1 ++ [32])) ++ valsT e.2.2.2 by simp]
      exact app_no (valsT_ne h0) (valsT_no 32 (.inl (by decide)) _)

set_option maxHeartbeats 3200000 in
set_option maxRecDepth 100000 in
theorem DrawEventGet_any (a0 : Option Addr) (n c : Nat) (bs : List Int) (w : World) (hc : n ≤ c) (hn : n ≤ 1048576) (hz : IsBytes w.heap.size w a0 n bs) :
    Calls Tryz.prog 8 #[.slice a0 n c] w fun e w' => ∃ s, e = .returned (.string s) ∧ s.size ≤ 83 ∧ Below w.heap.size w w' := by
  have HO := hidOf (l11Open_any a0 n c bs w hc hn hz)
  clear hz
  go_enter Tryz.func8, Tryz.ntmps8
  go_wp2_with fail
  refine HO.out.mono ?_
  rintro e w1 ⟨a', n', c', bs', rfl, hr, hb, hs⟩
  have HB := hidOf hb
  have HE := hidOf (l31Event_any w.heap.size a' n' c' bs' 0 w1 (by decide) hr)
  clear hr hb
  go_wp2_with fail
  refine HE.out.mono ?_
  rintro e w2 ⟨K, T, M, a2, n2, c2, l, k2, rfl, hf, hcc, hnn, hr2, hk2, hm2⟩
  have hz2 := hm2.size
  have HF := hidOf hf.1
  have HR2 := hidOf hr2
  have HM2 := hidOf hm2
  have HP := hidOf (specEventPut_any w2.heap.size K T M a2 n2 c2 l w2 (Nat.le_refl _) (by omega) HF.out)
  clear hf hr2 hm2
  go_wp2_with fail
  refine HP.out.mono ?_
  rintro e w3 ⟨rfl, hb3⟩
  have HR3 := hidOf (HR2.out.below hb3)
  have HM3 := hidOf (HM2.out.trans (Mv.of_below hb3))
  obtain ⟨s, hs'⟩ : ∃ s, bt8 (putE (K, T, M, l)) = s := ⟨_, rfl⟩
  have hsz : s.size ≤ 80 := by rw [← hs']; exact putE_size _
  rw [hs']
  clear hb3 hs'
  go_wp2_with fail
  refine (pick_mv w.heap.size a' n' c' bs' k2 2 w3 (by omega) (by omega) HR3.out).mono ?_
  rintro e w4 ⟨v, rfl, hv0, hv1, hr4, hm4⟩
  have HM4 := hidOf (HM3.out.trans hm4)
  have HR4 := hidOf hr4
  clear hr4 hm4 hv1
  by_cases h0 : v = 0
  · subst h0
    go_wp2_with fail
    go_ret
    exact ⟨s, rfl, by omega, Mv.fresh HB.out HM4.out⟩
  · have h0b : (v == 0) = false := by simp [h0]
    go_wp2_with fail
    refine (l11Bent_any w.heap.size a' n' c' bs' (k2 + 1) s w4 (by omega) (by omega) HR4.out).mono ?_
    rintro e w5 ⟨y, k5, rfl, hy, hk5, hr5, hm5⟩
    have HM5 := hidOf (HM4.out.trans hm5)
    clear hr5 hm5
    go_wp2_with fail
    go_ret
    exact ⟨y, rfl, by omega, Mv.fresh HB.out HM5.out⟩
end Go.Proofs.YtjmgfpldjccilaaGreatDoor
