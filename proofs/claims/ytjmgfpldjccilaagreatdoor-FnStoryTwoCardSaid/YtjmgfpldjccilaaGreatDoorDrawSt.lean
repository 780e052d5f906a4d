/- Drawn stories, drawn texts of stories. -/
import Derived.Test.YtjmgfpldjccilaaGreatDoorDrawStory
import Derived.Test.YtjmgfpldjccilaaGreatDoorBentS
import Derived.Test.YtjmgfpldjccilaaGreatDoorStoryPutM
import Derived.Test.YtjmgfpldjccilaaGreatDoorCodes
namespace Go.Proofs.YtjmgfpldjccilaaGreatDoor
open Go Go.RowKit Go.PlainAid
set_option linter.unusedSimpArgs false
set_option linter.unusedVariables false

set_option maxHeartbeats 1600000 in
set_option maxRecDepth 100000 in
theorem DrawStoryPut_any (a0 : Option Addr) (n c : Nat) (bs : List Int) (w : World) (hc : n ≤ c) (hn : n ≤ 1048576) (hz : IsBytes w.heap.size w a0 n bs) :
    Calls Tryz.prog 13 #[.slice a0 n c] w fun e w' => ∃ a c D, e = .returned (.slice a D.length c) ∧ D.length ≤ 30 ∧ (∀ x ∈ D, x.2.2.2.length ≤ 3) ∧ IsEvs w'.heap.size w' a D.length D ∧ Below w.heap.size w w' := by
  have HO := hidOf (l11Open_any a0 n c bs w hc hn hz)
  clear hz
  go_enter Tryz.func13, Tryz.ntmps13
  go_wp2_with fail
  refine HO.out.mono ?_
  rintro e w1 ⟨a', n', c', bs', rfl, hr, hb, hs⟩
  have HB := hidOf hb
  have HE := hidOf (l31Story_any w.heap.size a' n' c' bs' 0 w1 (by decide) hr)
  clear hr hb
  go_wp2_with fail
  refine HE.out.mono ?_
  rintro e w2 ⟨ao, co, D, cs, k2, rfl, hD, hl3, ho, hk2, hr2, hm2⟩
  have HB2 := hidOf (Mv.fresh HB.out hm2)
  obtain ⟨a3, c3, e3, hz3⟩ := ho.evs
  cases e3
  have HZ := hidOf hz3
  have HL := hidOf hl3
  clear hz3 ho hr2 hm2 hl3
  go_wp2_with fail
  go_ret
  exact ⟨ao, co, D, rfl, hD, HL.out, HZ.out, HB2.out⟩
theorem few_of {D : List Ev} (h : ∀ x ∈ D, x.2.2.2.length ≤ 3) : ∀ x ∈ D, FewEv x := fun x hx => by have := h x hx; unfold FewEv; omega
theorem putS_size {D : List Ev} (h : D.length ≤ 30) : (bt8 (putS D)).size ≤ 2430 := by
  rw [bt8_size]
  cases hk : okS D with
  | false => unfold putS; rw [hk]; simp
  | true =>
    obtain ⟨h1, h2⟩ := okS_iff.1 hk
    rw [putS_yes h1 h2]
    have := storyT_len h2
    omega

set_option maxHeartbeats 1600000 in
set_option maxRecDepth 100000 in
theorem DrawStoryGet_any (a0 : Option Addr) (n c : Nat) (bs : List Int) (w : World) (hc : n ≤ c) (hn : n ≤ 1048576) (hz : IsBytes w.heap.size w a0 n bs) :
    Calls Tryz.prog 18 #[.slice a0 n c] w fun e w' => ∃ s, e = .returned (.string s) ∧ s.size ≤ 2500 ∧ Below w.heap.size w w' := by
  have HO := hidOf (l11Open_any a0 n c bs w hc hn hz)
  clear hz
  go_enter Tryz.func18, Tryz.ntmps18
  go_wp2_with fail
  refine HO.out.mono ?_
  rintro e w1 ⟨a', n', c', bs', rfl, hr, hb, hs⟩
  have HB := hidOf hb
  have HE := hidOf (l31Story_any w.heap.size a' n' c' bs' 0 w1 (by decide) hr)
  clear hr hb
  go_wp2_with fail
  refine HE.out.mono ?_
  rintro e w2 ⟨ao, co, D, cs, k2, rfl, hD, hl3, ho, hk2, hr2, hm2⟩
  have HM2 := hidOf hm2
  have HR2 := hidOf hr2
  obtain ⟨a3, c3, e3, hz3⟩ := ho.evs
  cases e3
  have hw2 := hm2.size
  have HP := hidOf (specStoryPut_any w2.heap.size ao D.length co D w2 (Nat.le_refl _) (by omega) (few_of hl3) hz3)
  have hsz := putS_size hD
  obtain ⟨P, hP⟩ : ∃ P, bt8 (putS D) = P := ⟨_, rfl⟩
  rw [hP] at HP hsz
  clear hz3 ho hr2 hm2 hl3 hP
  go_wp2_with fail
  refine HP.out.mono ?_
  rintro e w3 ⟨rfl, hb3⟩
  have HR3 := hidOf (HR2.out.below hb3)
  have HM3 := hidOf (HM2.out.trans (Mv.of_below hb3))
  clear hb3
  go_wp2_with fail
  refine (pick_mv w.heap.size a' n' c' bs' k2 2 w3 (by omega) (by omega) HR3.out).mono ?_
  rintro e w4 ⟨v, rfl, hv0, hv1, hr4, hm4⟩
  have HM4 := hidOf (HM3.out.trans hm4)
  have HR4 := hidOf hr4
  clear hr4 hm4 hv1
  by_cases h0 : v = 0
  · subst h0
    go_wp2_with fail
    go_ret
    exact ⟨P, rfl, by omega, Mv.fresh HB.out HM4.out⟩
  · have h0b : (v == 0) = false := by simp [h0]
    go_wp2_with fail
    refine (l11Bent_any w.heap.size a' n' c' bs' (k2 + 1) P w4 (by omega) (by omega) HR4.out).mono ?_
    rintro e w5 ⟨y, k5, rfl, hy, hk5, hr5, hm5⟩
    have HM5 := hidOf (HM4.out.trans hm5)
    clear hr5 hm5
    go_wp2_with fail
    go_ret
    exact ⟨y, rfl, by omega, Mv.fresh HB.out HM5.out⟩
end Go.Proofs.YtjmgfpldjccilaaGreatDoor
