/- For every text the law FnExactStoryGet returns true: StoryGet of the program answers as the model's, and what it answers is its own. The one condition is the row's own: the package-level variables hold what the program's text lays (tied by the card). -/
import Derived.Test.YtjmgfpldjccilaaGreatDoorEvLaidG
import Derived.Test.YtjmgfpldjccilaaGreatDoorReadA
import Derived.Test.YtjmgfpldjccilaaGreatDoorStoryGetM
import Derived.Test.YtjmgfpldjccilaaGreatDoorEqEv
import Derived.Test.YtjmgfpldjccilaaGreatDoorMarkAll
import Derived.ShutString
import Derived.OpenShut
import Derived.ChangeOld
namespace Go.Proofs.YtjmgfpldjccilaaGreatDoor.fnExactStoryGet
open Go Go.ChangeShapes Go.WideShapes Go.ChangeAt Go.RowKit Go.Deep Go.PlainAid Go.ChangeMaps
set_option linter.unusedVariables false
set_option linter.unusedSimpArgs false

theorem got_few {s : ByteArray} {D : List Ev} {b : Bool} (h : GotS s D b) : D.length ≤ 80 ∧ ∀ x ∈ D, x.2.2.2.length ≤ 3 := by
  rcases h with ⟨_, h, _⟩ | ⟨_, h, _⟩
  · refine ⟨h.1, fun x hx => ?_⟩
    rcases (h.2 x hx).push with h | h
    · rw [h]; decide
    · exact h.2.1
  · rw [h]; exact ⟨by decide, fun x hx => by simp at hx⟩

set_option maxHeartbeats 6400000 in
set_option maxRecDepth 100000 in
theorem walk (s : ByteArray) (w : World) (hw : TbG w) :
    Calls Tryz.prog 7 #[.string s] w fun e w' => e = .returned (.bool true) ∧ Below w.heap.size w w' := by
  by_cases hbig : 1048576 < s.size
  · have hbig' : (1048576 : Int) < s.size := by omega
    go_enter Tryz.func7, Tryz.ntmps7
    go_wp2_with fail
    go_ret
    exact ⟨rfl, Below.refl _ _⟩
  have hbig' : ¬ (1048576 : Int) < s.size := by omega
  have HS := hidOf (fun W => specStoryGet_any s W (by omega))
  have HI := hidOf (fun W h => implStoryGet_anyO s W h (by omega))
  have HW := hidOf (fun W (hb : Below w.heap.size w W) => hw.up hb)
  clear hw
  go_enter Tryz.func7, Tryz.ntmps7
  go_wp2_with fail
  refine (HS.out w).mono ?_
  rintro e w1 ⟨a, c, D, b, cs, rfl, hg1, ho1, hb1⟩
  have hfew := got_few hg1
  have h80 := hfew.1
  have H3 := hidOf hfew.2
  have HF : Hid (∀ x ∈ D, FewEv x) := fun x hx => by have := hfew.2 x hx; unfold FewEv; omega
  have HG := hidOf hg1
  have HB1 := hidOf hb1
  obtain ⟨ax, cx, ex, hz1⟩ := ho1.evs
  cases ex
  have HZ1 := hidOf hz1
  have HI1 := hidOf (HI.out w1 (HW.out w1 hb1))
  have hmk : markN D ≤ 480 := by have := markN_le hfew.2; omega
  clear hb1 hg1 ho1 hz1 hfew
  go_wp2_with fail
  refine HI1.out.mono ?_
  rintro e w2 ⟨a2, c2, D2, b2, cs2, f2, rfl, hg2, ho2, hb2⟩
  obtain ⟨h1, h2⟩ := HG.out.same hg2
  subst h1
  subst h2
  have HB2 := hidOf (HB1.out.trans (hb2.mono HB1.out.size))
  have HQ2 : Hid (Below w1.heap.size w1 w2) := hb2
  obtain ⟨ax, cx, ex, hz2⟩ := OwnEv.evs ho2.un
  cases ex
  have HO2 := hidOf ho2
  have HE2 := hidOf (eqEventS_same w2.heap.size a2 a D.length c2 c D w2 (by omega) (Nat.le_refl _) HF.out hz2 (HZ1.out.up hb2))
  have hs12 := hb2.size
  have hbne : (b != b) = false := by simp
  clear hb2 hg2 ho2 hz2
  go_wp2_with fail
  refine HE2.out.mono ?_
  rintro e w3 ⟨rfl, hb3⟩
  have HB3 := hidOf (HB2.out.trans (hb3.mono HB2.out.size))
  have HQ3 : Hid (Below w1.heap.size w1 w3) := HQ2.out.trans (hb3.mono hs12)
  have hs3 := hb3.size
  have HO3 : Hid (OwnEvO w1.heap.size w2.heap.size w3 (.slice a2 D.length c2) D cs2 f2) := HO2.out.stay1 PEv.loc (Stay.of hb3) hb3.size
  have HM3 := hidOf (mark_all HO3.out (by omega) h80 H3.out)
  clear hb3
  go_wp2_with fail
  refine HM3.out.mono ?_
  rintro e w4 ⟨rfl, hb4, hh4⟩
  have HB4 := hidOf (HB3.out.trans (hb4.mono HB1.out.size))
  have HQ4 : Hid (Below w1.heap.size w1 w4) := HQ3.out.trans hb4
  have HH4 := hidOf hh4
  have HD4 := hidOf (hh4 w4 (Below.refl _ _))
  obtain ⟨m, hm⟩ : ∃ m : Int, 1 + (markN D : Int) = m := ⟨_, rfl⟩
  rw [hm] at HD4 HH4 ⊢
  have hm0 : ¬ m < 0 := by omega
  have hmm : (m != m) = false := by simp
  clear hb4 hh4 hm
  go_wp2_with fail
  refine HD4.out.mono ?_
  rintro e w5 ⟨rfl, hb5⟩
  have HB5 := hidOf (HB4.out.trans (hb5.mono HB4.out.size))
  have HQ5 : Hid (Below w1.heap.size w1 w5) := HQ4.out.trans (hb5.mono HQ4.out.size)
  have HK5 := hidOf hb5
  have HI5 := hidOf (HI.out w5 (HW.out w5 HB5.out))
  clear hb5
  go_wp2_with fail
  refine HI5.out.mono ?_
  rintro e w6 ⟨a6, c6, D6, b6, cs6, f6, rfl, hg6, ho6, hb6⟩
  obtain ⟨h1, h2⟩ := HG.out.same hg6
  subst h1
  subst h2
  have HB6 := hidOf (HB5.out.trans (hb6.mono HB5.out.size))
  have HQ6 : Hid (Below w1.heap.size w1 w6) := HQ5.out.trans (hb6.mono HQ5.out.size)
  have HK6 := hidOf (HK5.out.trans (hb6.mono HK5.out.size))
  obtain ⟨ax, cx, ex, hz6⟩ := OwnEv.evs ho6.un
  cases ex
  have HE6 := hidOf (eqEventS_same w6.heap.size a6 a D.length c6 c D w6 (by omega) (Nat.le_refl _) HF.out hz6 (HZ1.out.up HQ6.out))
  clear hb6 hg6 ho6 hz6
  go_wp2_with fail
  refine HE6.out.mono ?_
  rintro e w7 ⟨rfl, hb7⟩
  have HB7 := hidOf (HB6.out.trans (hb7.mono HB6.out.size))
  have HD7 := hidOf (HH4.out w7 (HK6.out.trans (hb7.mono HK6.out.size)))
  clear hb7
  go_wp2_with fail
  refine HD7.out.mono ?_
  rintro e w8 ⟨rfl, hb8⟩
  have HB8 := hidOf (HB7.out.trans (hb8.mono HB7.out.size))
  clear hb8
  go_wp2_with fail
  go_ret
  exact ⟨rfl, HB8.out⟩

set_option maxRecDepth 100000 in
theorem lifted (os : Os) (started : os.Started) (H : Type) (enc : TypeId × Value → H) :
    ReturnsInHanded {} Tryz.checked os 7 .any (fun w args => (Rows.fnExactStoryGetSpec.pre enc Tryz.prog Tryz.f7 Rows.fnExactStoryGetRow.domain false w args ∧ laidMetH Tryz.prog laidG w) ∧ sizedMet enc Tryz.prog Tryz.f7 (OpenSpec.ofChange Rows.fnExactStoryGetSpec) false w args)
      (Rows.fnExactStoryGetSpec.post enc Tryz.prog Tryz.f7 false true false false) := by
  refine stepG (C := Tryz.checked) (l := laidG) own started (by kernel_rfl) Tryz.func7
    (ChangeSpec.witness_shaped (enc := enc) (C := Tryz.checked) (os := os) (X := fun w _ => laidMetH Tryz.prog laidG w) false (World.laidAll Tryz.prog os laidG) #[.string ⟨#[]⟩] 8 (World.laidAll_os _ _ _)
      (shapedG os _) (by kernel_rfl) (by kernel_rfl) (by kernel_rfl) (metG os _)) ?_
  intro W base args ds gs before hval0 hW hL hSH
  have hval : ∀ (j : Nat) t v, Tryz.f7.params[j]? = some t → args[j]? = some v → Value.okWide Tryz.prog W .any base t v := hval0
  have hW' := hW
  obtain ⟨p, q, hA0, hV, rfl, hfz, hnd⟩ := hW
  have hA : DataW.TrodAll enc Tryz.prog W 0 (fun _ => true) true Tryz.f7.params.toList args.toList ds p := hA0
  rw [Tryz.params7] at hA hval
  obtain ⟨v0, d0, rfl, rfl, h0⟩ := trodAll_one hA
  have hV0 := hV
  obtain ⟨g, t, cs, fuel, gd, pp, rfl, _⟩ := trodVars_one hV0
  have k0 := h0
  have lt0 : ∀ x ∈ p, x.block < W.heap.size := by obtain ⟨m, hm⟩ := k0; exact DataW.trod_lt m _ _ _ hm
  obtain ⟨s0, rfl, rfl, rfl, hs0⟩ := open_string Tryz.underlying9 (hval 0 9 v0 rfl rfl) h0
  clear hA0 hval0
  refine (walk s0 W (tabsG_of hL hSH)).mono fun e W' ⟨he, bel⟩ => ?_
  subst he
  exact ⟨_, rfl, _, _, _, [], _, _, hW', trodAll_mk1 (shut_bool Tryz.underlying4 _), trodAll_mk1 (Below.trod laidOut (by kernel_rfl) (of_decide_eq_true (by kernel_rfl)) k0 bel lt0), Below.trodVars laidOut bel (by kernel_rfl) hV, bel.frame _, fun h => by cases h⟩

theorem over : Rows.FnExactStoryGetSaid :=
  OpenClaim.holds_of_wide 7 Tryz.f7 rfl rfl rfl rfl rfl rfl rfl ⟨rfl, rfl, rfl, rfl, rfl⟩ rfl rfl rfl rfl rfl (by kernel_rfl) Tryz.func7 (by kernel_rfl)
    (of_decide_eq_true (by kernel_rfl)) (by unfold Func.isWrapper; first | (rw [if_pos (by decide +kernel)]; kernel_rfl) | (rw [if_neg (by decide +kernel)]; exact ⟨rfl, rfl⟩))
    (fun os started H enc _ => lifted os started H enc)

theorem proved : Rows.FnExactStoryGetCardSaid :=
  Claim7.holds_tied_plain_at .later [] [.data, .data, .data, .data, .sentinel, .sentinel, .data, .pinned] true Rows.fnExactStoryGetCard.stood.harness true over (fun _ h => by cases h) (by kernel_rfl) (fun _ h => by cases h) fnExactStoryGet_row_tie rfl ⟨rfl, rfl⟩ (by kernel_rfl) rfl
    (fun f fn hf hfn => by
      obtain rfl : f = 7 := Option.some.inj ((show Tryz.prog.funcNamed "loop.example/telltale/laws.FnExactStoryGet" = some 7 by kernel_rfl).symm.trans hf) |>.symm
      obtain rfl : fn = Tryz.f7 := (Option.some.inj (Tryz.func7.symm.trans hfn)).symm
      exact ⟨by kernel_rfl, fun j t ht => by
        rw [Tryz.params7] at ht
        have hm : t ∈ [9] := by simpa using Array.mem_of_getElem? ht
        have hall : ([9].all fun u => !Tryz.prog.wantsStandIn u) = true := by kernel_rfl
        exact (show Tryz.prog.wantsStandIn t = false by simpa using List.all_eq_true.1 hall t hm)⟩)
    (by kernel_rfl)
#print axioms proved
end Go.Proofs.YtjmgfpldjccilaaGreatDoor.fnExactStoryGet
