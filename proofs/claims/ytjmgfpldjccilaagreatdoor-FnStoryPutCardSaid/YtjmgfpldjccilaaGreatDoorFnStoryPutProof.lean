/- For every code of bytes the law FnStoryPut returns true: a drawn story is written as the model writes it, and, where it is written, read back. The one condition is the row's own: the package-level variables hold what the program's text lays (tied by the card). -/
import Derived.Test.YtjmgfpldjccilaaGreatDoorEvLaidG
import Derived.Test.YtjmgfpldjccilaaGreatDoorReadI
import Derived.Test.YtjmgfpldjccilaaGreatDoorStoryGetM
import Derived.Test.YtjmgfpldjccilaaGreatDoorStoryPutM
import Derived.Test.YtjmgfpldjccilaaGreatDoorStTt
import Derived.Test.YtjmgfpldjccilaaGreatDoorDrawSt
import Derived.OpenShut
import Derived.ChangeOld
namespace Go.Proofs.YtjmgfpldjccilaaGreatDoor.fnStoryPut
open Go Go.ChangeShapes Go.WideShapes Go.ChangeAt Go.RowKit Go.Deep Go.PlainAid
set_option linter.unusedVariables false
set_option linter.unusedSimpArgs false

set_option maxHeartbeats 6400000 in
set_option maxRecDepth 100000 in
theorem walk (a0 : Option Addr) (n c : Nat) (bs : List Int) (w : World) (hw : TbG w) (hc : n ≤ c) (hm : c ≤ maxLen) (hz : IsBytes w.heap.size w a0 n bs) :
    Calls Tryz.prog 4 #[.slice a0 n c] w fun e w' => e = .returned (.bool true) ∧ Below w.heap.size w w' := by
  unfold maxLen at hm
  by_cases hbig : 1048576 < n
  · have hbig' : (1048576 : Int) < n := by omega
    clear hz
    go_enter Tryz.func4, Tryz.ntmps4
    go_wp2_with fail
    go_ret
    exact ⟨rfl, Below.refl _ _⟩
  have hbig' : ¬ (1048576 : Int) < n := by omega
  have HD := hidOf (DrawStoryPut_any a0 n c bs w hc (by omega) hz)
  have HW := hidOf (fun W (hb : Below w.heap.size w W) => hw.up hb)
  clear hz hw
  go_enter Tryz.func4, Tryz.ntmps4
  go_wp2_with fail
  refine HD.out.mono ?_
  rintro e w1 ⟨a1, c1, D, rfl, hD, hl3, hz1, hb1⟩
  have HB1 := hidOf hb1
  have HF := hidOf (few_of hl3)
  have HZ1 := hidOf hz1
  have HI1 := hidOf (implStoryPut_any w1.heap.size a1 D.length c1 D w1 (HW.out w1 hb1).put (Nat.le_refl _) (by omega) (few_of hl3) hz1)
  have HSP : Hid (∀ W, Below w1.heap.size w1 W → Calls Tryz.prog 15 #[.slice a1 D.length c1] W fun e w' => e = .returned (.string (bt8 (putS D))) ∧ Below W.heap.size W w') := fun W hb => specStoryPut_any W.heap.size a1 D.length c1 D W (Nat.le_refl _) (by omega) HF.out (HZ1.out.up hb)
  have hsz := putS_size hD
  obtain ⟨P, hP⟩ : ∃ P, bt8 (putS D) = P := ⟨_, rfl⟩
  rw [hP] at HI1 HSP hsz
  have HP := hidOf hP
  clear hz1 hb1 hl3 hP
  by_cases he : P = ⟨#[]⟩
  · subst he
    go_wp2_with fail
    refine HI1.out.mono ?_
    rintro e w2 ⟨rfl, hb2⟩
    have HB2 := hidOf (HB1.out.trans (hb2.mono HB1.out.size))
    have HQ2 := hidOf hb2
    have HS2 := hidOf (HSP.out w2 hb2)
    clear hb2
    go_wp2_with fail
    refine HS2.out.mono ?_
    rintro e w3 ⟨rfl, hb3⟩
    have HB3 := hidOf (HB2.out.trans (hb3.mono HB2.out.size))
    have HS3 := hidOf (HSP.out w3 (HQ2.out.trans (hb3.mono HQ2.out.size)))
    clear hb3
    go_wp2_with fail
    refine HS3.out.mono ?_
    rintro e w4 ⟨rfl, hb4⟩
    have HB4 := hidOf (HB3.out.trans (hb4.mono HB3.out.size))
    clear hb4
    go_wp2_with fail
    go_ret
    exact ⟨rfl, HB4.out⟩
  · have hemp : P.toList.isEmpty = false := by
      rw [Lib.toList_data]
      cases h : P.data.toList with
      | nil => exact absurd (by rw [← bt8_of P, h]; rfl) he
      | cons _ _ => rfl
    have HG : Hid (GotS P D true) := by
      have hk : okS D = true := by
        cases hk : okS D with
        | true => rfl
        | false => exact absurd (by rw [← HP.out]; unfold putS; rw [hk]; rfl) he
      refine .inl ⟨rfl, okS_OkS.1 hk, ?_⟩
      rw [← HP.out]; unfold putS; rw [hk]; rfl
    clear he
    go_wp2_with fail
    refine HI1.out.mono ?_
    rintro e w2 ⟨rfl, hb2⟩
    have HB2 := hidOf (HB1.out.trans (hb2.mono HB1.out.size))
    have HQ2 := hidOf hb2
    have HS2 := hidOf (HSP.out w2 hb2)
    clear hb2
    go_wp2_with fail
    refine HS2.out.mono ?_
    rintro e w3 ⟨rfl, hb3⟩
    have HB3 := hidOf (HB2.out.trans (hb3.mono HB2.out.size))
    have HQ3 := hidOf (HQ2.out.trans (hb3.mono HQ2.out.size))
    have HGT := hidOf (implStoryGet_any P w3 (HW.out w3 HB3.out) (by omega))
    clear hb3
    go_wp2_with fail
    refine HGT.out.mono ?_
    rintro e w4 ⟨a4, c4, D4, b4, cs4, rfl, hg4, ho4, hb4⟩
    obtain ⟨h1, h2⟩ := HG.out.same hg4
    subst h1
    subst h2
    obtain ⟨a5, c5, e5, hz4⟩ := ho4.evs
    cases e5
    have HB4 := hidOf (HB3.out.trans (hb4.mono HB3.out.size))
    have HTT := hidOf (ttEvents_same w4.heap.size a4 a1 D.length c4 c1 D w4 (by omega) (Nat.le_refl _) HF.out hz4 (HZ1.out.up (HQ3.out.trans (hb4.mono HQ3.out.size))))
    clear hb4 hg4 ho4 hz4
    go_wp2_with fail
    refine HTT.out.mono ?_
    rintro e w5 ⟨rfl, hb5⟩
    have HB5 := hidOf (HB4.out.trans (hb5.mono HB4.out.size))
    clear hb5
    go_wp2_with fail
    go_ret
    exact ⟨rfl, HB5.out⟩

/-! ### THE ROW's STEP -/
set_option maxRecDepth 100000 in
theorem lifted (os : Os) (started : os.Started) (H : Type) (enc : TypeId × Value → H) :
    ReturnsInHanded {} Tryz.checked os 4 .any (fun w args => (Rows.fnStoryPutSpec.pre enc Tryz.prog Tryz.f4 Rows.fnStoryPutRow.domain false w args ∧ laidMetH Tryz.prog laidG w) ∧ sizedMet enc Tryz.prog Tryz.f4 (OpenSpec.ofChange Rows.fnStoryPutSpec) false w args)
      (Rows.fnStoryPutSpec.post enc Tryz.prog Tryz.f4 false true false false) := by
  refine stepG (C := Tryz.checked) (l := laidG) own started (by kernel_rfl) Tryz.func4
    (ChangeSpec.witness_shaped (enc := enc) (C := Tryz.checked) (os := os) (X := fun w _ => laidMetH Tryz.prog laidG w) false (World.laidAll Tryz.prog os laidG) #[.slice none 0 0] 8 (World.laidAll_os _ _ _)
      (shapedG os _) (by kernel_rfl) (by kernel_rfl) (by kernel_rfl) (metG os _)) ?_
  intro W base args ds gs before hval0 hW hL hSH
  have hval : ∀ (j : Nat) t v, Tryz.f4.params[j]? = some t → args[j]? = some v → Value.okWide Tryz.prog W .any base t v := hval0
  have hW' := hW
  obtain ⟨p, q, hA0, hV, rfl, hfz, hnd⟩ := hW
  have hA : DataW.TrodAll enc Tryz.prog W 0 (fun _ => true) true Tryz.f4.params.toList args.toList ds p := hA0
  rw [Tryz.params4] at hA hval
  obtain ⟨v0, d0, rfl, rfl, h0⟩ := trodAll_one hA
  have hV0 := hV
  obtain ⟨g, t, cs, fuel, gd, pp, rfl, _⟩ := trodVars_one hV0
  have k0 := h0
  have lt0 : ∀ x ∈ p, x.block < W.heap.size := by obtain ⟨m, hm⟩ := k0; exact DataW.trod_lt m _ _ _ hm
  obtain ⟨a0, len0, cap0, rfl⟩ := okWide_slice Tryz.underlying22 (hval 0 22 v0 rfl rfl)
  obtain ⟨fuel0, hf0⟩ := h0
  obtain ⟨hc0, hm0, bs, w0⟩ := open_code rfl hf0
  clear hA0 hval0
  refine (walk a0 len0 cap0 bs W (tabsG_of hL hSH) hc0 hm0 w0).mono fun e W' ⟨he, bel⟩ => ?_
  subst he
  exact ⟨_, rfl, _, _, _, [], _, _, hW', trodAll_mk1 (shut_bool Tryz.underlying4 _), trodAll_mk1 (Below.trod laidOut (by kernel_rfl) (of_decide_eq_true (by kernel_rfl)) k0 bel lt0), Below.trodVars laidOut bel (by kernel_rfl) hV, bel.frame _, fun h => by cases h⟩

theorem over : Rows.FnStoryPutSaid :=
  OpenClaim.holds_of_wide 4 Tryz.f4 rfl rfl rfl rfl rfl rfl rfl ⟨rfl, rfl, rfl, rfl, rfl⟩ rfl rfl rfl rfl rfl (by kernel_rfl) Tryz.func4 (by kernel_rfl)
    (of_decide_eq_true (by kernel_rfl)) (by unfold Func.isWrapper; first | (rw [if_pos (by decide +kernel)]; kernel_rfl) | (rw [if_neg (by decide +kernel)]; exact ⟨rfl, rfl⟩))
    (fun os started H enc _ => lifted os started H enc)

theorem proved : Rows.FnStoryPutCardSaid :=
  Claim7.holds_tied_plain_at .later [] [.data, .data, .data, .data, .sentinel, .sentinel, .data, .pinned] true Rows.fnStoryPutCard.stood.harness true over (fun _ h => by cases h) (by kernel_rfl) (fun _ h => by cases h) fnStoryPut_row_tie rfl ⟨rfl, rfl⟩ (by kernel_rfl) rfl
    (fun f fn hf hfn => by
      obtain rfl : f = 4 := Option.some.inj ((show Tryz.prog.funcNamed "loop.example/telltale/laws.FnStoryPut" = some 4 by kernel_rfl).symm.trans hf) |>.symm
      obtain rfl : fn = Tryz.f4 := (Option.some.inj (Tryz.func4.symm.trans hfn)).symm
      exact ⟨by kernel_rfl, fun j t ht => by
        rw [Tryz.params4] at ht
        have hm : t ∈ [22] := by simpa using Array.mem_of_getElem? ht
        have hall : ([22].all fun u => !Tryz.prog.wantsStandIn u) = true := by kernel_rfl
        exact (show Tryz.prog.wantsStandIn t = false by simpa using List.all_eq_true.1 hall t hm)⟩)
    (by kernel_rfl)
#print axioms proved
end Go.Proofs.YtjmgfpldjccilaaGreatDoor.fnStoryPut
