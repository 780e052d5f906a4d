/- For all two codes of bytes the law FnStoryTwo returns true: a story behind another one is both. The one condition is the row's own: the package-level variables hold what the program's text lays (tied by the card). -/
import Derived.Test.YtjmgfpldjccilaaGreatDoorEvLaidG
import Derived.Test.YtjmgfpldjccilaaGreatDoorAppEvs
import Derived.Test.YtjmgfpldjccilaaGreatDoorStTt
import Derived.Test.YtjmgfpldjccilaaGreatDoorDrawSt
import Derived.OpenShut
import Derived.ChangeOld
namespace Go.Proofs.YtjmgfpldjccilaaGreatDoor.fnStoryTwo
open Go Go.ChangeShapes Go.WideShapes Go.ChangeAt Go.RowKit Go.Deep Go.PlainAid
set_option linter.unusedVariables false
set_option linter.unusedSimpArgs false

theorem ok80 {s : ByteArray} {D : List Ev} {b : Bool} (h : GotS s D b) : D.length ≤ 80 := by
  rcases h with ⟨_, h, _⟩ | ⟨_, h, _⟩
  · exact h.1
  · rw [h]; decide
theorem fewS {s : ByteArray} {D : List Ev} {b : Bool} (h : GotS s D b) : ∀ x ∈ D, FewEv x := by
  rcases h with ⟨_, h, _⟩ | ⟨_, h, _⟩
  · intro x hx
    rcases (h.2 x hx).push with h | h
    · unfold FewEv; rw [h]; decide
    · have := h.2.1; unfold FewEv; omega
  · intro x hx; rw [h] at hx; simp at hx
theorem both {s t : ByteArray} {A B : List Ev} (hA : GotS s A true) (hB : GotS t B true) (h : A.length + B.length ≤ 80) : GotS (s ++ t) (A ++ B) true := by
  rcases hA with ⟨_, a1, a2⟩ | ⟨h, _⟩
  · rcases hB with ⟨_, b1, b2⟩ | ⟨h, _⟩
    · refine .inl ⟨rfl, ⟨by rw [List.length_append]; exact h, fun x hx => ?_⟩, ?_⟩
      · rcases List.mem_append.1 hx with hx | hx
        · exact a1.2 x hx
        · exact b1.2 x hx
      · rw [a2, b2, storyT_app, bt8_app]
    · exact absurd h (by decide)
  · exact absurd h (by decide)

set_option maxHeartbeats 12800000 in
set_option maxRecDepth 100000 in
theorem walk (a0 : Option Addr) (n c : Nat) (bs : List Int) (a0' : Option Addr) (n' c' : Nat) (bs' : List Int) (w : World) (hw : TbG w) (hc : n ≤ c) (hm : c ≤ maxLen) (hc' : n' ≤ c') (hm' : c' ≤ maxLen) (hz : IsBytes w.heap.size w a0 n bs) (hz' : IsBytes w.heap.size w a0' n' bs') :
    Calls Tryz.prog 6 #[.slice a0 n c, .slice a0' n' c'] w fun e w' => e = .returned (.bool true) ∧ Below w.heap.size w w' := by
  unfold maxLen at hm hm'
  by_cases hbig : 1048576 < n
  · have hbig' : (1048576 : Int) < n := by omega
    clear hz hz'
    go_enter Tryz.func6, Tryz.ntmps6
    go_wp2_with fail
    go_ret
    exact ⟨rfl, Below.refl _ _⟩
  have hbig' : ¬ (1048576 : Int) < n := by omega
  by_cases hbig2 : 1048576 < n'
  · have hbig2' : (1048576 : Int) < n' := by omega
    clear hz hz'
    go_enter Tryz.func6, Tryz.ntmps6
    go_wp2_with fail
    go_ret
    exact ⟨rfl, Below.refl _ _⟩
  have hbig2' : ¬ (1048576 : Int) < n' := by omega
  have HD := hidOf (DrawStoryGet_any a0 n c bs w hc (by omega) hz)
  have HD2 : Hid (∀ W, Below w.heap.size w W → Calls Tryz.prog 18 #[.slice a0' n' c'] W fun e w' => ∃ s, e = .returned (.string s) ∧ s.size ≤ 2500 ∧ Below W.heap.size W w') := fun W hb => DrawStoryGet_any a0' n' c' bs' W hc' (by omega) (by
    obtain ⟨h1, h2⟩ := hz'
    refine ⟨h1, ?_⟩
    rcases h2 with h2 | ⟨b, off, he, hlt, h3⟩
    · exact .inl h2
    · exact .inr ⟨b, off, he, Nat.lt_of_lt_of_le hlt hb.size, fun i hi => ⟨(hb.cell (p := ⟨b, off + i, none⟩) hlt).trans (h3 i hi).1, (h3 i hi).2⟩⟩)
  have HW := hidOf (fun W (hb : Below w.heap.size w W) => hw.up hb)
  clear hz hz' hw
  go_enter Tryz.func6, Tryz.ntmps6
  go_wp2_with fail
  refine HD.out.mono ?_
  rintro e w1 ⟨s, rfl, hs, hb1⟩
  have HB1 := hidOf hb1
  have HD3 := hidOf (HD2.out w1 hb1)
  clear hb1 HD HD2
  go_wp2_with fail
  refine HD3.out.mono ?_
  rintro e w2 ⟨t, rfl, ht, hb2⟩
  have HB2 := hidOf (HB1.out.trans (hb2.mono HB1.out.size))
  have HG2 := hidOf (implStoryGet_any s w2 (HW.out w2 HB2.out) (by omega))
  clear hb2 HD3
  go_wp2_with fail
  refine HG2.out.mono ?_
  rintro e w3 ⟨aA, cA, A, bA, csA, rfl, hgA, hoA, hb3⟩
  have HB3 := hidOf (HB2.out.trans (hb3.mono HB2.out.size))
  have HGA := hidOf hgA
  have HOA3 := hidOf hoA
  have HS3 := hidOf (specStoryGet_any s w3 (by omega))
  have hA80 := ok80 hgA
  have HFA := hidOf (fewS hgA)
  clear hb3 hgA hoA
  go_wp2_with fail
  refine HS3.out.mono ?_
  rintro e w4 ⟨aQ, cQ, Q, bQ, csQ, rfl, hgQ, hoQ, hb4⟩
  obtain ⟨h1, h2⟩ := HGA.out.same hgQ
  subst h1
  subst h2
  have HB4 := hidOf (HB3.out.trans (hb4.mono HB3.out.size))
  have HOA4 : Hid (OwnEv w2.heap.size w4.heap.size w4 (.slice aA A.length cA) A csA) := (HOA3.out.stays PEv.loc (Stay.of hb4) hb4.size).mono (Nat.le_refl _) hb4.size (Nat.le_refl _)
  obtain ⟨ax, cx, ex, hzQ⟩ := hoQ.evs
  cases ex
  have HZQ4 := hidOf hzQ
  have HG4 := hidOf (implStoryGet_any t w4 (HW.out w4 HB4.out) (by omega))
  clear hb4 hgQ hoQ hzQ
  go_wp2_with fail
  refine HG4.out.mono ?_
  rintro e w5 ⟨aB, cB, B, bB, csB, rfl, hgB, hoB, hb5⟩
  have HB5 := hidOf (HB4.out.trans (hb5.mono HB4.out.size))
  have HOA5 : Hid (OwnEv w2.heap.size w5.heap.size w5 (.slice aA A.length cA) A csA) := (HOA4.out.stays PEv.loc (Stay.of hb5) hb5.size).mono (Nat.le_refl _) hb5.size (Nat.le_refl _)
  have HOB5 := hidOf hoB
  have HGB := hidOf hgB
  have hB80 := ok80 hgB
  have HFB := hidOf (fewS hgB)
  obtain ⟨ax, cx, ex, hzA⟩ := HOA5.out.evs
  cases ex
  have HZA5 := hidOf hzA
  have HTT : Hid (∀ W, Below w5.heap.size w5 W → Calls Tryz.prog 17 #[.slice aA A.length cA, .slice aQ A.length cQ] W fun e w' => e = .returned (.bool true) ∧ Below W.heap.size W w') := by
    have hzq := HZQ4.out.up hb5
    exact fun W hb => ttEvents_same W.heap.size aA aQ A.length cA cQ A W (by omega) (Nat.le_refl _) HFA.out (HZA5.out.up hb) (hzq.up hb)
  have HT5 := hidOf (HTT.out w5 (Below.refl _ _))
  clear hb5 hgB hoB hzA
  cases bA with
  | false =>
    go_wp2_with fail
    refine HT5.out.mono ?_
    rintro e w6 ⟨rfl, hb6⟩
    have HB6 := hidOf (HB5.out.trans (hb6.mono HB5.out.size))
    have HT6 := hidOf (HTT.out w6 hb6)
    clear hb6
    go_wp2_with fail
    refine HT6.out.mono ?_
    rintro e w7 ⟨rfl, hb7⟩
    have HB7 := hidOf (HB6.out.trans (hb7.mono HB6.out.size))
    clear hb7
    go_wp2_with fail
    go_ret
    exact ⟨rfl, HB7.out⟩
  | true =>
    cases bB with
    | false =>
      go_wp2_with fail
      refine HT5.out.mono ?_
      rintro e w6 ⟨rfl, hb6⟩
      have HB6 := hidOf (HB5.out.trans (hb6.mono HB5.out.size))
      have HT6 := hidOf (HTT.out w6 hb6)
      clear hb6
      go_wp2_with fail
      refine HT6.out.mono ?_
      rintro e w7 ⟨rfl, hb7⟩
      have HB7 := hidOf (HB6.out.trans (hb7.mono HB6.out.size))
      clear hb7
      go_wp2_with fail
      go_ret
      exact ⟨rfl, HB7.out⟩
    | true =>
      have pw : IntKind.i64.wrap ((A.length : Int) + (B.length : Int)) = (A.length : Int) + (B.length : Int) := IntWalk.i64_in _ ⟨by omega, by omega⟩
      by_cases hsum : 80 < A.length + B.length
      · have hsumI : (80 : Int) < (A.length : Int) + (B.length : Int) := by omega
        go_wp2_with fail
        refine HT5.out.mono ?_
        rintro e w6 ⟨rfl, hb6⟩
        have HB6 := hidOf (HB5.out.trans (hb6.mono HB5.out.size))
        have HT6 := hidOf (HTT.out w6 hb6)
        clear hb6
        go_wp2_with fail
        refine HT6.out.mono ?_
        rintro e w7 ⟨rfl, hb7⟩
        have HB7 := hidOf (HB6.out.trans (hb7.mono HB6.out.size))
        clear hb7
        go_wp2_with fail
        go_ret
        exact ⟨rfl, HB7.out⟩
      have hsumI : ¬ (80 : Int) < (A.length : Int) + (B.length : Int) := by omega
      have HGAB := hidOf (both HGA.out HGB.out (by omega))
      have hc1 : ¬ 9223372036854775807 < s.size + t.size := by omega
      have hst : (s ++ t).size ≤ 1048576 := by rw [ByteArray.size_append]; omega
      go_wp2_with fail
      refine HT5.out.mono ?_
      rintro e w6 ⟨rfl, hb6⟩
      have HB6 := hidOf (HB5.out.trans (hb6.mono HB5.out.size))
      have HOA6 : Hid (OwnEv w2.heap.size w6.heap.size w6 (.slice aA A.length cA) A csA) := (HOA5.out.stays PEv.loc (Stay.of hb6) hb6.size).mono (Nat.le_refl _) hb6.size (Nat.le_refl _)
      have HOB6 : Hid (OwnEv w4.heap.size w6.heap.size w6 (.slice aB B.length cB) B csB) := (HOB5.out.stays PEv.loc (Stay.of hb6) hb6.size).mono (Nat.le_refl _) hb6.size (Nat.le_refl _)
      have HG6 := hidOf (implStoryGet_any (s ++ t) w6 (HW.out w6 HB6.out) hst)
      clear hb6
      go_wp2_with fail
      refine HG6.out.mono ?_
      rintro e w7 ⟨aX, cX, X, bX, csX, rfl, hgX, hoX, hb7⟩
      obtain ⟨h1, h2⟩ := HGAB.out.same hgX
      subst h1
      subst h2
      have HB7 := hidOf (HB6.out.trans (hb7.mono HB6.out.size))
      have hoA7 : OwnEv w2.heap.size w7.heap.size w7 (.slice aA A.length cA) A csA := (HOA6.out.stays PEv.loc (Stay.of hb7) hb7.size).mono (Nat.le_refl _) hb7.size (Nat.le_refl _)
      have hoB7 : OwnEv w4.heap.size w7.heap.size w7 (.slice aB B.length cB) B csB := (HOB6.out.stays PEv.loc (Stay.of hb7) hb7.size).mono (Nat.le_refl _) hb7.size (Nat.le_refl _)
      obtain ⟨ax, cx, ex, hzX⟩ := hoX.evs
      cases ex
      -- the row that is made, A put into it, B put into it
      have hal : Below w7.heap.size w7 (w7.alloc (.cells #[] 26)) := (Below.refl _ _).alloc (Nat.le_refl _) _
      have hoA8 : OwnEv w2.heap.size w7.heap.size (w7.alloc (.cells #[] 26)) (.slice aA A.length cA) A csA := hoA7.stays PEv.loc (Stay.of hal) hal.size
      have hoB8 : OwnEv w4.heap.size w7.heap.size (w7.alloc (.cells #[] 26)) (.slice aB B.length cB) B csB := hoB7.stays PEv.loc (Stay.of hal) hal.size
      obtain ⟨v1, W1, r1, o1, g1⟩ := append_evs (own_made_ev w7).row hal.size hoA8 (by simp; omega)
      have hb71 : Below w7.heap.size w7 W1 := hal.grown g1 hal.size (fun q hq => (World.ownsRow.lt (own_made_ev w7).row q hq).1)
      have hoB9 : OwnEv w4.heap.size w7.heap.size W1 (.slice aB B.length cB) B csB := hoB7.stays PEv.loc (Stay.of hb71) hb71.size
      obtain ⟨v2, W2, r2, o2, g2⟩ := append_evs o1 hb71.size hoB9 (by simp; omega)
      have hb72 : Below w7.heap.size w7 W2 := hb71.grown g2 hb71.size (fun q hq => (World.ownsRow.lt o1 q hq).1)
      have eA : ∀ i, (h : i < A.length) → (csA.getD i []).length = 4 ∧ QEv W2.heap.size W2 (csA.getD i []) A[i] := fun i hi => ⟨(hoA7.cells i hi).1, QEv.mono hb72.size _ _ (QEv.below hb72 _ _ (hoA7.cells i hi).2)⟩
      have eB : ∀ i, (h : i < B.length) → (csB.getD i []).length = 4 ∧ QEv W2.heap.size W2 (csB.getD i []) B[i] := fun i hi => ⟨(hoB7.cells i hi).1, QEv.mono hb72.size _ _ (QEv.below hb72 _ _ (hoB7.cells i hi).2)⟩
      obtain ⟨aY, cY, rfl, hzY⟩ := two_evs (by simpa using o2) hoA7.len hoB7.len eA eB
      have HB72 := hidOf (HB7.out.trans (hb72.mono HB7.out.size))
      have htx := (ttEvents_same W2.heap.size aX aY (A ++ B).length cX cY (A ++ B) W2 (by rw [List.length_append]; omega) (Nat.le_refl _) (fun x hx => by
        rcases List.mem_append.1 hx with hx | hx
        · exact HFA.out x hx
        · exact HFB.out x hx) (hzX.up hb72) hzY)
      rw [List.length_append] at htx r2
      have HTX := hidOf htx
      clear htx hb7 hgX hoX hoA7 hoB7 hzX hal hoA8 hoB8 o1 g1 hb71 hoB9 o2 g2 hb72 eA eB hzY
      go_wp2_with (at_builtin; first
        | (refine wpList_guarded (j := 1) (b := true) rfl (yieldsB (d := 83) rfl rfl) (fun K hK => wp_append_run (.tmp 85) (.tmp 86) 32 32 rfl rfl rfl rfl r1 (hK _ _ ?_)); clear hK K; clear r1)
        | (refine wpList_guarded (j := 1) (b := true) rfl (yieldsB (d := 83) rfl rfl) (fun K hK => wp_append_run (.tmp 87) (.tmp 88) 32 32 rfl rfl rfl rfl r2 (hK _ _ ?_)); clear hK K; clear r2))
      refine HTX.out.mono ?_
      rintro e w9 ⟨rfl, hb9⟩
      have HB9 := hidOf (HB72.out.trans (hb9.mono HB72.out.size))
      clear hb9
      go_wp2_with fail
      go_ret
      exact ⟨rfl, HB9.out⟩

/-! ### THE ROW's STEP -/
set_option maxRecDepth 100000 in
theorem lifted (os : Os) (started : os.Started) (H : Type) (enc : TypeId × Value → H) :
    ReturnsInHanded {} Tryz.checked os 6 .any (fun w args => (Rows.fnStoryTwoSpec.pre enc Tryz.prog Tryz.f6 Rows.fnStoryTwoRow.domain false w args ∧ laidMetH Tryz.prog laidG w) ∧ sizedMet enc Tryz.prog Tryz.f6 (OpenSpec.ofChange Rows.fnStoryTwoSpec) false w args)
      (Rows.fnStoryTwoSpec.post enc Tryz.prog Tryz.f6 false true false false) := by
  refine stepG (C := Tryz.checked) (l := laidG) own started (by kernel_rfl) Tryz.func6
    (ChangeSpec.witness_shaped (enc := enc) (C := Tryz.checked) (os := os) (X := fun w _ => laidMetH Tryz.prog laidG w) false (World.laidAll Tryz.prog os laidG) #[.slice none 0 0, .slice none 0 0] 8 (World.laidAll_os _ _ _)
      (shapedG os _) (by kernel_rfl) (by kernel_rfl) (by kernel_rfl) (metG os _)) ?_
  intro W base args ds gs before hval0 hW hL hSH
  have hval : ∀ (j : Nat) t v, Tryz.f6.params[j]? = some t → args[j]? = some v → Value.okWide Tryz.prog W .any base t v := hval0
  have hW' := hW
  obtain ⟨p, q, hA0, hV, rfl, hfz, hnd⟩ := hW
  have hA : DataW.TrodAll enc Tryz.prog W 0 (fun _ => true) true Tryz.f6.params.toList args.toList ds p := hA0
  rw [Tryz.params6] at hA hval
  obtain ⟨v0, vs0, d0, ds0, p0, q0, hargs, rfl, rfl, h0, r0⟩ := trodAll_cons hA
  obtain ⟨v1, vs1, d1, ds1, p1, q1, rfl, rfl, rfl, h1, r1⟩ := trodAll_cons r0
  obtain ⟨rfl, rfl, rfl⟩ := trodAll_nil r1
  obtain rfl : args = #[v0, v1] := by cases args; simp_all
  have hV0 := hV
  obtain ⟨g, t, cs, fuel, gd, pp, rfl, _⟩ := trodVars_one hV0
  have k0 := h0
  have lt0 : ∀ x ∈ p0, x.block < W.heap.size := by obtain ⟨m, hm⟩ := k0; exact DataW.trod_lt m _ _ _ hm
  have k1 := h1
  have lt1 : ∀ x ∈ p1, x.block < W.heap.size := by obtain ⟨m, hm⟩ := k1; exact DataW.trod_lt m _ _ _ hm
  obtain ⟨a0, len0, cap0, rfl⟩ := okWide_slice Tryz.underlying22 (hval 0 22 v0 rfl rfl)
  obtain ⟨a1, len1, cap1, rfl⟩ := okWide_slice Tryz.underlying22 (hval 1 22 v1 rfl rfl)
  obtain ⟨fuel0, hf0⟩ := h0
  obtain ⟨fuel1, hf1⟩ := h1
  obtain ⟨hc0, hm0, bs, w0⟩ := open_code rfl hf0
  obtain ⟨hc1, hm1, bs', w1⟩ := open_code rfl hf1
  clear hA0 hval0
  refine (walk a0 len0 cap0 bs a1 len1 cap1 bs' W (tabsG_of hL hSH) hc0 hm0 hc1 hm1 w0 w1).mono fun e W' ⟨he, bel⟩ => ?_
  subst he
  exact ⟨_, rfl, _, _, _, [], _, _, hW', trodAll_mk1 (shut_bool Tryz.underlying4 _), (trodAll_cons_mk (Below.trod laidOut (by kernel_rfl) (of_decide_eq_true (by kernel_rfl)) k0 bel lt0) (trodAll_cons_mk (Below.trod laidOut (by kernel_rfl) (of_decide_eq_true (by kernel_rfl)) k1 bel lt1) trodAll_mk0)), Below.trodVars laidOut bel (by kernel_rfl) hV, bel.frame _, fun h => by cases h⟩

theorem over : Rows.FnStoryTwoSaid :=
  OpenClaim.holds_of_wide 6 Tryz.f6 rfl rfl rfl rfl rfl rfl rfl ⟨rfl, rfl, rfl, rfl, rfl⟩ rfl rfl rfl rfl rfl (by kernel_rfl) Tryz.func6 (by kernel_rfl)
    (of_decide_eq_true (by kernel_rfl)) (by unfold Func.isWrapper; first | (rw [if_pos (by decide +kernel)]; kernel_rfl) | (rw [if_neg (by decide +kernel)]; exact ⟨rfl, rfl⟩))
    (fun os started H enc _ => lifted os started H enc)

theorem proved : Rows.FnStoryTwoCardSaid :=
  Claim7.holds_tied_plain_at .later [] [.data, .data, .data, .data, .sentinel, .sentinel, .data, .pinned] true Rows.fnStoryTwoCard.stood.harness true over (fun _ h => by cases h) (by kernel_rfl) (fun _ h => by cases h) fnStoryTwo_row_tie rfl ⟨rfl, rfl⟩ (by kernel_rfl) rfl
    (fun f fn hf hfn => by
      obtain rfl : f = 6 := Option.some.inj ((show Tryz.prog.funcNamed "loop.example/telltale/laws.FnStoryTwo" = some 6 by kernel_rfl).symm.trans hf) |>.symm
      obtain rfl : fn = Tryz.f6 := (Option.some.inj (Tryz.func6.symm.trans hfn)).symm
      exact ⟨by kernel_rfl, fun j t ht => by
        rw [Tryz.params6] at ht
        have hm : t ∈ [22, 22] := by simpa using Array.mem_of_getElem? ht
        have hall : ([22, 22].all fun u => !Tryz.prog.wantsStandIn u) = true := by kernel_rfl
        exact (show Tryz.prog.wantsStandIn t = false by simpa using List.all_eq_true.1 hall t hm)⟩)
    (by kernel_rfl)
#print axioms proved
end Go.Proofs.YtjmgfpldjccilaaGreatDoor.fnStoryTwo
