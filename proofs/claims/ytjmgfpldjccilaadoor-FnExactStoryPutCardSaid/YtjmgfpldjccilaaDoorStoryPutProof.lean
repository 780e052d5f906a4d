/- For every list of events the law FnExactStoryPut returns true: StoryPut of the program answers as the model's, and the list reads as before. The one condition is the row's own: the package-level variables hold what the program's text lays (tied by the card). -/
import Derived.Test.YtjmgfpldjccilaaDoorEvArrSz
import Derived.Test.YtjmgfpldjccilaaDoorEvArrTo
import Derived.Test.YtjmgfpldjccilaaDoorEvArrEq
import Derived.Test.YtjmgfpldjccilaaDoorStoryPutI
import Derived.Test.YtjmgfpldjccilaaDoorStoryPutM
import Derived.Test.YtjmgfpldjccilaaDoorEvLaidP
import Derived.ChangeOld
namespace Go.Proofs.YtjmgfpldjccilaaDoor.fnExactStoryPut
open Go Go.ChangeShapes Go.WideShapes Go.ChangeAt Go.RowKit Go.Deep Go.PlainAid
set_option linter.unusedVariables false
set_option linter.unusedSimpArgs false

theorem open_evs {H : Type} {enc : TypeId × Value → H} {W : World} {base : Nat} {spare : Nat → Bool} {held : Bool} {fuel : Nat} {a0 : Option Addr} {len0 cap0 : Nat} {x : DataW H × List MemPlace}
    (h : DataW.trod enc Tryd.prog W base spare held fuel 38 (Value.slice a0 len0 cap0).cells.toList = some x) : ∃ l, (len0 ≤ cap0 ∧ cap0 ≤ maxLen) ∧ IsEvs W.heap.size W a0 len0 l := by
  obtain ⟨l, h1, h2, _⟩ := open_arr (Q := QEv) (F := fun _ => True) (sz := 4) Tryd.underlying38 (by kernel_rfl) (by decide) (fun fuel cs y hl h => by
    obtain ⟨i0, i1, i2, a, n, c, rfl, ⟨hc, hm⟩, _, k, y', hy⟩ := open_Event fuel cs y hl h
    obtain ⟨vs, _, hz⟩ := open_nums (a0 := a) (len0 := n) (cap0 := c) hy
    exact ⟨(i0, i1, i2, vs), ⟨a, n, c, rfl, hc, hm, hz⟩, trivial⟩) h
  exact ⟨l, h1, h2⟩
theorem copy_is {b n : Nat} {w : World} {l : List Ev} (ho : Open b (n * 4) w) (hl : l.length = n) (h : ∀ i, (h : i < l.length) → ∃ cs, CEv (b + 1) w cs l[i] ∧ ∀ j u, cs[j]? = some u → j < 4 ∧ w.cell? ⟨b, i * 4 + j, none⟩ = some u) : IsEvs w.heap.size w (some ⟨b, 0, none⟩) n l := CpL.arr (fun cs x => CEv.q cs x) ho hl h

set_option maxHeartbeats 3200000 in
set_option maxRecDepth 100000 in
theorem walk (a0 : Option Addr) (n c : Nat) (l : List Ev) (w : World) (hT : TbP w) (hc : n ≤ c) (hm : c ≤ maxLen) (hz : IsEvs w.heap.size w a0 n l) :
    Calls Tryd.prog 6 #[.slice a0 n c] w fun e w' => e = .returned (.bool true) ∧ Below w.heap.size w w' := by
  have hlen := hz.1
  have HZ := hidOf hz
  have HTB := hidOf hT
  have HSZ := hidOf (szEventS_any w.heap.size a0 n c l 1048576 w (by decide) (by decide) (by omega) (Nat.le_refl _) (fun _ _ => trivial) hz)
  clear hz hT
  unfold maxLen at hm
  go_enter Tryd.func6, Tryd.ntmps6
  go_wp2_with fail
  refine HSZ.out.mono ?_
  rintro e w1 ⟨r, rfl, hb1, hr1, hr2, hr3⟩
  have HB1 := hidOf hb1
  clear hb1
  by_cases hr : r < 0
  · go_wp2_with fail
    go_ret
    exact ⟨rfl, HB1.out⟩
  have hsum := hr3 (by omega)
  have hn : n ≤ 1048576 := by omega
  have hfew : ∀ x ∈ l, FewEv x := fun x hx => by
    have h2 : x.2.2.2.length ≤ wsum wtEv l := wsum_mem (f := wtEv) hx
    unfold FewEv; omega
  have HF := hidOf hfew
  have HTO : Hid (∀ W, Below w.heap.size w W → Calls Tryd.prog 20 #[.slice a0 n c] W fun e w' => ∃ b, e = .returned (.slice (some ⟨b, 0, none⟩) n n) ∧ IsEvs w'.heap.size w' (some ⟨b, 0, none⟩) n l ∧ Below W.heap.size W w') := fun W hb => by
    refine (toEventS_any w.heap.size a0 n c l W hn hb.size HF.out (HZ.out.down hb)).mono ?_
    rintro e w' ⟨b, rfl, _, h1, h2, h3, h4⟩
    exact ⟨b, rfl, copy_is h1 h3 h4, h2⟩
  have HSP : Hid (∀ W a k, IsEvs W.heap.size W a n l → Calls Tryd.prog 19 #[.slice a n k] W fun e w' => e = .returned (.string (bt8 (putS l))) ∧ Below W.heap.size W w') := fun W a k hz => specStoryPut_any W.heap.size a n k l W (Nat.le_refl _) hn HF.out hz
  have HIP : Hid (∀ W a k, Below w.heap.size w W → IsEvs W.heap.size W a n l → Calls Tryd.prog 21 #[.slice a n k] W fun e w' => e = .returned (.string (bt8 (putS l))) ∧ Below W.heap.size W w') := fun W a k hb hz => implStoryPut_any W.heap.size a n k l W (HTB.out.up hb) (Nat.le_refl _) hn HF.out hz
  obtain ⟨P, hP⟩ : ∃ P, bt8 (putS l) = P := ⟨_, rfl⟩
  rw [hP] at HSP HIP
  clear hP hr3 hsum hfew HSZ
  go_wp2_with fail
  refine (HTO.out w1 HB1.out).mono ?_
  rintro e w2 ⟨b2, rfl, hz2, hb2⟩
  have HB2 := hidOf (HB1.out.trans (hb2.mono HB1.out.size))
  have HQ2 := hidOf (HSP.out w2 (some ⟨b2, 0, none⟩) n hz2)
  clear hz2 hb2
  go_wp2_with fail
  refine HQ2.out.mono ?_
  rintro e w3 ⟨rfl, hb3⟩
  have HB3 := hidOf (HB2.out.trans (hb3.mono HB2.out.size))
  clear hb3
  go_wp2_with fail
  refine (HTO.out w3 HB3.out).mono ?_
  rintro e w4 ⟨b4, rfl, hz4, hb4⟩
  have HB4 := hidOf (HB3.out.trans (hb4.mono HB3.out.size))
  have HZ4 := hidOf hz4
  have HQ4 := hidOf (HIP.out w4 (some ⟨b4, 0, none⟩) n HB4.out hz4)
  clear hz4 hb4
  go_wp2_with fail
  refine HQ4.out.mono ?_
  rintro e w5 ⟨rfl, hb5⟩
  have HB5 := hidOf (HB4.out.trans (hb5.mono HB4.out.size))
  have HZ5 := hidOf (HZ4.out.up hb5)
  clear hb5
  go_wp2_with fail
  refine (HTO.out w5 HB5.out).mono ?_
  rintro e w6 ⟨b6, rfl, hz6, hb6⟩
  have HB6 := hidOf (HB5.out.trans (hb6.mono HB5.out.size))
  have HEQ := hidOf (eqEventS_same w6.heap.size (some ⟨b4, 0, none⟩) (some ⟨b6, 0, none⟩) n n n l w6 hn (Nat.le_refl _) HF.out (HZ5.out.up hb6) hz6)
  clear hz6 hb6
  go_wp2_with fail
  refine HEQ.out.mono ?_
  rintro e w7 ⟨rfl, hb7⟩
  have HB7 := hidOf (HB6.out.trans (hb7.mono HB6.out.size))
  clear hb7
  go_wp2_with fail
  go_ret
  exact ⟨rfl, HB7.out⟩

set_option maxRecDepth 100000 in
theorem lifted (os : Os) (started : os.Started) (H : Type) (enc : TypeId × Value → H) :
    ReturnsInHanded {} Tryd.checked os 6 .any (fun w args => (Rows.fnExactStoryPutSpec.pre enc Tryd.prog Tryd.f6 Rows.fnExactStoryPutRow.domain false w args ∧ laidMetH Tryd.prog laidP w) ∧ sizedMet enc Tryd.prog Tryd.f6 (OpenSpec.ofChange Rows.fnExactStoryPutSpec) false w args)
      (Rows.fnExactStoryPutSpec.post enc Tryd.prog Tryd.f6 false true false false) := by
  refine returnsInHanded_of_change_and (C := Tryd.checked) (X := fun w _ => laidMetH Tryd.prog laidP w) (fun _ _ _ hh h => h.of_heap hh) own started (by kernel_rfl) Tryd.func6
    (ChangeSpec.witness_shaped (enc := enc) (C := Tryd.checked) (os := os) (X := fun w _ => laidMetH Tryd.prog laidP w) false (World.laidAll Tryd.prog os laidP) #[.slice none 0 0] 8 (World.laidAll_os _ _ _)
      (shapedP os _) (by kernel_rfl) (by kernel_rfl) (by kernel_rfl) (metP os _)) ?_
  intro W base args ds gs before hval0 hW hcnd _ hL _
  have hval : ∀ (j : Nat) t v, Tryd.f6.params[j]? = some t → args[j]? = some v → Value.okWide Tryd.prog W .any base t v := hval0
  have hW' := hW
  obtain ⟨p, q, hA0, hV, rfl, hfz, hnd⟩ := hW
  have hA : DataW.TrodAll enc Tryd.prog W 0 (fun _ => true) true Tryd.f6.params.toList args.toList ds p := hA0
  rw [Tryd.params6] at hA hval
  obtain ⟨v0, d0, rfl, rfl, h0⟩ := trodAll_one hA
  have hV0 := hV
  obtain ⟨g, t, cs, fuel, gd, pp, rfl, _⟩ := trodVars_one hV0
  obtain ⟨a0, n, c, rfl⟩ := okWide_slice Tryd.underlying38 (hval 0 38 v0 rfl rfl)
  have k0 := h0
  have lt0 : ∀ x ∈ p, x.block < W.heap.size := by obtain ⟨m, hm⟩ := k0; exact DataW.trod_lt m _ _ _ hm
  obtain ⟨fuel0, hf0⟩ := h0
  obtain ⟨l, ⟨hc, hm⟩, hz⟩ := open_evs (a0 := a0) (len0 := n) (cap0 := c) hf0
  clear hA0 hval0
  refine (walk a0 n c l W (tabsP_of hL) hc hm hz).mono fun e W' ⟨he, bel⟩ => ?_
  subst he
  exact ⟨_, rfl, _, _, _, [], _, _, hW', trodAll_mk1 (shut_bool Tryd.underlying4 _), trodAll_mk1 (Below.trod laidOut (by kernel_rfl) (of_decide_eq_true (by kernel_rfl)) k0 bel lt0), Below.trodVars laidOut bel (by kernel_rfl) hV, bel.frame _, fun h => by cases h⟩

theorem over : Rows.FnExactStoryPutSaid :=
  OpenClaim.holds_of_wide 6 Tryd.f6 rfl rfl rfl rfl rfl rfl rfl ⟨rfl, rfl, rfl, rfl, rfl⟩ rfl rfl rfl rfl rfl (by kernel_rfl) Tryd.func6 (by kernel_rfl)
    (of_decide_eq_true (by kernel_rfl)) (by unfold Func.isWrapper; first | (rw [if_pos (by decide +kernel)]; kernel_rfl) | (rw [if_neg (by decide +kernel)]; exact ⟨rfl, rfl⟩))
    (fun os started H enc _ => lifted os started H enc)

theorem proved : Rows.FnExactStoryPutCardSaid :=
  Claim7.holds_tied_plain_at .later [] [.data, .data, .data, .data] true Rows.fnExactStoryPutCard.stood.harness true over (fun _ h => by cases h) (by kernel_rfl) (fun _ h => by cases h) fnExactStoryPut_row_tie rfl ⟨rfl, rfl⟩ (by kernel_rfl) rfl
    (fun f fn hf hfn => by
      obtain rfl : f = 6 := Option.some.inj ((show Tryd.prog.funcNamed "loop.example/telltale/laws.FnExactStoryPut" = some 6 by kernel_rfl).symm.trans hf) |>.symm
      obtain rfl : fn = Tryd.f6 := (Option.some.inj (Tryd.func6.symm.trans hfn)).symm
      exact ⟨by kernel_rfl, fun j t ht => by
        rw [Tryd.params6] at ht
        have hm : t ∈ [38] := by simpa using Array.mem_of_getElem? ht
        have hall : ([38].all fun u => !Tryd.prog.wantsStandIn u) = true := by kernel_rfl
        exact (show Tryd.prog.wantsStandIn t = false by simpa using List.all_eq_true.1 hall t hm)⟩)
    (by kernel_rfl)
#print axioms proved
end Go.Proofs.YtjmgfpldjccilaaDoor.fnExactStoryPut
