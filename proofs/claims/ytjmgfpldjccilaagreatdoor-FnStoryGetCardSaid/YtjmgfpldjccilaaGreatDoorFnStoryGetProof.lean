/- For every code of bytes the law FnStoryGet returns true: what is read as a story of a drawn text is what the model reads, and is written back as that text, line by line. The one condition is the row's own: the package-level variables hold what the program's text lays (tied by the card). -/
import Derived.Test.YtjmgfpldjccilaaGreatDoorEvLaidG
import Derived.Test.YtjmgfpldjccilaaGreatDoorReadI
import Derived.Test.YtjmgfpldjccilaaGreatDoorStoryGetM
import Derived.Test.YtjmgfpldjccilaaGreatDoorStoryPutM
import Derived.Test.YtjmgfpldjccilaaGreatDoorStTt
import Derived.Test.YtjmgfpldjccilaaGreatDoorDrawSt
import Derived.OpenShut
import Derived.ChangeOld
namespace Go.Proofs.YtjmgfpldjccilaaGreatDoor.fnStoryGet
open Go Go.ChangeShapes Go.WideShapes Go.ChangeAt Go.RowKit Go.Deep Go.PlainAid
set_option linter.unusedVariables false
set_option linter.unusedSimpArgs false

set_option maxHeartbeats 6400000 in
set_option maxRecDepth 100000 in
theorem walk (a0 : Option Addr) (n c : Nat) (bs : List Int) (w : World) (hw : TbG w) (hc : n ≤ c) (hm : c ≤ maxLen) (hz : IsBytes w.heap.size w a0 n bs) :
    Calls Tryz.prog 5 #[.slice a0 n c] w fun e w' => e = .returned (.bool true) ∧ Below w.heap.size w w' := by
  unfold maxLen at hm
  by_cases hbig : 1048576 < n
  · have hbig' : (1048576 : Int) < n := by omega
    clear hz
    go_enter Tryz.func5, Tryz.ntmps5
    go_wp2_with fail
    go_ret
    exact ⟨rfl, Below.refl _ _⟩
  have hbig' : ¬ (1048576 : Int) < n := by omega
  have HD := hidOf (DrawStoryGet_any a0 n c bs w hc (by omega) hz)
  have HW := hidOf (fun W (hb : Below w.heap.size w W) => hw.up hb)
  clear hz hw
  go_enter Tryz.func5, Tryz.ntmps5
  go_wp2_with fail
  refine HD.out.mono ?_
  rintro e w1 ⟨s, rfl, hs, hb1⟩
  have HB1 := hidOf hb1
  have HG1 := hidOf (implStoryGet_any s w1 (HW.out w1 hb1) (by omega))
  clear hb1
  go_wp2_with fail
  refine HG1.out.mono ?_
  rintro e w2 ⟨a2, c2, D, b, cs2, rfl, hg2, ho2, hb2⟩
  obtain ⟨ax, cx, ex, hz2⟩ := ho2.evs
  cases ex
  have HB2 := hidOf (HB1.out.trans (hb2.mono HB1.out.size))
  have HG2 := hidOf hg2
  have HZ2 := hidOf hz2
  have HS2 := hidOf (specStoryGet_any s w2 (by omega))
  have hD80 : D.length ≤ 80 := by
    rcases hg2 with ⟨_, h, _⟩ | ⟨_, h, _⟩
    · exact h.1
    · rw [h]; decide
  have HF : Hid (∀ x ∈ D, FewEv x) := by
    rcases hg2 with ⟨_, h, _⟩ | ⟨_, h, _⟩
    · intro x hx
      rcases (h.2 x hx).push with h | h
      · unfold FewEv; rw [h]; decide
      · have := h.2.1; unfold FewEv; omega
    · intro x hx; rw [h] at hx; simp at hx
  clear hb2 hg2 ho2 hz2
  go_wp2_with fail
  refine HS2.out.mono ?_
  rintro e w3 ⟨a3, c3, D3, b3, cs3, rfl, hg3, ho3, hb3⟩
  obtain ⟨h1, h2⟩ := HG2.out.same hg3
  subst h1
  subst h2
  obtain ⟨ax, cx, ex, hz3⟩ := ho3.evs
  cases ex
  have HB3 := hidOf (HB2.out.trans (hb3.mono HB2.out.size))
  have HZ23 := hidOf (HZ2.out.up hb3)
  have HZ3 := hidOf hz3
  have HTT : Hid (∀ W, Below w3.heap.size w3 W → Calls Tryz.prog 17 #[.slice a2 D.length c2, .slice a3 D.length c3] W fun e w' => e = .returned (.bool true) ∧ Below W.heap.size W w') := fun W hb => ttEvents_same W.heap.size a2 a3 D.length c2 c3 D W (by omega) (Nat.le_refl _) HF.out (HZ23.out.up hb) (HZ3.out.up hb)
  have HT3 := hidOf (HTT.out w3 (Below.refl _ _))
  clear hb3 hg3 ho3 hz3
  cases b with
  | false =>
    go_wp2_with fail
    refine HT3.out.mono ?_
    rintro e w4 ⟨rfl, hb4⟩
    have HB4 := hidOf (HB3.out.trans (hb4.mono HB3.out.size))
    have HT4 := hidOf (HTT.out w4 hb4)
    clear hb4
    go_wp2_with fail
    refine HT4.out.mono ?_
    rintro e w5 ⟨rfl, hb5⟩
    have HB5 := hidOf (HB4.out.trans (hb5.mono HB4.out.size))
    clear hb5
    go_wp2_with fail
    go_ret
    exact ⟨rfl, HB5.out⟩
  | true =>
    have HOK : Hid (OkS D ∧ s = bt8 (storyT D)) := by
      rcases HG2.out with ⟨_, h1, h2⟩ | ⟨h, _⟩
      · exact ⟨h1, h2⟩
      · exact absurd h (by decide)
    go_wp2_with fail
    refine HT3.out.mono ?_
    rintro e w4 ⟨rfl, hb4⟩
    have HB4 := hidOf (HB3.out.trans (hb4.mono HB3.out.size))
    have HZ4 := hidOf (HZ23.out.up hb4)
    clear hb4
    go_wp2_with fail
    go_loopw [8, 9] (fun v i wr => ∃ (k : Nat) (x : ByteArray), k ≤ D.length ∧ i = .int .i64 k ∧ v = .string x ∧ x.size ≤ 81 * k ∧ Hid (x = bt8 (storyT (D.take k))) ∧ Hid (IsEvs wr.heap.size wr a2 D.length D) ∧ Below w.heap.size w wr) (fun _ i _ => D.length - (intOf i).toNat)
    case atStart => exact ⟨0, ⟨#[]⟩, Nat.zero_le _, rfl, rfl, by decide, rfl, HZ4.out, HB4.out⟩
    case round =>
      obtain ⟨k, x, hk, rfl, rfl, hxs, HX, HZ, hbel⟩ := hrel
      by_cases hlt : k < D.length
      · obtain ⟨b, off, cs, rfl, hb, hq, hcell⟩ := IsArr.at HZ.out hlt hlt
        have hokz : OkE (D[k]'hlt) := HOK.out.1.2 _ (List.getElem_mem _)
        have ht : D.take (k + 1) = D.take k ++ [D[k]'hlt] := List.take_succ_eq_append_getElem hlt
        obtain ⟨z, hz⟩ : ∃ z, D[k]'hlt = z := ⟨_, rfl⟩
        rw [hz] at hq ht hokz
        obtain ⟨pa, pn, pc, rfl, hp1, hp2, hp3⟩ := hq
        have c0 : wr.cell? ⟨b, off + k * 4, none⟩ = some (.int .i64 z.1) := hcell 0 _ rfl
        have c1 : wr.cell? ⟨b, off + k * 4 + 1, none⟩ = some (.int .i64 z.2.1) := hcell 1 _ rfl
        have c2 : wr.cell? ⟨b, off + k * 4 + 1 + 1, none⟩ = some (.int .i64 z.2.2.1) := hcell 2 _ rfl
        have c3 : wr.cell? ⟨b, off + k * 4 + 1 + 1 + 1, none⟩ = some (.slice pa pn pc) := hcell 3 _ rfl
        have hpn : pn ≤ 1048577 := by
          have := hp3.1
          rcases hokz.push with h | h
          · rw [h] at this; simp at this; omega
          · have := h.2.1; omega
        have HPU := hidOf (implEventPut_any wr.heap.size z.1 z.2.1 z.2.2.1 pa pn pc z.2.2.2 wr (HW.out wr hbel).put (Nat.le_refl _) hpn hp3)
        have hpe : bt8 (putE (z.1, z.2.1, z.2.2.1, z.2.2.2)) = bt8 (evT z) := by
          have h : okE (z.1, z.2.1, z.2.2.1, z.2.2.2) = true := okE_iff.2 hokz
          unfold putE; rw [h]; rfl
        rw [hpe] at HPU
        obtain ⟨y, hy⟩ : ∃ y, bt8 (evT z) = y := ⟨_, rfl⟩
        rw [hy] at HPU
        have hys : y.size ≤ 80 := by rw [← hy, bt8_size]; exact evT_len hokz
        have HY := hidOf hy
        have HT := hidOf ht
        have hc1 : ¬ 9223372036854775807 < x.size + y.size := by omega
        have hc2 : ¬ 9223372036854775807 < x.size + y.size + 1 := by omega
        clear hcell hz ht hokz hp3 hpe hy
        go_wp2_with fail
        refine HPU.out.mono ?_
        rintro e w6 ⟨rfl, hb6⟩
        have HB6 := hidOf (hbel.trans (hb6.mono hbel.size))
        have HZ6 := hidOf (HZ.out.up hb6)
        clear hb6
        go_wp2_with fail
        go_roundw
        case rel =>
          refine ⟨k + 1, _, by omega, by go_num, rfl, ?_, ?_, HZ6.out, HB6.out⟩
          · rw [ByteArray.size_append, ByteArray.size_append]; show x.size + y.size + 1 ≤ _; omega
          · show _ = _
            rw [HT.out, storyT_snoc, HX.out, ← HY.out, ← bt8_app, ← bt8_app]; rfl
        case measure => simp [intOf]; omega
      · have hkn : k = D.length := by omega
        have HXS : Hid (x = s) := by
          show x = s
          rw [HX.out, hkn, List.take_of_length_le (Nat.le_refl _)]; exact HOK.out.2.symm
        have HIP := hidOf (implStoryPut_any wr.heap.size a2 D.length c2 D wr (HW.out wr hbel).put (Nat.le_refl _) (by omega) HF.out HZ.out)
        have hps : bt8 (putS D) = s := by unfold putS; rw [okS_OkS.2 HOK.out.1]; exact HOK.out.2.symm
        rw [hps] at HIP
        have hkI : ¬ (k : Int) < (D.length : Int) := by omega
        have hDI : (D.length : Int) ≤ 80 := by omega
        have hxs' := HXS.out
        subst hxs'
        clear hps hkn
        go_wp2_with fail
        refine HIP.out.mono ?_
        rintro e w6 ⟨rfl, hb6⟩
        have HB6 := hidOf (hbel.trans (hb6.mono hbel.size))
        clear hb6
        go_wp2_with fail
        go_ret
        exact ⟨rfl, HB6.out⟩

/-! ### THE ROW's STEP -/
set_option maxRecDepth 100000 in
theorem lifted (os : Os) (started : os.Started) (H : Type) (enc : TypeId × Value → H) :
    ReturnsInHanded {} Tryz.checked os 5 .any (fun w args => (Rows.fnStoryGetSpec.pre enc Tryz.prog Tryz.f5 Rows.fnStoryGetRow.domain false w args ∧ laidMetH Tryz.prog laidG w) ∧ sizedMet enc Tryz.prog Tryz.f5 (OpenSpec.ofChange Rows.fnStoryGetSpec) false w args)
      (Rows.fnStoryGetSpec.post enc Tryz.prog Tryz.f5 false true false false) := by
  refine stepG (C := Tryz.checked) (l := laidG) own started (by kernel_rfl) Tryz.func5
    (ChangeSpec.witness_shaped (enc := enc) (C := Tryz.checked) (os := os) (X := fun w _ => laidMetH Tryz.prog laidG w) false (World.laidAll Tryz.prog os laidG) #[.slice none 0 0] 8 (World.laidAll_os _ _ _)
      (shapedG os _) (by kernel_rfl) (by kernel_rfl) (by kernel_rfl) (metG os _)) ?_
  intro W base args ds gs before hval0 hW hL hSH
  have hval : ∀ (j : Nat) t v, Tryz.f5.params[j]? = some t → args[j]? = some v → Value.okWide Tryz.prog W .any base t v := hval0
  have hW' := hW
  obtain ⟨p, q, hA0, hV, rfl, hfz, hnd⟩ := hW
  have hA : DataW.TrodAll enc Tryz.prog W 0 (fun _ => true) true Tryz.f5.params.toList args.toList ds p := hA0
  rw [Tryz.params5] at hA hval
  obtain ⟨v0, d0, rfl, rfl, h0⟩ := trodAll_one hA
  have hV0 := hV
  obtain ⟨g, t, cs, fuel, gd, pp, rfl, _⟩ := trodVars_one hV0
  have k0 := h0
  have lt0 : ∀ x ∈ p, x.block < W.heap.size := by obtain ⟨m, hm⟩ := k0; exact DataW.trod_lt m _ _ _ hm
  obtain ⟨a0, len0, cap0, rfl⟩ := okWide_slice Tryz.underlying22 (hval 0 22 v0 rfl rfl)
  obtain ⟨fuel0, hf0⟩ := h0
  obtain ⟨hc0, hm0, bs, w0⟩ := open_code rfl hf0
  clear hA0 hval0
  refine (walk a0 len0 cap0 bs W (tabsG_of hL hSH) hc0 hm0 w0).mono fun e W' ⟨he, bel⟩ => ?_
  subst he
  exact ⟨_, rfl, _, _, _, [], _, _, hW', trodAll_mk1 (shut_bool Tryz.underlying4 _), trodAll_mk1 (Below.trod laidOut (by kernel_rfl) (of_decide_eq_true (by kernel_rfl)) k0 bel lt0), Below.trodVars laidOut bel (by kernel_rfl) hV, bel.frame _, fun h => by cases h⟩

theorem over : Rows.FnStoryGetSaid :=
  OpenClaim.holds_of_wide 5 Tryz.f5 rfl rfl rfl rfl rfl rfl rfl ⟨rfl, rfl, rfl, rfl, rfl⟩ rfl rfl rfl rfl rfl (by kernel_rfl) Tryz.func5 (by kernel_rfl)
    (of_decide_eq_true (by kernel_rfl)) (by unfold Func.isWrapper; first | (rw [if_pos (by decide +kernel)]; kernel_rfl) | (rw [if_neg (by decide +kernel)]; exact ⟨rfl, rfl⟩))
    (fun os started H enc _ => lifted os started H enc)

theorem proved : Rows.FnStoryGetCardSaid :=
  Claim7.holds_tied_plain_at .later [] [.data, .data, .data, .data, .sentinel, .sentinel, .data, .pinned] true Rows.fnStoryGetCard.stood.harness true over (fun _ h => by cases h) (by kernel_rfl) (fun _ h => by cases h) fnStoryGet_row_tie rfl ⟨rfl, rfl⟩ (by kernel_rfl) rfl
    (fun f fn hf hfn => by
      obtain rfl : f = 5 := Option.some.inj ((show Tryz.prog.funcNamed "loop.example/telltale/laws.FnStoryGet" = some 5 by kernel_rfl).symm.trans hf) |>.symm
      obtain rfl : fn = Tryz.f5 := (Option.some.inj (Tryz.func5.symm.trans hfn)).symm
      exact ⟨by kernel_rfl, fun j t ht => by
        rw [Tryz.params5] at ht
        have hm : t ∈ [22] := by simpa using Array.mem_of_getElem? ht
        have hall : ([22].all fun u => !Tryz.prog.wantsStandIn u) = true := by kernel_rfl
        exact (show Tryz.prog.wantsStandIn t = false by simpa using List.all_eq_true.1 hall t hm)⟩)
    (by kernel_rfl)
#print axioms proved
end Go.Proofs.YtjmgfpldjccilaaGreatDoor.fnStoryGet
