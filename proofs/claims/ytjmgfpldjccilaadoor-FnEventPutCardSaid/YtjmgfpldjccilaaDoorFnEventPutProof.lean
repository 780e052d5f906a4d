/- For every code of bytes the law FnEventPut returns true: a drawn event is written as the model writes it, and, where it has just what its kind has, read back from how it is written. The one condition is the row's own: the package-level variables hold what the program's text lays (tied by the card). -/
import Derived.Test.YtjmgfpldjccilaaDoorEvLaidG
import Derived.Test.YtjmgfpldjccilaaDoorEvGetI4
import Derived.Test.YtjmgfpldjccilaaDoorEvPutM
import Derived.Test.YtjmgfpldjccilaaDoorEvTt
import Derived.Test.YtjmgfpldjccilaaDoorDrawEvPut
import Derived.OpenShut
import Derived.ChangeOld
namespace Go.Proofs.YtjmgfpldjccilaaDoor.fnEventPut
open Go Go.ChangeShapes Go.WideShapes Go.ChangeAt Go.RowKit Go.Deep Go.PlainAid
set_option linter.unusedVariables false
set_option linter.unusedSimpArgs false

set_option maxHeartbeats 6400000 in
set_option maxRecDepth 100000 in
theorem walk (a0 : Option Addr) (n c : Nat) (bs : List Int) (w : World) (hw : TbG w) (hc : n ≤ c) (hm : c ≤ maxLen) (hz : IsBytes w.heap.size w a0 n bs) :
    Calls Tryd.prog 3 #[.slice a0 n c] w fun e w' => e = .returned (.bool true) ∧ Below w.heap.size w w' := by
  unfold maxLen at hm
  by_cases hbig : 1048576 < n
  · have hbig' : (1048576 : Int) < n := by omega
    clear hz
    go_enter Tryd.func3, Tryd.ntmps3
    go_wp2_with fail
    go_ret
    exact ⟨rfl, Below.refl _ _⟩
  have hbig' : ¬ (1048576 : Int) < n := by omega
  have HD := hidOf (DrawEventPut_any a0 n c bs w hc (by omega) hz)
  have HW := hidOf (fun W (hb : Below w.heap.size w W) => hw.up hb)
  clear hz hw
  go_enter Tryd.func3, Tryd.ntmps3
  go_wp2_with fail
  refine HD.out.mono ?_
  rintro e w1 ⟨k, t, m, a2, n2, c2, l, rfl, hf1, hcc, hnn, hb1⟩
  have hl := hf1.1.1
  have HF1 := hidOf hf1.1
  have HB1 := hidOf hb1
  clear hb1 hf1
  obtain ⟨W2, hW2⟩ : ∃ W2, w1.alloc (.cells #[.int .i64 k, .int .i64 t, .int .i64 m, .slice a2 n2 c2] 25) = W2 := ⟨_, rfl⟩
  have hb2 : Below w1.heap.size w1 W2 := by rw [← hW2]; exact (Below.refl _ _).alloc (Nat.le_refl _) _
  have BX2 := hidOf (show BoxAt w1.heap.size [.int .i64 k, .int .i64 t, .int .i64 m, .slice a2 n2 c2] W2 by rw [← hW2]; exact boxAt_new w1 _ _)
  have HW2 := hidOf hW2
  have HB2 := hidOf (HB1.out.trans (hb2.mono HB1.out.size))
  have HZ2 := hidOf (HF1.out.up hb2)
  have HP2 := hidOf (implEventPut_any W2.heap.size k t m a2 n2 c2 l W2 (HW.out W2 HB2.out).put (Nat.le_refl _) (by omega) HZ2.out)
  have HSP : Hid (∀ W, Below W2.heap.size W2 W → Calls Tryd.prog 9 #[.agg #[.int .i64 k, .int .i64 t, .int .i64 m, .slice a2 n2 c2]] W fun e w' => e = .returned (.string (bt8 (putE (k, t, m, l)))) ∧ Below W.heap.size W w') := fun W hb => specEventPut_any W.heap.size k t m a2 n2 c2 l W (Nat.le_refl _) (by omega) (HZ2.out.up hb)
  have hbw : Below w1.heap.size w1 W2 := hb2
  clear hW2 hb2
  obtain ⟨K, hK⟩ : ∃ K, okE (k, t, m, l) = K := ⟨_, rfl⟩
  cases K with
  | false =>
    have hP : bt8 (putE (k, t, m, l)) = ⟨#[]⟩ := by unfold putE; rw [hK]; rfl
    rw [hP] at HP2 HSP
    clear hP hK hbw
    go_wp2_with fail
    rw [HW2.out]
    refine HP2.out.mono ?_
    rintro e w3 ⟨rfl, hb3⟩
    have HB3 := hidOf (HB2.out.trans (hb3.mono HB2.out.size))
    have BX3 := hidOf (BX2.out.below hb3)
    have HSP3 := hidOf (HSP.out w3 hb3)
    have HB32 := hidOf hb3
    clear hb3
    have x0 : w3.cell? ⟨w1.heap.size, 0, none⟩ = some _ := (BX3.out.2 0 _ rfl).1
    have x1 : w3.cell? ⟨w1.heap.size, 1, none⟩ = some _ := (BX3.out.2 1 _ rfl).1
    have x2 : w3.cell? ⟨w1.heap.size, 2, none⟩ = some _ := (BX3.out.2 2 _ rfl).1
    have x3 : w3.cell? ⟨w1.heap.size, 3, none⟩ = some _ := (BX3.out.2 3 _ rfl).1
    have hx := BX3.out.1
    go_wp2_with fail
    refine HSP3.out.mono ?_
    rintro e w4 ⟨rfl, hb4⟩
    have HB4 := hidOf (HB3.out.trans (hb4.mono HB3.out.size))
    have BX4 := hidOf (BX3.out.below hb4)
    have HSP4 := hidOf (HSP.out w4 (HB32.out.trans (hb4.mono HB32.out.size)))
    clear hb4 x0 x1 x2 x3 hx
    have x0 : w4.cell? ⟨w1.heap.size, 0, none⟩ = some _ := (BX4.out.2 0 _ rfl).1
    have x1 : w4.cell? ⟨w1.heap.size, 1, none⟩ = some _ := (BX4.out.2 1 _ rfl).1
    have x2 : w4.cell? ⟨w1.heap.size, 2, none⟩ = some _ := (BX4.out.2 2 _ rfl).1
    have x3 : w4.cell? ⟨w1.heap.size, 3, none⟩ = some _ := (BX4.out.2 3 _ rfl).1
    have hx := BX4.out.1
    go_wp2_with fail
    refine HSP4.out.mono ?_
    rintro e w5 ⟨rfl, hb5⟩
    have HB5 := hidOf (HB4.out.trans (hb5.mono HB4.out.size))
    clear hb5
    go_wp2_with fail
    go_ret
    exact ⟨rfl, HB5.out⟩
  | true =>
    have ok := okE_iff.1 hK
    have hP : bt8 (putE (k, t, m, l)) = bt8 (evT (k, t, m, l)) := by unfold putE; rw [hK]; rfl
    have hsz : (bt8 (evT (k, t, m, l))).size ≤ 80 := by rw [bt8_size]; exact evT_len ok
    have hne : bt8 (evT (k, t, m, l)) ≠ ⟨#[]⟩ := fun e => evT_ne _ (bt8_inj (b := []) e)
    obtain ⟨s, hs⟩ : ∃ s, bt8 (evT (k, t, m, l)) = s := ⟨_, rfl⟩
    rw [hP, hs] at HP2 HSP
    rw [hs] at hsz hne
    have hemp : s.toList.isEmpty = false := by
      rw [Lib.toList_data]
      cases h : s.data.toList with
      | nil => exact absurd (by rw [← bt8_of s, h]; rfl) hne
      | cons _ _ => rfl
    have HGOT : Hid (GotE s (k, t, m, l) true) := .inl ⟨rfl, ok, hs.symm⟩
    have HGET := hidOf (fun W h => implEventGet_any s W h (by omega))
    clear hP hK hs ok hne hbw
    go_wp2_with fail
    rw [HW2.out]
    refine HP2.out.mono ?_
    rintro e w3 ⟨rfl, hb3⟩
    have HB3 := hidOf (HB2.out.trans (hb3.mono HB2.out.size))
    have BX3 := hidOf (BX2.out.below hb3)
    have HZ3 := hidOf (HZ2.out.up hb3)
    have HSP3 := hidOf (HSP.out w3 hb3)
    clear hb3
    have x0 : w3.cell? ⟨w1.heap.size, 0, none⟩ = some _ := (BX3.out.2 0 _ rfl).1
    have x1 : w3.cell? ⟨w1.heap.size, 1, none⟩ = some _ := (BX3.out.2 1 _ rfl).1
    have x2 : w3.cell? ⟨w1.heap.size, 2, none⟩ = some _ := (BX3.out.2 2 _ rfl).1
    have x3 : w3.cell? ⟨w1.heap.size, 3, none⟩ = some _ := (BX3.out.2 3 _ rfl).1
    have hx := BX3.out.1
    go_wp2_with fail
    refine HSP3.out.mono ?_
    rintro e w4 ⟨rfl, hb4⟩
    have HB4 := hidOf (HB3.out.trans (hb4.mono HB3.out.size))
    have BX4 := hidOf (BX3.out.below hb4)
    have HZ4 := hidOf (HZ3.out.up hb4)
    clear hb4 x0 x1 x2 x3 hx
    go_wp2_with fail
    refine (HGET.out w4 (HW.out w4 HB4.out)).mono ?_
    rintro e w5 ⟨k', t', m', a5, n5, c5, l', b', rfl, hf5, hc5, hg5, hb5⟩
    obtain ⟨he, hbb⟩ := HGOT.out.same hg5
    cases he
    subst hbb
    have hn5 : n5 = n2 := by have := hf5.1.1; omega
    subst hn5
    have HB5 := hidOf (HB4.out.trans (hb5.mono HB4.out.size))
    have BX5 := hidOf (BX4.out.below hb5)
    have HZ5 := hidOf (HZ4.out.up hb5)
    have HF5 := hidOf hf5.1
    clear hb5 hf5 hg5
    obtain ⟨W6, hW6⟩ : ∃ W6, w5.alloc (.cells #[.int .i64 k, .int .i64 t, .int .i64 m, .slice a5 n5 c5] 25) = W6 := ⟨_, rfl⟩
    have hb6 : Below w5.heap.size w5 W6 := by rw [← hW6]; exact (Below.refl _ _).alloc (Nat.le_refl _) _
    have HW6 := hidOf hW6
    have HB6 := hidOf (HB5.out.trans (hb6.mono HB5.out.size))
    have HTT := hidOf (ttEvent_same k t m a5 a2 n5 c5 c2 l W6 (by omega) (HF5.out.up hb6) (HZ5.out.up hb6))
    clear hW6 hb6
    have x0 : w5.cell? ⟨w1.heap.size, 0, none⟩ = some _ := (BX5.out.2 0 _ rfl).1
    have x1 : w5.cell? ⟨w1.heap.size, 1, none⟩ = some _ := (BX5.out.2 1 _ rfl).1
    have x2 : w5.cell? ⟨w1.heap.size, 2, none⟩ = some _ := (BX5.out.2 2 _ rfl).1
    have x3 : w5.cell? ⟨w1.heap.size, 3, none⟩ = some _ := (BX5.out.2 3 _ rfl).1
    have hx := BX5.out.1
    go_wp2_with fail
    rw [HW6.out]
    refine HTT.out.mono ?_
    rintro e w7 ⟨rfl, hb7⟩
    have HB7 := hidOf (HB6.out.trans (hb7.mono HB6.out.size))
    clear hb7
    go_wp2_with fail
    go_ret
    exact ⟨rfl, HB7.out⟩

/-! ### THE ROW's STEP -/
set_option maxRecDepth 100000 in
theorem lifted (os : Os) (started : os.Started) (H : Type) (enc : TypeId × Value → H) :
    ReturnsInHanded {} Tryd.checked os 3 .any (fun w args => (Rows.fnEventPutSpec.pre enc Tryd.prog Tryd.f3 Rows.fnEventPutRow.domain false w args ∧ laidMetH Tryd.prog laidG w) ∧ sizedMet enc Tryd.prog Tryd.f3 (OpenSpec.ofChange Rows.fnEventPutSpec) false w args)
      (Rows.fnEventPutSpec.post enc Tryd.prog Tryd.f3 false true false false) := by
  refine stepG (C := Tryd.checked) (l := laidG) own started (by kernel_rfl) Tryd.func3
    (ChangeSpec.witness_shaped (enc := enc) (C := Tryd.checked) (os := os) (X := fun w _ => laidMetH Tryd.prog laidG w) false (World.laidAll Tryd.prog os laidG) #[.slice none 0 0] 8 (World.laidAll_os _ _ _)
      (shapedG os _) (by kernel_rfl) (by kernel_rfl) (by kernel_rfl) (metG os _)) ?_
  intro W base args ds gs before hval0 hW hL hSH
  have hval : ∀ (j : Nat) t v, Tryd.f3.params[j]? = some t → args[j]? = some v → Value.okWide Tryd.prog W .any base t v := hval0
  have hW' := hW
  obtain ⟨p, q, hA0, hV, rfl, hfz, hnd⟩ := hW
  have hA : DataW.TrodAll enc Tryd.prog W 0 (fun _ => true) true Tryd.f3.params.toList args.toList ds p := hA0
  rw [Tryd.params3] at hA hval
  obtain ⟨v0, d0, rfl, rfl, h0⟩ := trodAll_one hA
  have hV0 := hV
  obtain ⟨g, t, cs, fuel, gd, pp, rfl, _⟩ := trodVars_one hV0
  have k0 := h0
  have lt0 : ∀ x ∈ p, x.block < W.heap.size := by obtain ⟨m, hm⟩ := k0; exact DataW.trod_lt m _ _ _ hm
  obtain ⟨a0, len0, cap0, rfl⟩ := okWide_slice Tryd.underlying22 (hval 0 22 v0 rfl rfl)
  obtain ⟨fuel0, hf0⟩ := h0
  obtain ⟨hc0, hm0, bs, w0⟩ := open_code rfl hf0
  clear hA0 hval0
  refine (walk a0 len0 cap0 bs W (tabsG_of hL hSH) hc0 hm0 w0).mono fun e W' ⟨he, bel⟩ => ?_
  subst he
  exact ⟨_, rfl, _, _, _, [], _, _, hW', trodAll_mk1 (shut_bool Tryd.underlying4 _), trodAll_mk1 (Below.trod laidOut (by kernel_rfl) (of_decide_eq_true (by kernel_rfl)) k0 bel lt0), Below.trodVars laidOut bel (by kernel_rfl) hV, bel.frame _, fun h => by cases h⟩

theorem over : Rows.FnEventPutSaid :=
  OpenClaim.holds_of_wide 3 Tryd.f3 rfl rfl rfl rfl rfl rfl rfl ⟨rfl, rfl, rfl, rfl, rfl⟩ rfl rfl rfl rfl rfl (by kernel_rfl) Tryd.func3 (by kernel_rfl)
    (of_decide_eq_true (by kernel_rfl)) (by unfold Func.isWrapper; first | (rw [if_pos (by decide +kernel)]; kernel_rfl) | (rw [if_neg (by decide +kernel)]; exact ⟨rfl, rfl⟩))
    (fun os started H enc _ => lifted os started H enc)

theorem proved : Rows.FnEventPutCardSaid :=
  Claim7.holds_tied_plain_at .later [] [.data, .data, .data, .data, .sentinel, .sentinel, .data, .pinned] true Rows.fnEventPutCard.stood.harness true over (fun _ h => by cases h) (by kernel_rfl) (fun _ h => by cases h) fnEventPut_row_tie rfl ⟨rfl, rfl⟩ (by kernel_rfl) rfl
    (fun f fn hf hfn => by
      obtain rfl : f = 3 := Option.some.inj ((show Tryd.prog.funcNamed "loop.example/telltale/laws.FnEventPut" = some 3 by kernel_rfl).symm.trans hf) |>.symm
      obtain rfl : fn = Tryd.f3 := (Option.some.inj (Tryd.func3.symm.trans hfn)).symm
      exact ⟨by kernel_rfl, fun j t ht => by
        rw [Tryd.params3] at ht
        have hm : t ∈ [22] := by simpa using Array.mem_of_getElem? ht
        have hall : ([22].all fun u => !Tryd.prog.wantsStandIn u) = true := by kernel_rfl
        exact (show Tryd.prog.wantsStandIn t = false by simpa using List.all_eq_true.1 hall t hm)⟩)
    (by kernel_rfl)
#print axioms proved
end Go.Proofs.YtjmgfpldjccilaaDoor.fnEventPut
