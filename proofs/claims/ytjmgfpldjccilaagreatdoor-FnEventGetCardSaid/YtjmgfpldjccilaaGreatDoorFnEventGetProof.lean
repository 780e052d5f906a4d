/- For every code of bytes the law FnEventGet returns true: what is read as an event of a drawn text is what the model reads, is written back as that text, and is read of no text with a blank behind it. The one condition is the row's own: the package-level variables hold what the program's text lays (tied by the card). -/
import Derived.Test.YtjmgfpldjccilaaGreatDoorEvLaidG
import Derived.Test.YtjmgfpldjccilaaGreatDoorEvGetI4
import Derived.Test.YtjmgfpldjccilaaGreatDoorEvGetM
import Derived.Test.YtjmgfpldjccilaaGreatDoorEvPutM
import Derived.Test.YtjmgfpldjccilaaGreatDoorEvTt
import Derived.Test.YtjmgfpldjccilaaGreatDoorDrawEvGet
import Derived.OpenShut
import Derived.ChangeOld
namespace Go.Proofs.YtjmgfpldjccilaaGreatDoor.fnEventGet
open Go Go.ChangeShapes Go.WideShapes Go.ChangeAt Go.RowKit Go.Deep Go.PlainAid
set_option linter.unusedVariables false
set_option linter.unusedSimpArgs false

set_option maxHeartbeats 6400000 in
set_option maxRecDepth 100000 in
theorem walk (a0 : Option Addr) (n c : Nat) (bs : List Int) (w : World) (hw : TbG w) (hc : n ≤ c) (hm : c ≤ maxLen) (hz : IsBytes w.heap.size w a0 n bs) :
    Calls Tryz.prog 3 #[.slice a0 n c] w fun e w' => e = .returned (.bool true) ∧ Below w.heap.size w w' := by
  unfold maxLen at hm
  by_cases hbig : 1048576 < n
  · have hbig' : (1048576 : Int) < n := by omega
    clear hz
    go_enter Tryz.func3, Tryz.ntmps3
    go_wp2_with fail
    go_ret
    exact ⟨rfl, Below.refl _ _⟩
  have hbig' : ¬ (1048576 : Int) < n := by omega
  have HD := hidOf (DrawEventGet_any a0 n c bs w hc (by omega) hz)
  have HW := hidOf (fun W (hb : Below w.heap.size w W) => hw.up hb)
  clear hz hw
  go_enter Tryz.func3, Tryz.ntmps3
  go_wp2_with fail
  refine HD.out.mono ?_
  rintro e w1 ⟨s, rfl, hs, hb1⟩
  have HB1 := hidOf hb1
  clear hb1
  have HG := hidOf (fun W h => implEventGet_any s W h (by omega))
  go_wp2_with fail
  refine (HG.out w1 (HW.out w1 HB1.out)).mono ?_
  rintro e w2 ⟨k, t, m, a2, n2, c2, l, b, rfl, hf2, hc2, hg2, hb2⟩
  have HB2 := hidOf (HB1.out.trans (hb2.mono HB1.out.size))
  have HZ2 := hidOf hf2.1
  have HG2 := hidOf hg2
  have hl2 := hf2.1.1
  have hn2 : n2 ≤ 3 := by
    rcases hg2 with ⟨_, ok, _⟩ | ⟨_, h0, _⟩
    · rcases ok.push with h | h
      · simp only at h; rw [h] at hl2; simp at hl2; omega
      · have := h.2.1; simp only at this; omega
    · cases h0; rw [← hl2]; decide
  clear hf2 hg2 hb2
  obtain ⟨W3, hW3⟩ : ∃ W3, w2.alloc (.cells #[.int .i64 k, .int .i64 t, .int .i64 m, .slice a2 n2 c2] 26) = W3 := ⟨_, rfl⟩
  have hb3 : Below w2.heap.size w2 W3 := by rw [← hW3]; exact (Below.refl _ _).alloc (Nat.le_refl _) _
  have BX3 := hidOf (show BoxAt w2.heap.size [.int .i64 k, .int .i64 t, .int .i64 m, .slice a2 n2 c2] W3 by rw [← hW3]; exact boxAt_new w2 _ _)
  have HW3 := hidOf hW3
  have HB3 := hidOf (HB2.out.trans (hb3.mono HB2.out.size))
  have HZ3 := hidOf (HZ2.out.up hb3)
  have HS3 := hidOf (specEventGet_any s W3 (by omega))
  clear hW3 hb3
  go_wp2_with fail
  rw [HW3.out]
  refine HS3.out.mono ?_
  rintro e w4 ⟨k', t', m', a4, n4, c4, l', b', rfl, hf4, hc4, hg4, hb4⟩
  obtain ⟨he, hbb⟩ := HG2.out.same hg4
  cases he
  subst hbb
  have hn4 : n4 = n2 := by have := hf4.1.1; omega
  subst hn4
  have HB4 := hidOf (HB3.out.trans (hb4.mono HB3.out.size))
  have BX4 := hidOf (BX3.out.below hb4)
  have HZ4 := hidOf (HZ3.out.up hb4)
  have HF4 := hidOf hf4.1
  clear hb4 hf4 hg4
  obtain ⟨W5, hW5⟩ : ∃ W5, w4.alloc (.cells #[.int .i64 k, .int .i64 t, .int .i64 m, .slice a4 n4 c4] 26) = W5 := ⟨_, rfl⟩
  have hb5 : Below w4.heap.size w4 W5 := by rw [← hW5]; exact (Below.refl _ _).alloc (Nat.le_refl _) _
  have BY5 := hidOf (show BoxAt w4.heap.size [.int .i64 k, .int .i64 t, .int .i64 m, .slice a4 n4 c4] W5 by rw [← hW5]; exact boxAt_new w4 _ _)
  have HW5 := hidOf hW5
  have HB5 := hidOf (HB4.out.trans (hb5.mono HB4.out.size))
  have BX5 := hidOf (BX4.out.below hb5)
  have HZ5 := hidOf (HZ4.out.up hb5)
  have HF5 := hidOf (HF4.out.up hb5)
  have HTT : Hid (∀ W, Below W5.heap.size W5 W → Calls Tryz.prog 11 #[.agg #[.int .i64 k, .int .i64 t, .int .i64 m, .slice a2 n4 c2], .agg #[.int .i64 k, .int .i64 t, .int .i64 m, .slice a4 n4 c4]] W fun e w' => e = .returned (.bool true) ∧ Below W.heap.size W w') := fun W hb => ttEvent_same k t m a2 a4 n4 c2 c4 l W (by omega) (HZ5.out.up hb) (HF5.out.up hb)
  have HPU : Hid (∀ W, Below W5.heap.size W5 W → TbG W → Calls Tryz.prog 12 #[.agg #[.int .i64 k, .int .i64 t, .int .i64 m, .slice a2 n4 c2]] W fun e w' => e = .returned (.string (bt8 (putE (k, t, m, l)))) ∧ Below W.heap.size W w') := fun W hb hT => implEventPut_any W.heap.size k t m a2 n4 c2 l W hT.put (Nat.le_refl _) (by omega) (HZ5.out.up hb)
  have HT5 := hidOf (HTT.out W5 (Below.refl _ _))
  clear hW5 hb5
  cases b with
  | false =>
    clear HPU
    have x0 : w4.cell? ⟨w2.heap.size, 0, none⟩ = some _ := (BX4.out.2 0 _ rfl).1
    have x1 : w4.cell? ⟨w2.heap.size, 1, none⟩ = some _ := (BX4.out.2 1 _ rfl).1
    have x2 : w4.cell? ⟨w2.heap.size, 2, none⟩ = some _ := (BX4.out.2 2 _ rfl).1
    have x3 : w4.cell? ⟨w2.heap.size, 3, none⟩ = some _ := (BX4.out.2 3 _ rfl).1
    have hx := BX4.out.1
    go_wp2_with fail
    rw [HW5.out]
    refine HT5.out.mono ?_
    rintro e w6 ⟨rfl, hb6⟩
    have HB6 := hidOf (HB5.out.trans (hb6.mono HB5.out.size))
    have BX6 := hidOf (BX5.out.below hb6)
    have BY6 := hidOf (BY5.out.below hb6)
    have HT6 := hidOf (HTT.out w6 hb6)
    clear hb6 x0 x1 x2 x3 hx
    have x0 : w6.cell? ⟨w2.heap.size, 0, none⟩ = some _ := (BX6.out.2 0 _ rfl).1
    have x1 : w6.cell? ⟨w2.heap.size, 1, none⟩ = some _ := (BX6.out.2 1 _ rfl).1
    have x2 : w6.cell? ⟨w2.heap.size, 2, none⟩ = some _ := (BX6.out.2 2 _ rfl).1
    have x3 : w6.cell? ⟨w2.heap.size, 3, none⟩ = some _ := (BX6.out.2 3 _ rfl).1
    have hx := BX6.out.1
    have y0 : w6.cell? ⟨w4.heap.size, 0, none⟩ = some _ := (BY6.out.2 0 _ rfl).1
    have y1 : w6.cell? ⟨w4.heap.size, 1, none⟩ = some _ := (BY6.out.2 1 _ rfl).1
    have y2 : w6.cell? ⟨w4.heap.size, 2, none⟩ = some _ := (BY6.out.2 2 _ rfl).1
    have y3 : w6.cell? ⟨w4.heap.size, 3, none⟩ = some _ := (BY6.out.2 3 _ rfl).1
    have hy := BY6.out.1
    go_wp2_with fail
    refine HT6.out.mono ?_
    rintro e w7 ⟨rfl, hb7⟩
    have HB7 := hidOf (HB6.out.trans (hb7.mono HB6.out.size))
    clear hb7
    go_wp2_with fail
    go_ret
    exact ⟨rfl, HB7.out⟩
  | true =>
    have hok : OkE (k, t, m, l) ∧ s = bt8 (evT (k, t, m, l)) := by
      rcases HG2.out with ⟨_, h1, h2⟩ | ⟨h, _⟩
      · exact ⟨h1, h2⟩
      · exact absurd h (by decide)
    have hP : bt8 (putE (k, t, m, l)) = s := by unfold putE; rw [okE_iff.2 hok.1]; exact hok.2.symm
    have HEND : Hid (∀ f : Ev, OkE f → s ++ ⟨#[32]⟩ ≠ bt8 (evT f)) := by
      intro f hf h
      rw [hok.2, show (⟨#[32]⟩ : ByteArray) = bt8 [32] from rfl, bt8_app] at h
      exact evT_end hf _ (bt8_inj h).symm
    rw [hP] at HPU
    have hsz1 : ¬ 9223372036854775807 < s.size + 1 := by omega
    have hsz2 : (s ++ ⟨#[32]⟩).size ≤ 1048576 := by rw [ByteArray.size_append]; show s.size + 1 ≤ _; omega
    clear hP hok
    have x0 : w4.cell? ⟨w2.heap.size, 0, none⟩ = some _ := (BX4.out.2 0 _ rfl).1
    have x1 : w4.cell? ⟨w2.heap.size, 1, none⟩ = some _ := (BX4.out.2 1 _ rfl).1
    have x2 : w4.cell? ⟨w2.heap.size, 2, none⟩ = some _ := (BX4.out.2 2 _ rfl).1
    have x3 : w4.cell? ⟨w2.heap.size, 3, none⟩ = some _ := (BX4.out.2 3 _ rfl).1
    have hx := BX4.out.1
    go_wp2_with fail
    rw [HW5.out]
    refine HT5.out.mono ?_
    rintro e w6 ⟨rfl, hb6⟩
    have HB6 := hidOf (HB5.out.trans (hb6.mono HB5.out.size))
    have BX6 := hidOf (BX5.out.below hb6)
    have HQ6 := hidOf hb6
    have HG6 := hidOf (implEventGet_any (s ++ ⟨#[32]⟩) w6 (HW.out w6 HB6.out) hsz2)
    clear hb6 x0 x1 x2 x3 hx
    go_wp2_with fail
    refine HG6.out.mono ?_
    rintro e w7 ⟨k7, t7, m7, a7, n7, c7, l7, b7, rfl, hf7, hc7, hg7, hb7⟩
    have hb7f : b7 = false := by
      rcases hg7 with ⟨_, h1, h2⟩ | ⟨h, _⟩
      · exact absurd h2 (HEND.out _ h1)
      · exact h
    subst hb7f
    have HB7 := hidOf (HB6.out.trans (hb7.mono HB6.out.size))
    have BX7 := hidOf (BX6.out.below hb7)
    have hq7 : Below W5.heap.size W5 w7 := HQ6.out.trans (hb7.mono HQ6.out.size)
    have ha7 : Below w7.heap.size w7 (w7.alloc (.cells #[.int .i64 k7, .int .i64 t7, .int .i64 m7, .slice a7 n7 c7] 26)) := (Below.refl _ _).alloc (Nat.le_refl _) _
    have HB7a := hidOf (HB7.out.trans (ha7.mono HB7.out.size))
    have HP7 := hidOf (HPU.out _ (hq7.trans (ha7.mono hq7.size)) (HW.out _ HB7a.out))
    clear hb7 hf7 hg7 hq7 ha7
    have x0 : w7.cell? ⟨w2.heap.size, 0, none⟩ = some _ := (BX7.out.2 0 _ rfl).1
    have x1 : w7.cell? ⟨w2.heap.size, 1, none⟩ = some _ := (BX7.out.2 1 _ rfl).1
    have x2 : w7.cell? ⟨w2.heap.size, 2, none⟩ = some _ := (BX7.out.2 2 _ rfl).1
    have x3 : w7.cell? ⟨w2.heap.size, 3, none⟩ = some _ := (BX7.out.2 3 _ rfl).1
    have hx := BX7.out.1
    go_wp2_with fail
    refine HP7.out.mono ?_
    rintro e w8 ⟨rfl, hb8⟩
    have HB8 := hidOf (HB7a.out.trans (hb8.mono HB7a.out.size))
    clear hb8
    go_wp2_with fail
    go_ret
    exact ⟨rfl, HB8.out⟩

/-! ### THE ROW's STEP -/
set_option maxRecDepth 100000 in
theorem lifted (os : Os) (started : os.Started) (H : Type) (enc : TypeId × Value → H) :
    ReturnsInHanded {} Tryz.checked os 3 .any (fun w args => (Rows.fnEventGetSpec.pre enc Tryz.prog Tryz.f3 Rows.fnEventGetRow.domain false w args ∧ laidMetH Tryz.prog laidG w) ∧ sizedMet enc Tryz.prog Tryz.f3 (OpenSpec.ofChange Rows.fnEventGetSpec) false w args)
      (Rows.fnEventGetSpec.post enc Tryz.prog Tryz.f3 false true false false) := by
  refine stepG (C := Tryz.checked) (l := laidG) own started (by kernel_rfl) Tryz.func3
    (ChangeSpec.witness_shaped (enc := enc) (C := Tryz.checked) (os := os) (X := fun w _ => laidMetH Tryz.prog laidG w) false (World.laidAll Tryz.prog os laidG) #[.slice none 0 0] 8 (World.laidAll_os _ _ _)
      (shapedG os _) (by kernel_rfl) (by kernel_rfl) (by kernel_rfl) (metG os _)) ?_
  intro W base args ds gs before hval0 hW hL hSH
  have hval : ∀ (j : Nat) t v, Tryz.f3.params[j]? = some t → args[j]? = some v → Value.okWide Tryz.prog W .any base t v := hval0
  have hW' := hW
  obtain ⟨p, q, hA0, hV, rfl, hfz, hnd⟩ := hW
  have hA : DataW.TrodAll enc Tryz.prog W 0 (fun _ => true) true Tryz.f3.params.toList args.toList ds p := hA0
  rw [Tryz.params3] at hA hval
  obtain ⟨v0, d0, rfl, rfl, h0⟩ := trodAll_one hA
  have hV0 := hV
  obtain ⟨g, t, cs, fuel, gd, pp, rfl, _⟩ := trodVars_one hV0
  have k0 := h0
  have lt0 : ∀ x ∈ p, x.block < W.heap.size := by obtain ⟨m, hm⟩ := k0; exact DataW.trod_lt m _ _ _ hm
  obtain ⟨a0, len0, cap0, rfl⟩ := okWide_slice Tryz.underlying22 (hval 0 22 v0 rfl rfl)
  obtain ⟨fuel0, hf0⟩ := h0
  obtain ⟨hc0, hm0, bs, w0⟩ := open_code rfl hf0
  clear hA0 hval0
  refine (walk a0 len0 cap0 bs W (tabsG_of hL hSH) hc0 hm0 w0).mono fun e W' ⟨he, bel⟩ => ?_
  subst he
  exact ⟨_, rfl, _, _, _, [], _, _, hW', trodAll_mk1 (shut_bool Tryz.underlying4 _), trodAll_mk1 (Below.trod laidOut (by kernel_rfl) (of_decide_eq_true (by kernel_rfl)) k0 bel lt0), Below.trodVars laidOut bel (by kernel_rfl) hV, bel.frame _, fun h => by cases h⟩

theorem over : Rows.FnEventGetSaid :=
  OpenClaim.holds_of_wide 3 Tryz.f3 rfl rfl rfl rfl rfl rfl rfl ⟨rfl, rfl, rfl, rfl, rfl⟩ rfl rfl rfl rfl rfl (by kernel_rfl) Tryz.func3 (by kernel_rfl)
    (of_decide_eq_true (by kernel_rfl)) (by unfold Func.isWrapper; first | (rw [if_pos (by decide +kernel)]; kernel_rfl) | (rw [if_neg (by decide +kernel)]; exact ⟨rfl, rfl⟩))
    (fun os started H enc _ => lifted os started H enc)

theorem proved : Rows.FnEventGetCardSaid :=
  Claim7.holds_tied_plain_at .later [] [.data, .data, .data, .data, .sentinel, .sentinel, .data, .pinned] true Rows.fnEventGetCard.stood.harness true over (fun _ h => by cases h) (by kernel_rfl) (fun _ h => by cases h) fnEventGet_row_tie rfl ⟨rfl, rfl⟩ (by kernel_rfl) rfl
    (fun f fn hf hfn => by
      obtain rfl : f = 3 := Option.some.inj ((show Tryz.prog.funcNamed "loop.example/telltale/laws.FnEventGet" = some 3 by kernel_rfl).symm.trans hf) |>.symm
      obtain rfl : fn = Tryz.f3 := (Option.some.inj (Tryz.func3.symm.trans hfn)).symm
      exact ⟨by kernel_rfl, fun j t ht => by
        rw [Tryz.params3] at ht
        have hm : t ∈ [22] := by simpa using Array.mem_of_getElem? ht
        have hall : ([22].all fun u => !Tryz.prog.wantsStandIn u) = true := by kernel_rfl
        exact (show Tryz.prog.wantsStandIn t = false by simpa using List.all_eq_true.1 hall t hm)⟩)
    (by kernel_rfl)
#print axioms proved
end Go.Proofs.YtjmgfpldjccilaaGreatDoor.fnEventGet
