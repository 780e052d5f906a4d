/- For every text the law FnExactEventGet returns true: EventGet of the program answers as the model's, field by field, and its answer owns its memory, behind another call too. The one condition is the row's own: the package-level variables hold what the program's text lays (tied by the card). -/
import Derived.Test.YtjmgfpldjccilaaDoorEvLaidG
import Derived.Test.YtjmgfpldjccilaaDoorEvGetM
import Derived.Test.YtjmgfpldjccilaaDoorEvGetI4
import Derived.Test.YtjmgfpldjccilaaDoorEvMark
import Derived.ShutString
import Derived.OpenShut
import Derived.ChangeOld
namespace Go.Proofs.YtjmgfpldjccilaaDoor.fnExactEventGet
open Go Go.ChangeShapes Go.WideShapes Go.ChangeAt Go.RowKit Go.Deep Go.PlainAid Go.ChangeMaps
set_option linter.unusedVariables false
set_option linter.unusedSimpArgs false

theorem got_small {s : ByteArray} {k t m : Int} {l : List Int} {b : Bool} (h : GotE s (k, t, m, l) b) : l.length ≤ 3 := by
  rcases h with ⟨_, h, _⟩ | ⟨_, h, _⟩
  · have := h.push
    simp only [] at this
    rcases this with h | h
    · rw [h]; simp
    · exact h.2.1
  · cases h; simp

set_option maxHeartbeats 6400000 in
set_option maxRecDepth 100000 in
theorem walk (s : ByteArray) (w : World) (hw : TbG w) :
    Calls Tryd.prog 5 #[.string s] w fun e w' => e = .returned (.bool true) ∧ Below w.heap.size w w' := by
  by_cases hbig : 1048576 < s.size
  · have hbig' : (1048576 : Int) < s.size := by omega
    go_enter Tryd.func5, Tryd.ntmps5
    go_wp2_with fail
    go_ret
    exact ⟨rfl, Below.refl _ _⟩
  have hbig' : ¬ (1048576 : Int) < s.size := by omega
  have HS := hidOf (fun W => specEventGet_any s W (by omega))
  have HI := hidOf (fun W h => implEventGet_any s W h (by omega))
  have HW := hidOf (fun W (hb : Below w.heap.size w W) => hw.up hb)
  clear hw
  go_enter Tryd.func5, Tryd.ntmps5
  go_wp2_with fail
  refine (HS.out w).mono ?_
  rintro e w1 ⟨k, t, m, a, n, c, l, b, rfl, hf1, hc1, hg1, hb1⟩
  have hn := hf1.1.1
  have hn3 := got_small hg1
  have HG := hidOf hg1
  have HF1 := hidOf hf1
  have HB1 := hidOf hb1
  clear hb1 hf1 hg1
  obtain ⟨W2, hW2⟩ : ∃ W2, w1.alloc (.cells #[.int .i64 k, .int .i64 t, .int .i64 m, .slice a n c] 25) = W2 := ⟨_, rfl⟩
  have hb2 : Below w1.heap.size w1 W2 := by rw [← hW2]; exact (Below.refl _ _).alloc (Nat.le_refl _) _
  have hs2 : W2.heap.size = w1.heap.size + 1 := by rw [← hW2]; simp
  have BX2 := hidOf (show BoxAt w1.heap.size [.int .i64 k, .int .i64 t, .int .i64 m, .slice a n c] W2 by rw [← hW2]; exact boxAt_new w1 _ _)
  have HW2 := hidOf hW2
  have HB2 := hidOf (HB1.out.trans (hb2.mono HB1.out.size))
  have HZ2 := hidOf (HF1.out.1.below hb2)
  clear hW2 hb2
  go_wp2_with fail
  rw [HW2.out]
  refine (HI.out W2 (HW.out W2 HB2.out)).mono ?_
  rintro e w3 ⟨k', t', m', a2, n', c2, l', b', rfl, hf3, hc3, hg3, hb3⟩
  obtain ⟨he, hbb⟩ := HG.out.same hg3
  cases he
  subst hbb
  have hn' : n' = n := by have := hf3.1.1; omega
  subst hn'
  have HF3 := hidOf hf3
  have HB3 := hidOf (HB2.out.trans (hb3.mono HB2.out.size))
  have BX3 := hidOf (BX2.out.below hb3)
  have HZ3 := hidOf (HZ2.out.below (hb3.mono (by omega)))
  have hs3 : W2.heap.size ≤ w3.heap.size := hb3.size
  clear hb3 hf3 hg3
  obtain ⟨W4, hW4⟩ : ∃ W4, w3.alloc (.cells #[.int .i64 k, .int .i64 t, .int .i64 m, .slice a2 n' c2] 25) = W4 := ⟨_, rfl⟩
  have hb4 : Below w3.heap.size w3 W4 := by rw [← hW4]; exact (Below.refl _ _).alloc (Nat.le_refl _) _
  have hs4 : W4.heap.size = w3.heap.size + 1 := by rw [← hW4]; simp
  have BY4 := hidOf (show BoxAt w3.heap.size [.int .i64 k, .int .i64 t, .int .i64 m, .slice a2 n' c2] W4 by rw [← hW4]; exact boxAt_new w3 _ _)
  have HW4 := hidOf hW4
  have HB4 := hidOf (HB3.out.trans (hb4.mono HB3.out.size))
  have BX4 := hidOf (BX3.out.below hb4)
  have HF4 := hidOf (HF3.out.below hb4)
  have HU4 := hidOf (show ∀ b o, a2 = some ⟨b, o, none⟩ → n' ≠ 0 → b < w3.heap.size from HF3.out.upto)
  have HZ4 := hidOf (HZ3.out.below (hb4.mono (by omega)))
  have HE4 := hidOf (eqEvent_same k t m a2 a n' c2 c l W4 (by omega) HF4.out.1 (HZ4.out.mono (by omega)))
  clear hW4 hb4
  have x0 : w3.cell? ⟨w1.heap.size, 0, none⟩ = some _ := (BX3.out.2 0 _ rfl).1
  have x1 : w3.cell? ⟨w1.heap.size, 1, none⟩ = some _ := (BX3.out.2 1 _ rfl).1
  have x2 : w3.cell? ⟨w1.heap.size, 2, none⟩ = some _ := (BX3.out.2 2 _ rfl).1
  have x3 : w3.cell? ⟨w1.heap.size, 3, none⟩ = some _ := (BX3.out.2 3 _ rfl).1
  have hx := BX3.out.1
  have hbne : (b != b) = false := by simp
  go_wp2_with fail
  rw [HW4.out]
  refine HE4.out.mono ?_
  rintro e w5 ⟨rfl, hb5⟩
  have HB5 := hidOf (HB4.out.trans (hb5.mono HB4.out.size))
  have BX5 := hidOf (BX4.out.below hb5)
  have BY5 := hidOf (BY4.out.below hb5)
  have HF5 := hidOf (HF4.out.below hb5)
  have HZ5 := hidOf (HZ4.out.below (hb5.mono (by omega)))
  have hs5 : W4.heap.size ≤ w5.heap.size := hb5.size
  have HM5 := hidOf (markEvent_any W2.heap.size w3.heap.size k t m a2 n' c2 l 1 w5 HF5.out HU4.out (by omega) (by omega) (by decide) (by decide))
  clear hb5 x0 x1 x2 x3
  have y0 : w5.cell? ⟨w3.heap.size, 0, none⟩ = some _ := (BY5.out.2 0 _ rfl).1
  have y1 : w5.cell? ⟨w3.heap.size, 1, none⟩ = some _ := (BY5.out.2 1 _ rfl).1
  have y2 : w5.cell? ⟨w3.heap.size, 2, none⟩ = some _ := (BY5.out.2 2 _ rfl).1
  have y3 : w5.cell? ⟨w3.heap.size, 3, none⟩ = some _ := (BY5.out.2 3 _ rfl).1
  have hy := BY5.out.1
  go_wp2_with fail
  refine HM5.out.mono ?_
  rintro e w6 ⟨rfl, hh6, hm6⟩
  have hbw : Below W2.heap.size w5 w6 := hm6.belowL (Nat.le_refl _) (by omega)
  have HB6 := hidOf (HB5.out.trans (hbw.mono (by have := HB2.out.size; omega)))
  have BX6 := hidOf (BX5.out.mvR hm6 (by omega))
  have BY6 := hidOf (BY5.out.mvR hm6 (by omega))
  have HH6 := hidOf hh6
  have HZ6 := hidOf (HZ5.out.below (hbw.mono (by omega)))
  have hs6 : w5.heap.size ≤ w6.heap.size := hm6.size
  have HD6 := hidOf (heldEvent_any k t m a2 n' c2 1 w6 hh6 (by omega) (by decide) (by decide))
  clear hh6 hm6 hbw y0 y1 y2 y3
  have y0 : w6.cell? ⟨w3.heap.size, 0, none⟩ = some _ := (BY6.out.2 0 _ rfl).1
  have y1 : w6.cell? ⟨w3.heap.size, 1, none⟩ = some _ := (BY6.out.2 1 _ rfl).1
  have y2 : w6.cell? ⟨w3.heap.size, 2, none⟩ = some _ := (BY6.out.2 2 _ rfl).1
  have y3 : w6.cell? ⟨w3.heap.size, 3, none⟩ = some _ := (BY6.out.2 3 _ rfl).1
  have hy6 := BY6.out.1
  go_wp2_with fail
  refine HD6.out.mono ?_
  rintro e w7 ⟨rfl, hb7⟩
  have HB7 := hidOf (HB6.out.trans (hb7.mono HB6.out.size))
  have BX7 := hidOf (BX6.out.below hb7)
  have BY7 := hidOf (BY6.out.below hb7)
  have HH7 := hidOf (HH6.out.below hb7)
  have HZ7 := hidOf (HZ6.out.below (hb7.mono (by omega)))
  have hs7 : w6.heap.size ≤ w7.heap.size := hb7.size
  clear hb7 y0 y1 y2 y3
  have hk1 : ¬ (1 : Int) + n' < 0 := by omega
  have hk2 : ((1 : Int) + n' != 1 + n') = false := by simp
  go_wp2_with fail
  refine (HI.out w7 (HW.out w7 HB7.out)).mono ?_
  rintro e w8 ⟨k'', t'', m'', a3, n'', c3, l'', b'', rfl, hf8, hc8, hg8, hb8⟩
  obtain ⟨he, hbb⟩ := HG.out.same hg8
  cases he
  subst hbb
  have hn'' : n'' = n' := by have := hf8.1.1; omega
  subst hn''
  have HB8 := hidOf (HB7.out.trans (hb8.mono HB7.out.size))
  have BX8 := hidOf (BX7.out.below hb8)
  have BY8 := hidOf (BY7.out.below hb8)
  have HH8 := hidOf (HH7.out.below hb8)
  have HZ8 := hidOf (HZ7.out.below (hb8.mono (by omega)))
  have hs8 : w7.heap.size ≤ w8.heap.size := hb8.size
  have HF8 := hidOf hf8
  clear hb8 hf8 hg8
  obtain ⟨W9, hW9⟩ : ∃ W9, w8.alloc (.cells #[.int .i64 k, .int .i64 t, .int .i64 m, .slice a3 n'' c3] 25) = W9 := ⟨_, rfl⟩
  have hb9 : Below w8.heap.size w8 W9 := by rw [← hW9]; exact (Below.refl _ _).alloc (Nat.le_refl _) _
  have hs9 : W9.heap.size = w8.heap.size + 1 := by rw [← hW9]; simp
  have HW9 := hidOf hW9
  have HB9 := hidOf (HB8.out.trans (hb9.mono HB8.out.size))
  have BY9 := hidOf (BY8.out.below hb9)
  have HH9 := hidOf (HH8.out.below hb9)
  have HE9 := hidOf (eqEvent_same k t m a3 a n'' c3 c l W9 (by omega) (HF8.out.below hb9).1 ((HZ8.out.below (hb9.mono (by omega))).mono (by omega)))
  clear hW9 hb9
  have x0 : w8.cell? ⟨w1.heap.size, 0, none⟩ = some _ := (BX8.out.2 0 _ rfl).1
  have x1 : w8.cell? ⟨w1.heap.size, 1, none⟩ = some _ := (BX8.out.2 1 _ rfl).1
  have x2 : w8.cell? ⟨w1.heap.size, 2, none⟩ = some _ := (BX8.out.2 2 _ rfl).1
  have x3 : w8.cell? ⟨w1.heap.size, 3, none⟩ = some _ := (BX8.out.2 3 _ rfl).1
  have hx8 := BX8.out.1
  go_wp2_with fail
  rw [HW9.out]
  refine HE9.out.mono ?_
  rintro e w10 ⟨rfl, hb10⟩
  have HB10 := hidOf (HB9.out.trans (hb10.mono HB9.out.size))
  have BY10 := hidOf (BY9.out.below hb10)
  have HD10 := hidOf (heldEvent_any k t m a2 n'' c2 1 w10 (HH9.out.below hb10) (by omega) (by decide) (by decide))
  clear hb10 x0 x1 x2 x3
  have y0 : w10.cell? ⟨w3.heap.size, 0, none⟩ = some _ := (BY10.out.2 0 _ rfl).1
  have y1 : w10.cell? ⟨w3.heap.size, 1, none⟩ = some _ := (BY10.out.2 1 _ rfl).1
  have y2 : w10.cell? ⟨w3.heap.size, 2, none⟩ = some _ := (BY10.out.2 2 _ rfl).1
  have y3 : w10.cell? ⟨w3.heap.size, 3, none⟩ = some _ := (BY10.out.2 3 _ rfl).1
  have hy10 := BY10.out.1
  go_wp2_with fail
  refine HD10.out.mono ?_
  rintro e w11 ⟨rfl, hb11⟩
  have HB11 := hidOf (HB10.out.trans (hb11.mono HB10.out.size))
  clear hb11
  go_wp2_with fail
  go_ret
  exact ⟨rfl, HB11.out⟩

/-! ### THE ROW's STEP -/
set_option maxRecDepth 100000 in
theorem lifted (os : Os) (started : os.Started) (H : Type) (enc : TypeId × Value → H) :
    ReturnsInHanded {} Tryd.checked os 5 .any (fun w args => (Rows.fnExactEventGetSpec.pre enc Tryd.prog Tryd.f5 Rows.fnExactEventGetRow.domain false w args ∧ laidMetH Tryd.prog laidG w) ∧ sizedMet enc Tryd.prog Tryd.f5 (OpenSpec.ofChange Rows.fnExactEventGetSpec) false w args)
      (Rows.fnExactEventGetSpec.post enc Tryd.prog Tryd.f5 false true false false) := by
  refine stepG (C := Tryd.checked) (l := laidG) own started (by kernel_rfl) Tryd.func5
    (ChangeSpec.witness_shaped (enc := enc) (C := Tryd.checked) (os := os) (X := fun w _ => laidMetH Tryd.prog laidG w) false (World.laidAll Tryd.prog os laidG) #[.string ⟨#[]⟩] 8 (World.laidAll_os _ _ _)
      (shapedG os _) (by kernel_rfl) (by kernel_rfl) (by kernel_rfl) (metG os _)) ?_
  intro W base args ds gs before hval0 hW hL hSH
  have hval : ∀ (j : Nat) t v, Tryd.f5.params[j]? = some t → args[j]? = some v → Value.okWide Tryd.prog W .any base t v := hval0
  have hW' := hW
  obtain ⟨p, q, hA0, hV, rfl, hfz, hnd⟩ := hW
  have hA : DataW.TrodAll enc Tryd.prog W 0 (fun _ => true) true Tryd.f5.params.toList args.toList ds p := hA0
  rw [Tryd.params5] at hA hval
  obtain ⟨v0, d0, rfl, rfl, h0⟩ := trodAll_one hA
  have hV0 := hV
  obtain ⟨g, t, cs, fuel, gd, pp, rfl, _⟩ := trodVars_one hV0
  have k0 := h0
  have lt0 : ∀ x ∈ p, x.block < W.heap.size := by obtain ⟨m, hm⟩ := k0; exact DataW.trod_lt m _ _ _ hm
  obtain ⟨s0, rfl, rfl, rfl, hs0⟩ := open_string Tryd.underlying9 (hval 0 9 v0 rfl rfl) h0
  clear hA0 hval0
  refine (walk s0 W (tabsG_of hL hSH)).mono fun e W' ⟨he, bel⟩ => ?_
  subst he
  exact ⟨_, rfl, _, _, _, [], _, _, hW', trodAll_mk1 (shut_bool Tryd.underlying4 _), trodAll_mk1 (Below.trod laidOut (by kernel_rfl) (of_decide_eq_true (by kernel_rfl)) k0 bel lt0), Below.trodVars laidOut bel (by kernel_rfl) hV, bel.frame _, fun h => by cases h⟩

theorem over : Rows.FnExactEventGetSaid :=
  OpenClaim.holds_of_wide 5 Tryd.f5 rfl rfl rfl rfl rfl rfl rfl ⟨rfl, rfl, rfl, rfl, rfl⟩ rfl rfl rfl rfl rfl (by kernel_rfl) Tryd.func5 (by kernel_rfl)
    (of_decide_eq_true (by kernel_rfl)) (by unfold Func.isWrapper; first | (rw [if_pos (by decide +kernel)]; kernel_rfl) | (rw [if_neg (by decide +kernel)]; exact ⟨rfl, rfl⟩))
    (fun os started H enc _ => lifted os started H enc)

theorem proved : Rows.FnExactEventGetCardSaid :=
  Claim7.holds_tied_plain_at .later [] [.data, .data, .data, .data, .sentinel, .sentinel, .data, .pinned] true Rows.fnExactEventGetCard.stood.harness true over (fun _ h => by cases h) (by kernel_rfl) (fun _ h => by cases h) fnExactEventGet_row_tie rfl ⟨rfl, rfl⟩ (by kernel_rfl) rfl
    (fun f fn hf hfn => by
      obtain rfl : f = 5 := Option.some.inj ((show Tryd.prog.funcNamed "loop.example/telltale/laws.FnExactEventGet" = some 5 by kernel_rfl).symm.trans hf) |>.symm
      obtain rfl : fn = Tryd.f5 := (Option.some.inj (Tryd.func5.symm.trans hfn)).symm
      exact ⟨by kernel_rfl, fun j t ht => by
        rw [Tryd.params5] at ht
        have hm : t ∈ [9] := by simpa using Array.mem_of_getElem? ht
        have hall : ([9].all fun u => !Tryd.prog.wantsStandIn u) = true := by kernel_rfl
        exact (show Tryd.prog.wantsStandIn t = false by simpa using List.all_eq_true.1 hall t hm)⟩)
    (by kernel_rfl)
#print axioms proved
end Go.Proofs.YtjmgfpldjccilaaDoor.fnExactEventGet
