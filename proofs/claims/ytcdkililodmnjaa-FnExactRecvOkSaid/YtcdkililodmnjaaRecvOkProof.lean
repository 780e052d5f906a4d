/- For every Recv the law FnExactRecvOk returns true: RecvOk of the program answers as the model's, and its argument reads as before. No condition. -/
import Derived.Test.YtcdkililodmnjaaRows
import Derived.Test.YtcdkililodmnjaaRecvOkBoth
import Derived.Test.YtcdkililodmnjaaFlatRecv
import Derived.Test.YtcdkililodmnjaaListMem
import Derived.WalkKit
import Derived.ProofKit
import Derived.OpenShut
import Derived.Deep.RegionHeld3
namespace Go.Proofs.Ytcdkililodmnjaa.fnExactRecvOk
open Go Go.ChangeShapes Go.WideShapes Go.ChangeAt Go.RowKit Go.Deep Go.PlainAid
set_option linter.unusedVariables false
set_option linter.unusedSimpArgs false

theorem own : ownKnob Try.prog.godebug = none := by kernel_rfl
theorem laidOut : laidOutB Try.prog = true := by kernel_rfl

set_option maxHeartbeats 1600000 in
set_option maxRecDepth 100000 in
theorem walk (i0 : Int) (a : Option Addr) (n c : Nat) (vs : List (List Int)) (w : World) (hc : n ≤ c) (hm : c ≤ maxLen) (hwd : ∀ x ∈ vs, x.length ≤ maxLen) (hz : IsArr 1 QIs w.heap.size w a n vs) :
    Calls Try.prog 6 #[.agg #[.int .i64 i0, .slice a n c]] w fun e w' => e = .returned (.bool true) ∧ Below w.heap.size w w' := by
  have HZ : Hid (∀ W, Below w.heap.size w W → IsArr 1 QIs w.heap.size W a n vs) := fun W hb => hz.below (QIs.below hb) hb
  have hl := hz.1
  have HSZ : Hid (∀ W, Below w.heap.size w W → Calls Try.prog 19 #[.agg #[.int .i64 i0, .slice a n c], .int .i64 1048576] W fun e w' => SzP (n + wsum List.length vs) 1048576 W e w') := fun W hb => szRecv_gen (n + wsum List.length vs) i0 a n c 1048576 W fun W' hb' => szIntSS_any w.heap.size a n c vs 1048576 _ (by decide) (by decide) (Nat.le_trans hc hm) (by have := hb'.size; have := hb.size; omega) hwd (HZ.out _ (hb.trans (hb'.mono hb.size)))
  clear hz
  go_enter Try.func6, Try.ntmps6
  go_wp2_with fail
  refine (HSZ.out _ (by go_grown)).mono ?_
  rintro e w1 ⟨r, rfl, hb1, p1, p2, p3⟩
  have HB1 := hidOf (below_boxed hb1)
  have BX1 := hidOf ((boxAt_new w [.int .i64 i0, .slice a n c] 43).below hb1)
  have HP := hidOf p3
  clear hb1 p3 HSZ
  have c0 : w1.cell? ⟨w.heap.size, 0, none⟩ = some (.int .i64 i0) := (BX1.out.2 0 _ rfl).1
  have c1 : w1.cell? ⟨w.heap.size, 1, none⟩ = some (.slice a n c) := (BX1.out.2 1 _ rfl).1
  have s1 := BX1.out.1
  by_cases hr : r < 0
  · go_wp2_with fail
    go_ret
    exact ⟨rfl, HB1.out⟩
  have hn : n ≤ 1048576 := by have := HP.out (by omega); omega
  have HF : Hid (∀ x ∈ vs, x.length ≤ 1048576) := fun x hx => by have := HP.out (by omega); have := wsum_mem (f := List.length) hx; omega
  have HTO : Hid (∀ W, Below w.heap.size w W → Calls Try.prog 21 #[.agg #[.int .i64 i0, .slice a n c]] W fun e w' => ∃ g, e = .returned (.agg #[.int .i64 i0, .slice (some ⟨g, 0, none⟩) n n]) ∧ CIss n vs (W.heap.size + 3) g w' ∧ Below W.heap.size W w') := fun W hb =>
    toRecv_gen (fun g w' => CIss n vs (W.heap.size + 3) g w') i0 a n c W (fun W' hb' hs => (toIntSS_any w.heap.size a n c vs _ hn (by have := hb'.size; have := hb.size; omega) HF.out (HZ.out _ (hb.trans (hb'.mono hb.size)))).mono fun _ _ h => CIss.of h (by omega)) (fun g p w1 w2 hp hmv hk => hk.mv hmv hp)
  clear HZ
  go_wp2_with fail
  refine (HTO.out _ HB1.out).mono ?_
  rintro e w2 ⟨g, rfl, hg, hb2⟩
  have HG := hidOf hg
  have HB2 : Hid (Below w.heap.size w w2) := HB1.out.trans (hb2.mono HB1.out.size)
  have BX2 := hidOf (BX1.out.below hb2)
  clear hg hb2 c0 c1
  go_wp2_with fail
  refine (specRecvOk_any w2.heap.size i0 (some ⟨g, 0, none⟩) n n vs w2 (by unfold maxLen; omega) (Nat.le_refl _) HG.out.is).mono ?_
  rintro e w3 ⟨rfl, hb3⟩
  have HB3 : Hid (Below w.heap.size w w3) := HB2.out.trans (hb3.mono HB2.out.size)
  have BX3 := hidOf (BX2.out.below hb3)
  have c0 : w3.cell? ⟨w.heap.size, 0, none⟩ = some (.int .i64 i0) := (BX3.out.2 0 _ rfl).1
  have c1 : w3.cell? ⟨w.heap.size, 1, none⟩ = some (.slice a n c) := (BX3.out.2 1 _ rfl).1
  have s3 := BX3.out.1
  clear hb3
  go_wp2_with fail
  refine (HTO.out _ HB3.out).mono ?_
  rintro e w4 ⟨g', rfl, hg', hb4⟩
  have HG' := hidOf hg'
  have HB4 : Hid (Below w.heap.size w w4) := HB3.out.trans (hb4.mono HB3.out.size)
  have BX4 := hidOf (BX3.out.below hb4)
  clear hg' hb4 c0 c1
  have hba : Below w4.heap.size w4 (w4.alloc (.cells #[.int .i64 i0, .slice (some ⟨g', 0, none⟩) n n] 46)) := (Below.refl _ _).alloc (Nat.le_refl _) _
  have HBA := hidOf hba
  have HIM := hidOf (implRecvOk_any (w4.heap.size + 1) i0 (some ⟨g', 0, none⟩) n n vs (w4.alloc (.cells #[.int .i64 i0, .slice (some ⟨g', 0, none⟩) n n] 46)) (by unfold maxLen; omega) (by simp) (by have := HG'.out.is.upQ hba; simpa using this))
  have BY4 := hidOf (boxAt_new w4 [.int .i64 i0, .slice (some ⟨g', 0, none⟩) n n] 46)
  clear hba
  go_wp2_with fail
  refine HIM.out.mono ?_
  rintro e w5 ⟨rfl, hb5⟩
  have HB5 : Hid (Below w4.heap.size w4 w5) := HBA.out.trans (hb5.mono (by simp))
  have BX5 := hidOf (BX4.out.below HB5.out)
  have BY5 := hidOf (BY4.out.below hb5)
  have c0 : w5.cell? ⟨w.heap.size, 0, none⟩ = some (.int .i64 i0) := (BX5.out.2 0 _ rfl).1
  have c1 : w5.cell? ⟨w.heap.size, 1, none⟩ = some (.slice a n c) := (BX5.out.2 1 _ rfl).1
  have d0 : w5.cell? ⟨w4.heap.size, 0, none⟩ = some (.int .i64 i0) := (BY5.out.2 0 _ rfl).1
  have d1 : w5.cell? ⟨w4.heap.size, 1, none⟩ = some (.slice (some ⟨g', 0, none⟩) n n) := (BY5.out.2 1 _ rfl).1
  have s5 := BX5.out.1
  have t5 := BY5.out.1
  have HBW5 : Hid (Below w.heap.size w w5) := HB4.out.trans (HB5.out.mono HB4.out.size)
  have HG5 := hidOf (HG'.out.below HB5.out)
  clear hb5
  go_wp2_with fail
  have HTD : Hid (∀ W, Below w5.heap.size w5 W → Calls Try.prog 21 #[.agg #[.int .i64 i0, .slice a n c]] W fun e w' => ∃ g, e = .returned (.agg #[.int .i64 i0, .slice (some ⟨g, 0, none⟩) n n]) ∧ CIss n vs (W.heap.size + 3) g w' ∧ Below W.heap.size W w') := fun W hb => HTO.out W (HBW5.out.trans (hb.mono HBW5.out.size))
  have HEQ : Hid (∀ W L L' g g', CIss n vs L g W → CIss n vs L' g' W → Calls Try.prog 23 #[.agg #[.int .i64 i0, .slice (some ⟨g, 0, none⟩) n n], .agg #[.int .i64 i0, .slice (some ⟨g', 0, none⟩) n n]] W fun e w' => e = .returned (.bool true) ∧ Below W.heap.size W w') := fun W L L' g g' hg hg' => eqRecv_gen i0 _ n n _ n n W fun W' hb' => eqIntSS_same _ (some ⟨g, 0, none⟩) (some ⟨g', 0, none⟩) n n n vs _ hn (Nat.le_refl _) HF.out (hg.is.upQ hb') (hg'.is.upQ hb')
  go_region_held3 (fun w' => w'.cell? ⟨w.heap.size, 0, none⟩ = some (.int .i64 i0) ∧ w'.cell? ⟨w.heap.size, 1, none⟩ = some (.slice a n c) ∧ w'.cell? ⟨w4.heap.size, 0, none⟩ = some (.int .i64 i0) ∧ w'.cell? ⟨w4.heap.size, 1, none⟩ = some (.slice (some ⟨g', 0, none⟩) n n)) (simp [go_sem, *])
    (first
      | (go_at_call 21; refine (HTD.out _ (by first | exact drewN (Below.refl _ _) 1 | go_grown)).mono ?_; rintro e w6 ⟨g'', rfl, hg6, hb6⟩; replace hb6 : Below w5.heap.size w5 w6 := undrew hb6; have HG6 := hidOf hg6; have HG7 := hidOf (HG5.out.below hb6); have HB6 := hidOf hb6; have s6 : w.heap.size < w6.heap.size := Nat.lt_of_lt_of_le s5 hb6.size; have t6 : w4.heap.size < w6.heap.size := Nat.lt_of_lt_of_le t5 hb6.size; obtain ⟨hc1, hf1⟩ := bcell hb6; clear hg6 hb6)
      | (go_at_call 23; refine (HEQ.out _ _ _ _ _ HG7.out HG6.out).mono ?_; rintro e w7 ⟨rfl, hb7⟩; have HB7 := hidOf hb7; obtain ⟨hc2, hf2⟩ := bcell hb7; clear hb7))
  go_wp2_with fail
  go_ret
  exact ⟨rfl, HBW5.out.trans ((HB6.out.trans (HB7.out.mono HB6.out.size)).mono HBW5.out.size)⟩

set_option maxRecDepth 100000 in
theorem lifted (os : Os) (started : os.Started) (H : Type) (enc : TypeId × Value → H) :
    ReturnsInHanded {} Try.checked os 6 .any (Rows.fnExactRecvOkSpec.pre6 enc Try.prog Try.f6 Rows.fnExactRecvOkRow.domain false) (Rows.fnExactRecvOkSpec.post enc Try.prog Try.f6 false true false false) := by
  refine returnsInHanded_of_change (C := Try.checked) own started (by kernel_rfl) Try.func6
    (ChangeSpec.witness6 (enc := enc) (C := Try.checked) false ⟨#[], #[.agg #[.int .i64 0, .slice none 0 0]], []⟩ 8 (by kernel_rfl) (by kernel_rfl) (by kernel_rfl) (by kernel_rfl)) ?_
  intro W base args ds gs before hval0 hW hcnd _
  have hval : ∀ (j : Nat) t v, Try.f6.params[j]? = some t → args[j]? = some v → Value.okWide Try.prog W .any base t v := hval0
  have hW' := hW
  obtain ⟨p, q, hA0, hV, rfl, hfz, hnd⟩ := hW
  have hA : DataW.TrodAll enc Try.prog W 0 (fun _ => true) true Try.f6.params.toList args.toList ds p := hA0
  rw [Try.params6] at hA hval
  obtain ⟨v0, vs0, d0, ds0, p0, q0, hargs, rfl, rfl, h0, r0⟩ := trodAll_cons hA
  obtain ⟨rfl, rfl, rfl⟩ := trodAll_nil r0
  obtain rfl : args = #[v0] := by cases args; simp_all
  obtain ⟨rfl, rfl⟩ := trodVars_none hV
  obtain ⟨cs, rfl, hsz⟩ := okWide_struct Try.underlying43 (hval 0 43 v0 rfl rfl)
  have k0 := h0
  have lt0 : ∀ x ∈ p0, x.block < W.heap.size := by obtain ⟨m, hm⟩ := k0; exact DataW.trod_lt m _ _ _ hm
  obtain ⟨fuel0, hf0⟩ := h0
  obtain ⟨i0, a, n, c, hcs, ⟨hc, hm⟩, hwd, kk, yy, hy⟩ := open_Recv fuel0 cs.toList _ (by rw [Array.length_toList, hsz]; kernel_rfl) hf0
  obtain rfl : cs = #[.int .i64 i0, .slice a n c] := by cases cs; simp_all
  obtain ⟨vs, _, hz, hwd2⟩ := open_lists (a0 := a) (len0 := n) (cap0 := c) hy
  clear hA0 hval0
  refine (walk i0 a n c vs W hc hm hwd2 hz).mono fun e W' ⟨he, bel⟩ => ?_
  subst he
  exact ⟨_, rfl, _, _, _, [], _, [], hW', trodAll_mk1 (shut_bool Try.underlying4 _), (trodAll_cons_mk (Below.trod laidOut (by kernel_rfl) (of_decide_eq_true (by kernel_rfl)) k0 bel lt0) trodAll_mk0), rfl, bel.frame _, fun h => by cases h⟩

theorem over : Rows.fnExactRecvOkRow.holds Try.pinned (OpenSpec.ofChange Rows.fnExactRecvOkSpec) :=
  OpenClaim.holds_of_wide 6 Try.f6 rfl rfl rfl rfl rfl rfl rfl ⟨rfl, rfl, rfl, rfl, rfl⟩ rfl rfl rfl rfl rfl (by kernel_rfl) Try.func6 (by kernel_rfl)
    (of_decide_eq_true (by kernel_rfl)) (by unfold Func.isWrapper; first | (rw [if_pos (by decide +kernel)]; kernel_rfl) | (rw [if_neg (by decide +kernel)]; exact ⟨rfl, rfl⟩))
    (fun os started H enc _ => lifted os started H enc)

theorem proved : Rows.FnExactRecvOkSaid := over
#print axioms proved
end Go.Proofs.Ytcdkililodmnjaa.fnExactRecvOk
