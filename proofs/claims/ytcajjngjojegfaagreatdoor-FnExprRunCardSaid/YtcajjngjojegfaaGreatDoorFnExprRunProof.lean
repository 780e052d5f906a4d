/- For every code of bytes the law FnExprRun returns true: a sum comes to what the model says, to a number of 32 bits, and a name and a value more that it does not have change nothing. The one condition is the row's own: the package-level variables hold what the program's text lays (tied by the card). -/
import Derived.Test.YtcajjngjojegfaaGreatDoorAppFrom
namespace Go.Proofs.YtcajjngjojegfaaGreatDoor.fnExprRun
open Go.ChangeShapes Go.WideShapes Go.ChangeAt Go.RowKit Go.Deep Go.PlainAid
set_option linter.unusedVariables false
set_option linter.unusedSimpArgs false

theorem drawn_size {names : List ByteArray} (h : DrawnNames names) : names.length ≤ 4 ∧ ∀ y ∈ names, y.size ≤ 1048576 := by
  rcases h with rfl | rfl | rfl | rfl <;> exact ⟨by decide, by decide⟩
def OwnS (B : Nat) (w : World) (v : Value) (l : List ByteArray) : Prop := w.ownsRow B 9 1 v l.length (l.map Value.string)
theorem OwnS.strs {B : Nat} {w : World} {v : Value} {l : List ByteArray} (h : OwnS B w v l) : ∃ a c, v = .slice a l.length c ∧ IsStrs w.heap.size w a l.length l := by
  have h0 := h
  obtain ⟨h1, h2⟩ := h
  rcases h2 with ⟨hv, hn⟩ | ⟨g, cap, cur, hv, h3, h4, h5, h6⟩
  · exact ⟨none, 0, by rw [hv, hn], rfl, .inl hn⟩
  · refine ⟨_, cap, hv, rfl, ?_⟩
    subst hv
    have hlt := (World.ownsRow.lt h0 g rfl).2
    refine .inr ⟨g, 0, rfl, hlt, fun i hi => ?_⟩
    rw [Nat.zero_add, World.ownsRow.cellAt h0 i (by omega)]
    simp [hi]
theorem src_strs {w : World} {a : Option Addr} {n : Nat} {l : List ByteArray} {B : Nat} (h : IsStrs B w a n l) (hno : n = 0 → a = none ∨ ∃ ad, a = some ad) : n = 0 ∧ a = none ∨ ∃ ad, a = some ad ∧ ∀ j u, (l.map Value.string)[j]? = some u → w.cell? (ad.add j) = some u := by
  rcases h.2 with h0 | ⟨b, o, rfl, hb, hc⟩
  · rcases hno h0 with h2 | ⟨ad, h2⟩
    · exact .inl ⟨h0, h2⟩
    · refine .inr ⟨ad, h2, fun j u hu => ?_⟩
      have : l = [] := List.eq_nil_of_length_eq_zero (by rw [h.1]; exact h0)
      subst this
      simp at hu
  · refine .inr ⟨_, rfl, fun j u hu => ?_⟩
    rw [List.getElem?_map] at hu
    cases hj : l[j]? with
    | none => rw [hj] at hu; cases hu
    | some y =>
      rw [hj] at hu
      simp at hu
      subst hu
      obtain ⟨hjl, rfl⟩ := List.getElem?_eq_some_iff.1 hj
      rw [add_plain]
      exact hc j hjl
theorem src_ints {w : World} {a : Option Addr} {n : Nat} {l : List Int} {B : Nat} (h : IsInts B w a n l) (hno : n = 0 → a = none ∨ ∃ ad, a = some ad) : n = 0 ∧ a = none ∨ ∃ ad, a = some ad ∧ ∀ j u, (l.map (Value.int .i64))[j]? = some u → w.cell? (ad.add j) = some u := by
  rcases h.2 with h0 | ⟨b, o, rfl, hb, hc⟩
  · rcases hno h0 with h2 | ⟨ad, h2⟩
    · exact .inl ⟨h0, h2⟩
    · refine .inr ⟨ad, h2, fun j u hu => ?_⟩
      have : l = [] := List.eq_nil_of_length_eq_zero (by rw [h.1]; exact h0)
      subst this
      simp at hu
  · refine .inr ⟨_, rfl, fun j u hu => ?_⟩
    rw [List.getElem?_map] at hu
    cases hj : l[j]? with
    | none => rw [hj] at hu; cases hu
    | some y =>
      rw [hj] at hu
      simp at hu
      subst hu
      obtain ⟨hjl, rfl⟩ := List.getElem?_eq_some_iff.1 hj
      rw [add_plain, hc j (by rw [← h.1]; exact hjl)]
      simp [hjl]
theorem none_or (a : Option Addr) : a = none ∨ ∃ ad, a = some ad := by cases a <;> simp

set_option maxHeartbeats 1600000 in
set_option maxRecDepth 100000 in
theorem walk (a0 : Option Addr) (n cap : Nat) (bs : List Int) (w : World) (hw : Tabs w) (hc : n ≤ cap) (hm : cap ≤ maxLen) (hz : IsBytes w.heap.size w a0 n bs) :
    Calls Tryz.prog 5 #[.slice a0 n cap] w fun e w' => e = .returned (.bool true) ∧ Below w.heap.size w w' := by
  unfold maxLen at hm
  by_cases hbig : 1048576 < n
  · clear hz hw
    go_enter Tryz.func5, Tryz.ntmps5
    go_wp2_with fail
    go_ret
    exact ⟨rfl, Below.refl _ _⟩
  have HD := hidOf (DrawExprRun_any a0 n cap bs w hc (by omega) hz)
  have HW : Hid (Tabs w) := hw
  obtain ⟨i0, hi, hz0, hz1, hz2⟩ := info_parts infoInt
  obtain ⟨j0, hj, hy0, hy1, hy2⟩ := info_parts infoStr
  clear hz hw
  go_enter Tryz.func5, Tryz.ntmps5
  go_wp2_with fail
  refine HD.out.mono ?_
  rintro e w1 ⟨b, m, c, l, a1, n1, c1, names, a2, n2, c2, vals, rfl, hd⟩
  have HB1 : Hid (Below w.heap.size w w1) := hd.below
  have HW1 : Hid (Tabs w1) := HW.out.up hd.below
  have HF : Hid (NdFit l) := hd.fit
  have HI : Hid (IsNds w1.heap.size w1 b m l) := hd.nds
  obtain ⟨hn4, hls⟩ := drawn_size hd.dn
  have hnl := hd.strs.1
  have hn1 : n1 ≤ 4 := by omega
  have hn2 := hd.few
  have hvl := hd.ints.1
  have hm25 : m ≤ 25 := by have := hd.nds.1; have := hd.fit.1; omega
  have HSC : Hid (ScopeAt w1.heap.size w1 a1 n1 a2 n2 names vals) := ⟨hd.strs, hd.ints⟩
  have HLS : Hid (∀ y ∈ names, y.size ≤ 1048576) := hls
  have HNL : Hid (names.length = n1) := hnl
  have HVL : Hid (vals.length = n2) := hvl
  have HIN : Hid (In32 (valM (ofM names vals) l)) := valM_in (ofM_in names vals) l
  have HMORE : Hid (n2 = n1 → valM (ofM (names ++ [zzz]) (vals ++ [7])) l = valM (ofM names vals) l) := fun h => valM_more hd.fit (by omega)
  clear hd HD hls hnl hvl hn4
  go_wp2_with fail
  refine (implRun_nds w1.heap.size b m c l a1 n1 c1 a2 n2 c2 names vals w1 HW1.out (by omega) (Nat.le_refl _) HF.out.names HF.out.nums HI.out (by omega) (by omega) HSC.out).mono ?_
  rintro e w2 ⟨rfl, bel2⟩
  have HB2 : Hid (Below w1.heap.size w1 w2) := bel2
  have HI2 : Hid (IsNds w2.heap.size w2 b m l) := (HI.out.below bel2).mono bel2.size
  have HS2 : Hid (ScopeAt w2.heap.size w2 a1 n1 a2 n2 names vals) := (HSC.out.keep bel2).mono bel2.size
  clear bel2
  have HSR := hidOf (specRun_nds w2.heap.size b m c l a1 n1 c1 a2 n2 c2 names vals w2 (by omega) (Nat.le_refl _) HF.out.names HI2.out (by omega) (by omega) HLS.out HS2.out)
  obtain ⟨V, hV⟩ : ∃ V, valM (ofM names vals) l = V := ⟨_, rfl⟩
  rw [hV] at HSR HIN HMORE ⊢
  clear hV
  obtain ⟨hv1, hv2⟩ := HIN.out
  have d32 : decide (-2147483648 ≤ V ∧ V ≤ 2147483647) = true := decide_eq_true ⟨hv1, hv2⟩
  have HSRC : Hid (∀ W, Below w1.heap.size w1 W → n1 = 0 ∧ a1 = none ∨ ∃ ad, a1 = some ad ∧ ∀ j u, (names.map Value.string)[j]? = some u → W.cell? (ad.add j) = some u) := fun W hb => src_strs (HSC.out.names.below hb) (fun _ => none_or a1)
  have HSRI : Hid (∀ W, Below w1.heap.size w1 W → n2 = 0 ∧ a2 = none ∨ ∃ ad, a2 = some ad ∧ ∀ j u, (vals.map (Value.int .i64))[j]? = some u → W.cell? (ad.add j) = some u) := fun W hb => src_ints (HSC.out.vals.below hb) (fun _ => none_or a2)
  have HLN : Hid ((names.map Value.string).length = n1 * 1) := by show _ = _; rw [List.length_map, HNL.out, Nat.mul_one]
  have HLV : Hid ((vals.map (Value.int .i64)).length = n2 * 1) := by show _ = _; rw [List.length_map, HVL.out, Nat.mul_one]
  go_wp2_with (first
    | (go_at_call 21; refine HSR.out.mono ?_; rintro e w3 ⟨rfl, bel3⟩; have HB3 : Hid (Below w1.heap.size w1 w3) := below_up HB2.out HB2.out.size bel3; have hs3 := HB3.out.size; clear bel3)
    | (go_at_call 22; refine (ttSmall_any _ _).mono ?_; rintro e w' ⟨rfl, hw'⟩; rw [hw']; clear hw' w')
    | (at_builtin; refine wpList_append_from rfl (.tmp 33) (.tmp 34) 31 rfl w3.heap.size 9 j0 (.string ByteArray.empty) 1 16 Tryz.underlying31 hj hy0 hy1 hy2 rfl (by decide) _ 0 [] rfl (by exact World.ownsRow_made w3 #[] 0 (Nat.le_refl _) (Nat.zero_le _) rfl) a1 n1 c1 (names.map Value.string) rfl HLN.out (by exact HSRC.out _ (HB3.out.alloc hs3 _)) (by intro u hu; simp at hu; obtain ⟨x, _, rfl⟩ := hu; rfl) (by unfold maxLen; omega) (by omega) (by simp) ?_))
  intro v4 w4 hown4 hb4
  have HB4 : Hid (Below w3.heap.size w3 w4) := ((Below.refl w3.heap.size w3).alloc (Nat.le_refl _) _).trans hb4
  have HO4 : Hid (w4.ownsRow w3.heap.size 9 1 v4 n1 (names.map Value.string)) := by show World.ownsRow _ _ _ _ _ _ _; simpa using hown4
  have hs4 := HB4.out.size
  clear hown4 hb4 HSR
  go_wp2_with (at_builtin; (refine wpList_append_own _ rfl (.tmp 35) (.tmp 36) 31 rfl w3.heap.size 9 j0 (.string ByteArray.empty) 1 16 Tryz.underlying31 hj hy0 hy1 hy2 rfl (by decide) _ n1 (names.map Value.string) rfl (by exact (HO4.out.alloc _)) ⟨w4.heap.size, 0, none⟩ 1 1 [.string zzz] rfl rfl (by exact one_new _ _ _) (by intro u hu; simp at hu; subst hu; rfl) (by unfold maxLen; omega) (by omega) (by simp; omega) ?_))
  intro v5 w5 hown5 hgrow5 _
  have HB5 : Hid (Below w3.heap.size w3 w5) := (HB4.out.alloc hs4 _).grown hgrow5 (by simp; omega) (fun q hq => (World.ownsRow.lt HO4.out q hq).1)
  have HO5 : Hid (OwnS w3.heap.size w5 v5 (names ++ [zzz])) := by
    show World.ownsRow _ _ _ _ _ _ _
    simpa [HNL.out] using hown5
  have hs5 := HB5.out.size
  clear hown5 hgrow5 HO4
  obtain ⟨a5, c5, rfl, hi5⟩ := OwnS.strs HO5.out
  have hl5 : (names ++ [zzz]).length = n1 + 1 := by rw [List.length_append, HNL.out]; rfl
  rw [hl5] at hi5 ⊢
  have HI5 : Hid (IsStrs w5.heap.size w5 a5 (n1 + 1) (names ++ [zzz])) := hi5
  have HC5 : Hid (Below w1.heap.size w1 w5) := below_up HB3.out hs3 HB5.out
  have hs15 := HC5.out.size
  clear hi5 hl5 HO5
  go_wp2_with (at_builtin; refine wpList_append_from rfl (.tmp 38) (.tmp 39) 32 rfl w5.heap.size 3 i0 (.int .i64 0) 1 8 Tryz.underlying32 hi hz0 hz1 hz2 rfl (by decide) _ 0 [] rfl (by exact World.ownsRow_made w5 #[] 0 (Nat.le_refl _) (Nat.zero_le _) rfl) a2 n2 c2 (vals.map (Value.int .i64)) rfl HLV.out (by exact HSRI.out _ (HC5.out.alloc hs15 _)) (by intro u hu; simp at hu; obtain ⟨x, _, rfl⟩ := hu; rfl) (by unfold maxLen; omega) (by omega) (by simp) ?_)
  intro v6 w6 hown6 hb6
  have HB6 : Hid (Below w5.heap.size w5 w6) := ((Below.refl w5.heap.size w5).alloc (Nat.le_refl _) _).trans hb6
  have HO6 : Hid (w6.ownsRow w5.heap.size 3 1 v6 n2 (vals.map (Value.int .i64))) := by show World.ownsRow _ _ _ _ _ _ _; simpa using hown6
  have hs6 := HB6.out.size
  clear hown6 hb6
  go_wp2_with (at_builtin; (refine wpList_append_own _ rfl (.tmp 40) (.tmp 41) 32 rfl w5.heap.size 3 i0 (.int .i64 0) 1 8 Tryz.underlying32 hi hz0 hz1 hz2 rfl (by decide) _ n2 (vals.map (Value.int .i64)) rfl (by exact (HO6.out.alloc _)) ⟨w6.heap.size, 0, none⟩ 1 1 [.int .i64 7] rfl rfl (by exact one_new _ _ _) (by intro u hu; simp at hu; subst hu; rfl) (by unfold maxLen; omega) (by omega) (by simp; omega) ?_))
  intro v7 w7 hown7 hgrow7 _
  have HB7 : Hid (Below w5.heap.size w5 w7) := (HB6.out.alloc hs6 _).grown hgrow7 (by simp; omega) (fun q hq => (World.ownsRow.lt HO6.out q hq).1)
  have HO7 : Hid (OwnI w5.heap.size w7 v7 (vals ++ [7])) := by
    show World.ownsRow _ _ _ _ _ _ _
    simpa [HVL.out] using hown7
  have hs7 := HB7.out.size
  clear hown7 hgrow7 HO6
  obtain ⟨a7, c7, rfl, hc7, hi7⟩ := OwnI.ints' HO7.out
  have hl7 : (vals ++ [7]).length = n2 + 1 := by rw [List.length_append, HVL.out]; rfl
  rw [hl7] at hi7 ⊢
  have HC7 : Hid (Below w1.heap.size w1 w7) := below_up HC5.out hs15 HB7.out
  have HS7 : Hid (ScopeAt w7.heap.size w7 a5 (n1 + 1) a7 (n2 + 1) (names ++ [zzz]) (vals ++ [7])) := ⟨(HI5.out.below HB7.out).mono hs7, hi7⟩
  have HI7 : Hid (IsNds w7.heap.size w7 b m l) := (HI.out.below HC7.out).mono HC7.out.size
  have HW7 : Hid (Tabs w7) := HW1.out.up HC7.out
  clear hi7 hl7 hc7 HO7 HI5
  go_wp2_with fail
  refine (implRun_nds w7.heap.size b m c l a5 (n1 + 1) c5 a7 (n2 + 1) c7 (names ++ [zzz]) (vals ++ [7]) w7 HW7.out (by omega) (Nat.le_refl _) HF.out.names HF.out.nums HI7.out (by omega) (by omega) HS7.out).mono ?_
  rintro e w8 ⟨rfl, bel8⟩
  have HB8 : Hid (Below w1.heap.size w1 w8) := below_up HC7.out HC7.out.size bel8
  clear bel8
  obtain ⟨V2, hV2⟩ : ∃ V2, valM (ofM (names ++ [zzz]) (vals ++ [7])) l = V2 := ⟨_, rfl⟩
  rw [hV2] at HMORE ⊢
  clear hV2
  by_cases hnn : n2 = n1
  · have := HMORE.out hnn
    subst this
    subst hnn
    go_wp2_with fail
    go_ret
    exact ⟨rfl, below_up HB1.out HB1.out.size HB8.out⟩
  · have hne : ((n2 : Int) != n1) = true := by simp; omega
    go_wp2_with fail
    go_ret
    exact ⟨rfl, below_up HB1.out HB1.out.size HB8.out⟩

/-! ### THE ROW's STEP -/
set_option maxRecDepth 100000 in
theorem lifted (os : Os) (started : os.Started) (H : Type) (enc : TypeId × Value → H) :
    ReturnsInHanded {} Tryz.checked os 5 .any (fun w args => (Rows.fnExprRunSpec.pre enc Tryz.prog Tryz.f5 Rows.fnExprRunRow.domain false w args ∧ laidMetH Tryz.prog theLaid w) ∧ sizedMet enc Tryz.prog Tryz.f5 (OpenSpec.ofChange Rows.fnExprRunSpec) false w args)
      (Rows.fnExprRunSpec.post enc Tryz.prog Tryz.f5 false true false false) := by
  refine returnsInHanded_of_change_and (C := Tryz.checked) (X := fun w _ => laidMetH Tryz.prog theLaid w) (fun _ _ _ hh h => h.of_heap hh) own started (by kernel_rfl) Tryz.func5
    (ChangeSpec.witness_shaped (enc := enc) (C := Tryz.checked) (os := os) (X := fun w _ => laidMetH Tryz.prog theLaid w) false (World.laidAll Tryz.prog os theLaid) #[.slice none 0 0] 8 (World.laidAll_os _ _ _)
      (shapedL os _) (by kernel_rfl) (by kernel_rfl) (by kernel_rfl) (metL os _)) ?_
  intro W base args ds gs before hval0 hW hcnd _ hL _
  have hval : ∀ (j : Nat) t v, Tryz.f5.params[j]? = some t → args[j]? = some v → Value.okWide Tryz.prog W .any base t v := hval0
  have hW' := hW
  obtain ⟨p, q, hA0, hV, rfl, hfz, hnd⟩ := hW
  have hA : DataW.TrodAll enc Tryz.prog W 0 (fun _ => true) true Tryz.f5.params.toList args.toList ds p := hA0
  rw [Tryz.params5] at hA hval
  obtain ⟨v0, d0, rfl, rfl, h0⟩ := trodAll_one hA
  have hV0 := hV
  obtain ⟨g, t, cs, fuel, gd, pp, rfl, _⟩ := trodVars_one hV0
  obtain ⟨a0, len0, cap0, rfl⟩ := okWide_slice Tryz.underlying22 (hval 0 22 v0 rfl rfl)
  have k0 := h0
  have lt0 : ∀ x ∈ p, x.block < W.heap.size := by obtain ⟨m, hm⟩ := k0; exact DataW.trod_lt m _ _ _ hm
  obtain ⟨fuel0, hf0⟩ := h0
  obtain ⟨hc0, hm0, bs, w0⟩ := open_code rfl hf0
  clear hA0 hval0
  refine (walk a0 len0 cap0 bs W (tabs_of hL) hc0 hm0 w0).mono fun e W' ⟨he, bel⟩ => ?_
  subst he
  exact ⟨_, rfl, _, _, _, [], _, _, hW', trodAll_mk1 (shut_bool Tryz.underlying4 _), trodAll_mk1 (Below.trod laidOut (by kernel_rfl) (of_decide_eq_true (by kernel_rfl)) k0 bel lt0), Below.trodVars laidOut bel (by kernel_rfl) hV, bel.frame _, fun h => by cases h⟩

theorem over : Rows.FnExprRunSaid :=
  OpenClaim.holds_of_wide 5 Tryz.f5 rfl rfl rfl rfl rfl rfl rfl ⟨rfl, rfl, rfl, rfl, rfl⟩ rfl rfl rfl rfl rfl (by kernel_rfl) Tryz.func5 (by kernel_rfl)
    (of_decide_eq_true (by kernel_rfl)) (by unfold Func.isWrapper; first | (rw [if_pos (by decide +kernel)]; kernel_rfl) | (rw [if_neg (by decide +kernel)]; exact ⟨rfl, rfl⟩))
    (fun os started H enc _ => lifted os started H enc)

theorem proved : Rows.FnExprRunCardSaid :=
  Claim7.holds_tied_plain_at .later [] [.data, .data, .data, .data, .sentinel, .sentinel, .data, .pinned] true Rows.fnExprRunCard.stood.harness true over (fun _ h => by cases h) (by kernel_rfl) (fun _ h => by cases h) fnExprRun_row_tie rfl ⟨rfl, rfl⟩ (by kernel_rfl) rfl
    (fun f fn hf hfn => by
      obtain rfl : f = 5 := Option.some.inj ((show Tryz.prog.funcNamed "loop.example/telltale/laws.FnExprRun" = some 5 by kernel_rfl).symm.trans hf) |>.symm
      obtain rfl : fn = Tryz.f5 := (Option.some.inj (Tryz.func5.symm.trans hfn)).symm
      exact ⟨by kernel_rfl, fun j t ht => by
        rw [Tryz.params5] at ht
        have hm : t ∈ [22] := by simpa using Array.mem_of_getElem? ht
        have hall : ([22].all fun u => !Tryz.prog.wantsStandIn u) = true := by kernel_rfl
        exact (show Tryz.prog.wantsStandIn t = false by simpa using List.all_eq_true.1 hall t hm)⟩)
    (by kernel_rfl)
#print axioms proved
end Go.Proofs.YtcajjngjojegfaaGreatDoor.fnExprRun
