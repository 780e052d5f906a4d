/- For every two codes of bytes the law FnCode returns true: the program's code of a drawn sum is the model's, never has more on its stack than it has ops, is no longer than the sum, and comes to what the sum comes to. The one condition is the row's own: the package-level variables hold what the program's text lays (tied by the card). -/
import Derived.Test.YtbpfonmkbbnkcaaGreatDoorDrawCode
import Derived.Test.YtbpfonmkbbnkcaaGreatDoorCodeVal
import Derived.Test.YtbpfonmkbbnkcaaGreatDoorCodeOfLaw
import Derived.Test.YtbpfonmkbbnkcaaGreatDoorLift
namespace Go.Proofs.YtbpfonmkbbnkcaaGreatDoor.fnCode
open Go.ChangeShapes Go.WideShapes Go.ChangeAt Go.RowKit Go.Deep Go.PlainAid
set_option linter.unusedVariables false
set_option linter.unusedSimpArgs false

theorem bytes_below {B : Nat} {w w' : World} {a : Option Addr} {n : Nat} {l : List Int} (h : IsBytes B w a n l) (hb : Below B w w') : IsBytes B w' a n l := by
  obtain ⟨h1, h2⟩ := h
  refine ⟨h1, ?_⟩
  rcases h2 with h2 | ⟨b, off, rfl, hlt, hc⟩
  · exact .inl h2
  · exact .inr ⟨b, off, rfl, hlt, fun i hi => ⟨(hb.cell (p := ⟨b, off + i, none⟩) hlt).trans (hc i hi).1, (hc i hi).2⟩⟩
theorem drawn_size {names : List ByteArray} (h : DrawnCode names) : names.length ≤ 4 ∧ ∀ y ∈ names, y.size ≤ 1048576 := by
  rcases h with rfl | rfl | rfl | rfl <;> exact ⟨by decide, by decide⟩

set_option maxHeartbeats 800000 in
set_option maxRecDepth 100000 in
theorem ttOps_same (a a' : Option Addr) (n cap cap' : Nat) (zs : List (Int × Int)) (w : World) (hn : n ≤ 1048576) (hz : IsOps w a n zs) (hz' : IsOps w a' n zs) :
    Calls Tryz.prog 26 #[.slice a n cap, .slice a' n cap'] w fun e w' => e = .returned (.bool true) ∧ Below w.heap.size w w' := by
  obtain ⟨hlen, hcells⟩ := hz
  obtain ⟨_, hcells'⟩ := hz'
  go_enter Tryz.func26, Tryz.ntmps26
  go_wp2
  go_loopw [5] (fun i wr => ∃ k : Nat, k ≤ n ∧ i = .int .i64 k ∧ Below w.heap.size w wr) (fun i _ => n - (intOf i).toNat)
  case atStart => exact ⟨0, Nat.zero_le _, rfl, Below.refl _ _⟩
  case round =>
    obtain ⟨k, hk, rfl, hbel⟩ := hrel
    by_cases hlt : k < n
    · rcases hcells with h0 | ⟨b, off, rfl, hb, hc⟩
      · omega
      rcases hcells' with h0 | ⟨b', off', rfl, hb', hc'⟩
      · omega
      have c0 := (hbel.cell (p := ⟨b, off + k * 2, none⟩) hb).trans (hc k hlt).1
      have c1 := (hbel.cell (p := ⟨b, off + k * 2 + 1, none⟩) hb).trans (hc k hlt).2
      have d0 := (hbel.cell (p := ⟨b', off' + k * 2, none⟩) hb').trans (hc' k hlt).1
      have d1 := (hbel.cell (p := ⟨b', off' + k * 2 + 1, none⟩) hb').trans (hc' k hlt).2
      generalize (zs.getD k (0, 0)).1 = z0 at *
      generalize (zs.getD k (0, 0)).2 = z1 at *
      clear hc hc'
      go_wp2_with fail
      go_quiet (fail)
      go_wp2_with fail
      go_roundw
      case rel => exact ⟨k + 1, by omega, by go_num, drewN hbel _⟩
      case measure => simp [intOf]; omega
    · go_wp2
      go_ret
      exact ⟨rfl, hbel⟩

set_option maxHeartbeats 1600000 in
set_option maxRecDepth 100000 in
theorem walk (a0 : Option Addr) (n cap : Nat) (bs : List Int) (a1 : Option Addr) (n1 c1 : Nat) (bs1 : List Int) (w : World) (hw : Tabs w) (hc : n ≤ cap) (hm : cap ≤ maxLen) (hc1 : n1 ≤ c1) (hm1 : c1 ≤ maxLen) (hz : IsBytes w.heap.size w a0 n bs) (hz1 : IsBytes w.heap.size w a1 n1 bs1) :
    Calls Tryz.prog 7 #[.slice a0 n cap, .slice a1 n1 c1] w fun e w' => e = .returned (.bool true) ∧ Below w.heap.size w w' := by
  unfold maxLen at hm hm1
  by_cases hbig : 1048576 < n
  · clear hz hz1 hw
    go_enter Tryz.func7, Tryz.ntmps7
    go_wp2_with fail
    go_ret
    exact ⟨rfl, Below.refl _ _⟩
  by_cases hbig1 : 1048576 < n1
  · clear hz hz1 hw
    go_enter Tryz.func7, Tryz.ntmps7
    go_wp2_with fail
    go_ret
    exact ⟨rfl, Below.refl _ _⟩
  have HD := hidOf (DrawCodeOf_any a0 n cap bs w hc (by omega) hz)
  have HW : Hid (Tabs w) := hw
  have HZ1 := hidOf hz1
  have hl1 := hz1.1
  clear hz hz1 hw
  go_enter Tryz.func7, Tryz.ntmps7
  go_wp2_with fail
  refine HD.out.mono ?_
  rintro e w1 ⟨b, m, c, l, a2, n2, c2, names, rfl, hfit, hnds, hdn, hstr, bel1⟩
  have HB1 : Hid (Below w.heap.size w w1) := bel1
  have HF : Hid (NdFit l) := hfit
  have HI : Hid (IsNds w1.heap.size w1 b m l) := hnds
  have HS : Hid (IsStrs w1.heap.size w1 a2 n2 names) := hstr
  have HW1 : Hid (Tabs w1) := HW.out.up bel1
  have hml := hnds.1
  have hm25 : m ≤ 25 := by have := hfit.1; omega
  obtain ⟨hn4, hls⟩ := drawn_size hdn
  have hnl := hstr.1
  have HLS : Hid (∀ y ∈ names, y.size ≤ 1048576) := hls
  have hn2 : n2 ≤ 4 := by omega
  clear hfit hnds hdn hstr bel1 HD hls
  obtain ⟨R, hR⟩ : ∃ R, codeOfM names l = R := ⟨_, rfl⟩
  have HR := hidOf hR
  have hZ25 : (codeZs R).length ≤ 25 := by
    rw [← hR]
    unfold codeOfM codeM codeZs
    split
    · simp
    · rename_i hh
      cases hsm : sumM l with
      | none => exact absurd (.inl hsm) hh
      | some t =>
        cases hc : codeTo names l l.length with
        | none => simp
        | some st =>
          obtain ⟨stk, hstk⟩ := good_to (sum_summy hsm) l.length (Nat.le_refl _)
          have := (code_len (sum_summy hsm) l.length (Nat.le_refl _) hc hstk).1
          have := (sumM_some hsm).1
          simp; omega
  clear hR
  go_wp2_with fail
  refine (implCodeOf_any w1.heap.size b m c l a2 n2 c2 names w1 HW1.out (by omega) (Nat.le_refl _) HF.out.names HF.out.nums HI.out (by omega) HS.out).mono ?_
  intro e w2 hp2
  rw [HR.out] at hp2
  obtain ⟨ag, cg, rfl, ans2, bel2⟩ := hp2.ans
  have HB2 : Hid (Below w1.heap.size w1 w2) := bel2
  have G2 : Hid (IsOps w2 ag (codeZs R).length (codeZs R)) := ans2.ops
  have I2 : Hid (IsNds w2.heap.size w2 b m l) := (HI.out.below bel2).mono bel2.size
  have S2 : Hid (IsStrs w2.heap.size w2 a2 n2 names) := (HS.out.below bel2).mono bel2.size
  clear hp2 ans2 bel2
  go_wp2_with fail
  refine (specCodeOf_any w2.heap.size b m c l a2 n2 c2 names w2 (by omega) (Nat.le_refl _) HF.out.names I2.out (by omega) HLS.out S2.out).mono ?_
  intro e w3 hp3
  rw [HR.out] at hp3
  obtain ⟨aw, cw, rfl, ans3, bel3⟩ := hp3.ans
  have HB3 : Hid (Below w1.heap.size w1 w3) := below_up HB2.out HB2.out.size bel3
  have G3 : Hid (IsOps w3 ag (codeZs R).length (codeZs R)) := ops_below G2.out bel3
  have A3 : Hid (IsOps w3 aw (codeZs R).length (codeZs R)) := ans3.ops
  clear hp3 ans3 bel3 G2 I2 S2 HB2
  have HTT := hidOf (fun W (hb : Below w3.heap.size w3 W) => ttOps_same ag aw (codeZs R).length cg cw (codeZs R) W (by omega) (ops_below G3.out hb) (ops_below A3.out hb))
  have hs3 := HB3.out.size
  cases R with
  | none =>
    go_wp2_with (first
      | (go_at_call 26; refine (HTT.out _ (by assumption)).mono ?_; rintro e w5 ⟨rfl, bel5⟩)
      | (go_at_call 26; refine (HTT.out _ (Below.refl _ _)).mono ?_; rintro e w4 ⟨rfl, bel4⟩))
    go_ret
    exact ⟨rfl, below_up HB1.out HB1.out.size (below_up (below_up HB3.out hs3 bel4) (Nat.le_trans hs3 bel4.size) bel5)⟩
  | some st =>
    obtain ⟨i0, hi, hz0, hz1, hz2⟩ := info_parts infoInt
    obtain ⟨t, hsum, hcm, hst⟩ : ∃ t, sumM l = some t ∧ codeM names l = some st ∧ st.length ≤ l.length := by
      have h := HR.out
      unfold codeOfM at h
      split at h
      · cases h
      · rename_i hh
        cases hsm : sumM l with
        | none => exact absurd (.inl hsm) hh
        | some t =>
          obtain ⟨stk, hstk⟩ := good_to (sum_summy hsm) l.length (Nat.le_refl _)
          exact ⟨t, rfl, h, (code_len (sum_summy hsm) l.length (Nat.le_refl _) h hstk).1⟩
    have HCV := hidOf (fun vals (hv : vals.length = names.length) => code_val (vals := vals) hv (by omega) hsum hcm hst)
    have hzs : codeZs (some st) = st.reverse := rfl
    have hzl : (codeZs (some st)).length = st.length := by rw [hzs, List.length_reverse]
    rw [hzl] at G3 A3 HTT hZ25 ⊢
    rw [hzs] at G3 A3
    obtain ⟨q, hq⟩ : ∃ q, st.length = q := ⟨_, rfl⟩
    have hqm : q ≤ m := by omega
    rw [hq] at G3 A3 HTT hZ25 HCV ⊢
    obtain ⟨zs, hzz⟩ : ∃ zs, st.reverse = zs := ⟨_, rfl⟩
    rw [hzz] at G3 A3 HCV
    clear hsum hcm hst hzs hzl hq hzz HR
    go_wp2_with (go_at_call 26; refine (HTT.out _ (Below.refl _ _)).mono ?_; rintro e w4 ⟨rfl, bel4⟩; have HB4 : Hid (Below w1.heap.size w1 w4) := below_up HB3.out hs3 bel4; have G4 : Hid (IsOps w4 ag q zs) := ops_below G3.out bel4; have hs4 := bel4.size; clear bel4)
    clear HTT A3 G3
    have HZ4 : Hid (IsBytes w.heap.size w4 a1 n1 bs1) := bytes_below HZ1.out (HB1.out.trans (HB4.out.mono HB1.out.size))
    have hsw4 : w.heap.size ≤ w4.heap.size := (HB1.out.trans (HB4.out.mono HB1.out.size)).size
    go_loopw [11, 12] (fun v i wr => ∃ (k : Nat) (vals : List Int), k ≤ n2 ∧ i = .int .i64 k ∧ Hid (vals.length = k) ∧ Hid (wr.ownsRow w4.heap.size 3 1 v k (vals.map (Value.int .i64))) ∧ Below w4.heap.size w4 wr) (fun _ i _ => n2 - (intOf i).toNat)
    case atStart => exact ⟨0, [], Nat.zero_le _, rfl, rfl, World.ownsRow_made w4 #[] 0 (Nat.le_refl _) (Nat.zero_le _) rfl, (Below.refl _ _).alloc (Nat.le_refl _) _⟩
    case round =>
      obtain ⟨k, vals, hk, rfl, HV, HO, hbel⟩ := hrel
      have hws := hbel.size
      by_cases hlt : k < n2
      · by_cases hk1 : k < n1
        · rcases HZ4.out.2 with h0 | ⟨bb, off, rfl, hb, hcell⟩
          · omega
          obtain ⟨x, hx⟩ : ∃ x, bs1[k]'(by omega) = x := ⟨_, rfl⟩
          have cc := hcell k (by omega)
          rw [hx] at cc
          have c0 := (hbel.cell (p := ⟨bb, off + k, none⟩) (by simp; omega)).trans cc.1
          obtain ⟨_, x0, x1⟩ := cc
          have hbr : bb < wr.heap.size := by omega
          have hw1 : IntKind.i64.wrap (x * 16843009) = x * 16843009 := IntWalk.i64_in _ ⟨by omega, by omega⟩
          have hw2 : IntKind.i64.wrap (x * 16843009 - 2147483648) = x * 16843009 - 2147483648 := IntWalk.i64_in _ ⟨by omega, by omega⟩
          clear hcell hx
          go_wp2_with (at_builtin; (refine wpList_append_own _ rfl (.tmp 82) (.tmp 84) 32 rfl w4.heap.size 3 i0 (.int .i64 0) 1 8 Tryz.underlying32 hi hz0 hz1 hz2 rfl (by decide) _ k (vals.map (Value.int .i64)) rfl (by exact (HO.out.alloc _)) ⟨wr.heap.size, 0, none⟩ 1 1 [.int .i64 (x * 16843009 - 2147483648)] rfl rfl (by exact one_new _ _ _) (by intro u hu; simp at hu; subst hu; rfl) (by unfold maxLen; omega) (by omega) (by simp; omega) ?_))
          intro v' w' hown' hgrow' _
          have HB' : Hid (Below w4.heap.size w4 w') := (hbel.alloc hws _).grown hgrow' (by simp; omega) (fun q hq => (World.ownsRow.lt HO.out q hq).1)
          have HO' := hidOf hown'
          clear hown' hgrow'
          go_wp2_with fail
          go_roundw
          case rel => exact ⟨k + 1, vals ++ [x * 16843009 - 2147483648], by omega, by go_num, by show _ = _; rw [List.length_append, HV.out]; rfl, by show World.ownsRow _ _ _ _ _ _ _; rw [List.map_append]; exact HO'.out, HB'.out⟩
          case measure => simp [intOf]; omega
        · have hw1 : IntKind.i64.wrap (3 * (k : Int)) = 3 * k := IntWalk.i64_in _ ⟨by omega, by omega⟩
          have hw2 : IntKind.i64.wrap (3 * (k : Int) - 2) = 3 * k - 2 := IntWalk.i64_in _ ⟨by omega, by omega⟩
          go_wp2_with (at_builtin; (refine wpList_append_own _ rfl (.tmp 82) (.tmp 84) 32 rfl w4.heap.size 3 i0 (.int .i64 0) 1 8 Tryz.underlying32 hi hz0 hz1 hz2 rfl (by decide) _ k (vals.map (Value.int .i64)) rfl (by exact (HO.out.alloc _)) ⟨wr.heap.size, 0, none⟩ 1 1 [.int .i64 (3 * k - 2)] rfl rfl (by exact one_new _ _ _) (by intro u hu; simp at hu; subst hu; rfl) (by unfold maxLen; omega) (by omega) (by simp; omega) ?_))
          intro v' w' hown' hgrow' _
          have HB' : Hid (Below w4.heap.size w4 w') := (hbel.alloc hws _).grown hgrow' (by simp; omega) (fun q hq => (World.ownsRow.lt HO.out q hq).1)
          have HO' := hidOf hown'
          clear hown' hgrow'
          go_wp2_with fail
          go_roundw
          case rel => exact ⟨k + 1, vals ++ [3 * (k : Int) - 2], by omega, by go_num, by show _ = _; rw [List.length_append, HV.out]; rfl, by show World.ownsRow _ _ _ _ _ _ _; rw [List.map_append]; exact HO'.out, HB'.out⟩
          case measure => simp [intOf]; omega
      · have : k = n2 := by omega
        subst this
        have hvl := HV.out
        obtain ⟨va, vc, rfl, hvc, hints⟩ := OwnI.ints' (B := w4.heap.size) (w := wr) (l := vals) (by unfold OwnI; rw [hvl]; exact HO.out)
        rw [hvl] at hints hvc ⊢
        have HVI : Hid (IsInts wr.heap.size wr va k vals) := hints
        obtain ⟨d1, d2, d3⟩ := HCV.out vals (by omega)
        have HG : Hid (IsOps wr ag q zs) := ops_below G4.out hbel
        have HBW : Hid (Below w1.heap.size w1 wr) := HB4.out.trans (hbel.mono (by omega))
        have HVM := hidOf d3
        obtain ⟨D, hD⟩ : ∃ D, deepOf (names.length : Int) zs = D := ⟨_, rfl⟩
        have HDD := hidOf hD
        obtain ⟨V, hV⟩ : ∃ V, codeVal vals zs = V := ⟨_, rfl⟩
        have HVV := hidOf hV
        rw [hD] at d1 d2
        clear hD hV d3 hints HCV G4 HO HV
        go_wp2_with fail
        refine (implDeep_any ag q cg (k : Int) zs wr (by omega) HG.out).mono ?_
        rintro e w5 ⟨rfl, bel5⟩
        rw [← hnl, HDD.out]
        have HB5 : Hid (Below w1.heap.size w1 w5) := below_up HBW.out HBW.out.size bel5
        have HCR : Hid (Calls Tryz.prog 28 #[.slice ag q cg, .slice va k vc] w5 fun e w' => e = .returned (.int .i64 V) ∧ Below w5.heap.size w5 w') := by
          rw [← HVV.out]
          exact implRun_any ag q cg va k vc zs vals w5 (by omega) (by omega) (ops_below HG.out bel5) ((HVI.out.below bel5).mono bel5.size)
        have HER : Hid (∀ W, Below w5.heap.size w5 W → Calls Tryz.prog 20 #[.slice b m c, .slice a2 k c2, .slice va k vc] W fun e w' => e = .returned (.int .i64 V) ∧ Below W.heap.size W w') := fun W hb => by
          have hbW : Below w1.heap.size w1 W := below_up HB5.out HB5.out.size hb
          have hvi : IsInts W.heap.size W va k vals := (((HVI.out.below bel5).mono bel5.size).below hb).mono hb.size
          rw [← HVV.out, HVM.out]
          exact implRun_nds W.heap.size b m c l a2 k c2 va k vc names vals W (HW1.out.up hbW) (by omega) (Nat.le_refl _) HF.out.names HF.out.nums ((HI.out.below hbW).mono hbW.size) (by omega) (by omega) ⟨(HS.out.below hbW).mono hbW.size, hvi⟩
        clear bel5 HG HVI
        go_wp2_with (first
          | (go_at_call 28; refine HCR.out.mono ?_; rintro e w6 ⟨rfl, bel6⟩)
          | (go_at_call 20; refine (HER.out _ bel6).mono ?_; rintro e w7 ⟨rfl, bel7⟩))
        go_ret
        exact ⟨rfl, below_up HB1.out HB1.out.size (below_up (below_up HB5.out HB5.out.size bel6) (Nat.le_trans HB5.out.size bel6.size) bel7)⟩

/-! ### THE ROW's STEP -/
set_option maxRecDepth 100000 in
theorem lifted (os : Os) (started : os.Started) (H : Type) (enc : TypeId × Value → H) :
    ReturnsInHanded {} Tryz.checked os 7 .any (fun w args => (Rows.fnCodeSpec.pre enc Tryz.prog Tryz.f7 Rows.fnCodeRow.domain false w args ∧ laidMetH Tryz.prog theLaid w) ∧ sizedMet enc Tryz.prog Tryz.f7 (OpenSpec.ofChange Rows.fnCodeSpec) false w args)
      (Rows.fnCodeSpec.post enc Tryz.prog Tryz.f7 false true false false) := by
  refine returnsInHanded_of_change_and (C := Tryz.checked) (X := fun w _ => laidMetH Tryz.prog theLaid w) (fun _ _ _ hh h => h.of_heap hh) own started (by kernel_rfl) Tryz.func7
    (ChangeSpec.witness_shaped (enc := enc) (C := Tryz.checked) (os := os) (X := fun w _ => laidMetH Tryz.prog theLaid w) false (World.laidAll Tryz.prog os theLaid) #[.slice none 0 0, .slice none 0 0] 8 (World.laidAll_os _ _ _)
      (shapedL os _) (by kernel_rfl) (by kernel_rfl) (by kernel_rfl) (metL os _)) ?_
  intro W base args ds gs before hval0 hW hcnd _ hL _
  have hval : ∀ (j : Nat) t v, Tryz.f7.params[j]? = some t → args[j]? = some v → Value.okWide Tryz.prog W .any base t v := hval0
  have hW' := hW
  obtain ⟨p, q, hA0, hV, rfl, hfz, hnd⟩ := hW
  have hA : DataW.TrodAll enc Tryz.prog W 0 (fun _ => true) true Tryz.f7.params.toList args.toList ds p := hA0
  rw [Tryz.params7] at hA hval
  obtain ⟨v0, vs0, d0, ds0, p0, q0, hargs, rfl, rfl, h0, r0⟩ := trodAll_cons hA
  obtain ⟨v1, vs1, d1, ds1, p1, q1, rfl, rfl, rfl, h1, r1⟩ := trodAll_cons r0
  obtain ⟨rfl, rfl, rfl⟩ := trodAll_nil r1
  obtain rfl : args = #[v0, v1] := by cases args; simp_all
  have hV0 := hV
  obtain ⟨g, t, cs, fuel, gd, pp, rfl, _⟩ := trodVars_one hV0
  obtain ⟨a0, len0, cap0, rfl⟩ := okWide_slice Tryz.underlying22 (hval 0 22 v0 rfl rfl)
  obtain ⟨a1, len1, cap1, rfl⟩ := okWide_slice Tryz.underlying22 (hval 1 22 v1 rfl rfl)
  have k0 := h0
  have k1 := h1
  have lt0 : ∀ x ∈ p0, x.block < W.heap.size := by obtain ⟨m, hm⟩ := k0; exact DataW.trod_lt m _ _ _ hm
  have lt1 : ∀ x ∈ p1, x.block < W.heap.size := by obtain ⟨m, hm⟩ := k1; exact DataW.trod_lt m _ _ _ hm
  obtain ⟨f0, hf0⟩ := h0
  obtain ⟨hc0, hm0, bs0, w0⟩ := open_code rfl hf0
  obtain ⟨f1, hf1⟩ := h1
  obtain ⟨hc1, hm1, bs1, w1⟩ := open_code rfl hf1
  clear hA0 hval0
  refine (walk a0 len0 cap0 bs0 a1 len1 cap1 bs1 W (tabs_of hL) hc0 hm0 hc1 hm1 w0 w1).mono fun e W' ⟨he, bel⟩ => ?_
  subst he
  exact ⟨_, rfl, _, _, _, [], _, _, hW', trodAll_mk1 (shut_bool Tryz.underlying4 _), (trodAll_cons_mk (Below.trod laidOut (by kernel_rfl) (of_decide_eq_true (by kernel_rfl)) k0 bel lt0) (trodAll_cons_mk (Below.trod laidOut (by kernel_rfl) (of_decide_eq_true (by kernel_rfl)) k1 bel lt1) trodAll_mk0)), Below.trodVars laidOut bel (by kernel_rfl) hV, bel.frame _, fun h => by cases h⟩

theorem over : Rows.FnCodeSaid :=
  OpenClaim.holds_of_wide 7 Tryz.f7 rfl rfl rfl rfl rfl rfl rfl ⟨rfl, rfl, rfl, rfl, rfl⟩ rfl rfl rfl rfl rfl (by kernel_rfl) Tryz.func7 (by kernel_rfl)
    (of_decide_eq_true (by kernel_rfl)) (by unfold Func.isWrapper; first | (rw [if_pos (by decide +kernel)]; kernel_rfl) | (rw [if_neg (by decide +kernel)]; exact ⟨rfl, rfl⟩))
    (fun os started H enc _ => lifted os started H enc)

theorem proved : Rows.FnCodeCardSaid :=
  Claim7.holds_tied_plain_at .later [] [.data, .data, .data, .data, .sentinel, .sentinel, .data, .pinned] true Rows.fnCodeCard.stood.harness true over (fun _ h => by cases h) (by kernel_rfl) (fun _ h => by cases h) fnCode_row_tie rfl ⟨rfl, rfl⟩ (by kernel_rfl) rfl
    (fun f fn hf hfn => by
      obtain rfl : f = 7 := Option.some.inj ((show Tryz.prog.funcNamed "loop.example/telltale/laws.FnCode" = some 7 by kernel_rfl).symm.trans hf) |>.symm
      obtain rfl : fn = Tryz.f7 := (Option.some.inj (Tryz.func7.symm.trans hfn)).symm
      exact ⟨by kernel_rfl, fun j t ht => by
        rw [Tryz.params7] at ht
        have hm : t ∈ [22, 22] := by simpa using Array.mem_of_getElem? ht
        have hall : ([22, 22].all fun u => !Tryz.prog.wantsStandIn u) = true := by kernel_rfl
        exact (show Tryz.prog.wantsStandIn t = false by simpa using List.all_eq_true.1 hall t hm)⟩)
    (by kernel_rfl)
#print axioms proved
end Go.Proofs.YtbpfonmkbbnkcaaGreatDoor.fnCode
