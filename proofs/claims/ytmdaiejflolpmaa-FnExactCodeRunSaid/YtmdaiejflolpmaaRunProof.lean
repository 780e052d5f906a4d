/- For every code and every list of values the law FnExactCodeRun returns true: CodeRun of the program answers as the model's, writes into no argument, and the arguments read as before. No condition. -/
import Derived.Test.YtmdaiejflolpmaaRows
import Derived.Test.YtmdaiejflolpmaaRunSpec
import Derived.Test.YtmdaiejflolpmaaRunImpl
import Derived.Deep.SlicePairs
import Derived.ShutString
import Derived.ChangeOld
namespace Go.Proofs.Ytmdaiejflolpmaa.fnExactCodeRun
open Go.ChangeShapes Go.WideShapes Go.ChangeAt Go.RowKit Go.Deep
set_option linter.unusedVariables false
set_option linter.unusedSimpArgs false

theorem own : ownKnob Try.prog.godebug = none := by kernel_rfl
theorem laidOut : laidOutB Try.prog = true := by kernel_rfl

def intCell (vs : List Int) (j : Nat) : Value := .int .i64 (vs.getD j 0)

set_option maxHeartbeats 400000 in
theorem toIntS_any (B : Nat) (a : Option Addr) (n cap : Nat) (vs : List Int) (w : World) (hn : n ≤ 1048576) (hB : B ≤ w.heap.size) (hz : IsInts B w a n vs) :
    Calls Try.prog 18 #[.slice a n cap] w fun e w' => ∃ b, e = .returned (.slice (some ⟨b, 0, none⟩) n n) ∧ w.heap.size ≤ b ∧ IsInts w'.heap.size w' (some ⟨b, 0, none⟩) n vs ∧ Below w.heap.size w w' := by
  obtain ⟨hlen, hcells⟩ := hz
  obtain ⟨i0, hi, hz0, hz1, hz2⟩ := info_parts infoInt
  have hmk : ∀ u : World, (Instr.makeSlice 24 (.int .i64 (n : Int)) (.int .i64 (n : Int))).run Try.prog u =
      .ok (.slice (some ⟨u.heap.size, 0, none⟩) n n) (u.alloc (.cells (madeCells #[.int .i64 0] n) 3)) := fun u => by
    have h := run_make (P := Try.prog) u 24 3 i0 (.int .i64 0) Try.underlying24 hi hz0 .i64 .i64 (n : Int) (n : Int) (by omega) (Int.le_refl _) (by rw [hz2]; omega) (by omega)
    have e : ((n : Int)).toNat = n := by omega
    rw [e] at h
    simpa [hz1, Value.cells] using h
  go_enter Try.func18, Try.ntmps18
  go_wp2
  go_loopw [4] (fun i wr => ∃ k : Nat, k ≤ n ∧ i = .int .i64 k ∧ Fill w.heap.size w wr n k (intCell vs)) (fun i _ => n - (intOf i).toNat)
  case atStart =>
    have h := Fill.start w (madeCells #[.int .i64 0] n) 3 (intCell vs)
    rw [size_madeCells] at h
    exact ⟨0, Nat.zero_le _, rfl, h⟩
  case round =>
    obtain ⟨k, hk, rfl, hfill⟩ := hrel
    by_cases hlt : k < n
    · rcases hcells with h0 | ⟨b, off, rfl, hb, hc⟩
      · omega
      have c0 := (hfill.below.cell (p := ⟨b, off + k, none⟩) (by simp; omega)).trans (hc k hlt)
      obtain ⟨x, hx⟩ : ∃ x, vs.getD k 0 = x := ⟨_, rfl⟩
      rw [hx] at c0
      have HX : Hid (vs.getD k 0 = x) := hx
      obtain ⟨v0, f0⟩ := hfill.there k (by omega)
      have hfz := hfill.open_
      have hsz := hfill.lt
      clear hmk hc hx
      go_wp2
      go_roundw
      case rel => exact ⟨k + 1, by omega, by go_num, hfill.store (by omega) (by unfold intCell; rw [HX.out])⟩
      case measure => simp [intOf]; omega
    · have : k = n := by omega
      subst this
      go_wp2
      go_ret
      exact ⟨_, rfl, Nat.le_refl _, ⟨hlen, .inr ⟨_, _, rfl, hfill.lt, fun i hi => by simpa [intCell] using hfill.done i (by omega)⟩⟩, hfill.below⟩

theorem eqIntS_same (a a' : Option Addr) (n cap cap' : Nat) (vs : List Int) (w : World) (hn : n ≤ 1048576) (hz : IsInts w.heap.size w a n vs) (hz' : IsInts w.heap.size w a' n vs) :
    Calls Try.prog 19 #[.slice a n cap, .slice a' n cap'] w fun e w' => e = .returned (.bool true) ∧ Below w.heap.size w w' := by
  obtain ⟨hlen, hcells⟩ := hz
  obtain ⟨_, hcells'⟩ := hz'
  go_enter Try.func19, Try.ntmps19
  go_wp2
  go_loopw [5] (fun i wr => ∃ k : Nat, k ≤ n ∧ i = .int .i64 k ∧ Below w.heap.size w wr) (fun i _ => n - (intOf i).toNat)
  case atStart => exact ⟨0, Nat.zero_le _, rfl, Below.refl _ _⟩
  case round =>
    obtain ⟨k, hk, rfl, hbel⟩ := hrel
    by_cases hlt : k < n
    · rcases hcells with h0 | ⟨b, off, rfl, hb, hc⟩
      · omega
      rcases hcells' with h0 | ⟨b', off', rfl, hb', hc'⟩
      · omega
      obtain ⟨x, hx⟩ : ∃ x, vs.getD k 0 = x := ⟨_, rfl⟩
      have c0 := (hbel.cell (p := ⟨b, off + k, none⟩) hb).trans (hc k hlt)
      have d0 := (hbel.cell (p := ⟨b', off' + k, none⟩) hb').trans (hc' k hlt)
      rw [hx] at c0 d0
      clear hc hc' hx
      go_wp2
      go_quiet (fail)
      go_wp2
      go_roundw
      case rel => exact ⟨k + 1, by omega, by go_num, drewN hbel _⟩
      case measure => simp [intOf]; omega
    · go_wp2
      go_ret
      exact ⟨rfl, hbel⟩

set_option maxHeartbeats 800000 in
theorem walk (a0 : Option Addr) (n cap : Nat) (zs : List (Int × Int)) (a1 : Option Addr) (m mcap : Nat) (vs : List Int) (w : World) (hm : n ≤ maxLen) (hm1 : m ≤ maxLen) (hz : IsOps w a0 n zs) (hv : IsInts w.heap.size w a1 m vs) :
    Calls Try.prog 6 #[.slice a0 n cap, .slice a1 m mcap] w fun e w' => e = .returned (.bool true) ∧ Below w.heap.size w w' := by
  unfold maxLen at hm hm1
  by_cases hmn : 1048576 < m
  · clear hz hv
    go_enter Try.func6, Try.ntmps6
    go_wp2_with fail
    go_ret
    exact ⟨rfl, Below.refl _ _⟩
  by_cases hn : n ≤ 1048576
  · have HZ : Hid (IsOps w a0 n zs) := hz
    have HV : Hid (IsInts w.heap.size w a1 m vs) := hv
    have hmn' : m ≤ 1048576 := by omega
    clear hz hv
    go_enter Try.func6, Try.ntmps6
    go_wp2_with fail
    refine (szOpS_any _ _ _ _ _ (by omega) (by omega) (by omega)).mono ?_
    rintro e w1 ⟨rfl, rfl⟩
    rw [if_neg (by omega)]
    go_wp2_with fail
    refine (toOpS_any a0 n cap zs _ hn HZ.out).mono ?_
    rintro e w2 ⟨b2, rfl, hb2, hz2, bel2⟩
    have HZ2 : Hid (IsOps w2 (some ⟨b2, 0, none⟩) n zs) := hz2
    have HV2 : Hid (IsInts w1.heap.size w2 a1 m vs) := HV.out.below bel2
    clear hz2
    go_wp2_with fail
    refine (toIntS_any _ a1 m mcap vs _ hmn' bel2.size HV2.out).mono ?_
    rintro e w3 ⟨b3, rfl, hb3, hv3, bel3⟩
    have HV3 : Hid (IsInts w3.heap.size w3 (some ⟨b3, 0, none⟩) m vs) := hv3
    have HZ3 : Hid (IsOps w3 (some ⟨b2, 0, none⟩) n zs) := ops_below HZ2.out bel3
    clear hv3
    go_wp2_with fail
    refine (specRun_any _ _ _ _ _ _ zs vs _ hn hmn' HZ3.out HV3.out).mono ?_
    rintro e w4 ⟨rfl, bel4⟩
    have Z4 : Hid (Below w1.heap.size w1 w4) := (bel2.trans (bel3.mono bel2.size)).trans (bel4.mono (Nat.le_trans bel2.size bel3.size))
    have HZ4 : Hid (IsOps w4 a0 n zs) := ops_below HZ.out Z4.out
    have HV4 : Hid (IsInts w1.heap.size w4 a1 m vs) := HV.out.below Z4.out
    clear bel2 bel3 bel4 HZ2 HV2 HV3 HZ3
    go_wp2_with fail
    refine (toOpS_any a0 n cap zs _ hn HZ4.out).mono ?_
    rintro e w5 ⟨b5, rfl, hb5, hz5, bel5⟩
    have HZ5 : Hid (IsOps w5 (some ⟨b5, 0, none⟩) n zs) := hz5
    have HV5 : Hid (IsInts w1.heap.size w5 a1 m vs) := HV4.out.below (bel5.mono Z4.out.size)
    clear hz5
    go_wp2_with fail
    refine (toIntS_any _ a1 m mcap vs _ hmn' (Nat.le_trans Z4.out.size bel5.size) HV5.out).mono ?_
    rintro e w6 ⟨b6, rfl, hb6, hv6, bel6⟩
    have HV6 : Hid (IsInts w6.heap.size w6 (some ⟨b6, 0, none⟩) m vs) := hv6
    have HZ6 : Hid (IsOps w6 (some ⟨b5, 0, none⟩) n zs) := ops_below HZ5.out bel6
    clear hv6
    go_wp2_with fail
    refine (implRun_any _ _ _ _ _ _ zs vs _ hn hmn' HZ6.out HV6.out).mono ?_
    rintro e w7 ⟨rfl, bel7⟩
    have Z7 : Hid (Below w1.heap.size w1 w7) := Z4.out.trans (((bel5.trans (bel6.mono bel5.size)).trans (bel7.mono (Nat.le_trans bel5.size bel6.size))).mono Z4.out.size)
    have HZ7 : Hid (IsOps w7 a0 n zs) := ops_below HZ.out Z7.out
    have HZ7' : Hid (IsOps w7 (some ⟨b5, 0, none⟩) n zs) := ops_below HZ6.out bel7
    have HV7 : Hid (IsInts w1.heap.size w7 a1 m vs) := HV.out.below Z7.out
    have HV7' : Hid (IsInts w7.heap.size w7 (some ⟨b6, 0, none⟩) m vs) := (HV6.out.below bel7).mono bel7.size
    clear bel5 bel6 bel7 HZ4 HV4 HZ5 HV5 HV6 HZ6
    go_wp2_with fail
    refine (toOpS_any a0 n cap zs _ hn HZ7.out).mono ?_
    rintro e w8 ⟨b8, rfl, hb8, hz8, bel8⟩
    have HZ8 : Hid (IsOps w8 (some ⟨b8, 0, none⟩) n zs) := hz8
    have HZ8' : Hid (IsOps w8 (some ⟨b5, 0, none⟩) n zs) := ops_below HZ7'.out bel8
    clear hz8
    go_wp2_with fail
    refine (eqOpS_same _ _ _ _ _ zs _ hn HZ8'.out HZ8.out).mono ?_
    rintro e w9 ⟨rfl, bel9⟩
    have Z9 : Hid (Below w7.heap.size w7 w9) := bel8.trans (bel9.mono bel8.size)
    have HV9 : Hid (IsInts w1.heap.size w9 a1 m vs) := HV7.out.below (Z9.out.mono Z7.out.size)
    have HV9' : Hid (IsInts w9.heap.size w9 (some ⟨b6, 0, none⟩) m vs) := (HV7'.out.below Z9.out).mono Z9.out.size
    clear bel8 bel9 HZ8 HZ8'
    go_wp2_with fail
    refine (toIntS_any _ a1 m mcap vs _ hmn' (Nat.le_trans Z7.out.size Z9.out.size) HV9.out).mono ?_
    rintro e w10 ⟨b10, rfl, hb10, hv10, bel10⟩
    have HV10 : Hid (IsInts w10.heap.size w10 (some ⟨b10, 0, none⟩) m vs) := hv10
    have HV10' : Hid (IsInts w10.heap.size w10 (some ⟨b6, 0, none⟩) m vs) := (HV9'.out.below bel10).mono bel10.size
    clear hv10
    go_wp2_with fail
    refine (eqIntS_same _ _ _ _ _ vs _ hmn' HV10'.out HV10.out).mono ?_
    rintro e w11 ⟨rfl, bel11⟩
    go_wp2_with fail
    go_ret
    exact ⟨rfl, Z7.out.trans ((Z9.out.trans ((bel10.trans (bel11.mono bel10.size)).mono Z9.out.size)).mono Z7.out.size)⟩
  · clear hz hv
    have hs : (1048576 : Int) < n := by omega
    go_enter Try.func6, Try.ntmps6
    go_wp2_with fail
    refine (szOpS_any _ _ _ _ _ (by omega) (by omega) (by omega)).mono ?_
    rintro e w1 ⟨rfl, rfl⟩
    rw [if_pos (by omega)]
    go_wp2_with fail
    go_ret
    exact ⟨rfl, Below.refl _ _⟩

/-! ### THE ROW's STEP -/
set_option maxRecDepth 100000 in
theorem lifted (os : Os) (started : os.Started) (H : Type) (enc : TypeId × Value → H) :
    ReturnsInHanded {} Try.checked os 6 .any (Rows.fnExactCodeRunSpec.pre6 enc Try.prog Try.f6 Rows.fnExactCodeRunRow.domain false) (Rows.fnExactCodeRunSpec.post enc Try.prog Try.f6 false true false false) := by
  refine returnsInHanded_of_change (C := Try.checked) own started (by kernel_rfl) Try.func6
    (ChangeSpec.witness6 (enc := enc) (C := Try.checked) false ⟨#[], #[.slice none 0 0, .slice none 0 0], []⟩ 8 (by kernel_rfl) (by kernel_rfl) (by kernel_rfl) (by kernel_rfl)) ?_
  intro W base args ds gs before hval0 hW hcnd _
  have hval : ∀ (j : Nat) t v, Try.f6.params[j]? = some t → args[j]? = some v → Value.okWide Try.prog W .any base t v := hval0
  have hW' := hW
  obtain ⟨p, q, hA0, hV, rfl, hfz, hnd⟩ := hW
  have hA : DataW.TrodAll enc Try.prog W 0 (fun _ => true) true Try.f6.params.toList args.toList ds p := hA0
  rw [Try.params6] at hA hval
  obtain ⟨v0, vs0, d0, ds0, p0, q0, hargs, rfl, rfl, h0, r0⟩ := trodAll_cons hA
  obtain ⟨v1, vs1, d1, ds1, p1, q1, rfl, rfl, rfl, h1, r1⟩ := trodAll_cons r0
  obtain ⟨rfl, rfl, rfl⟩ := trodAll_nil r1
  obtain rfl : args = #[v0, v1] := by cases args; simp_all
  obtain ⟨rfl, rfl⟩ := trodVars_none hV
  obtain ⟨a0, len0, cap0, rfl⟩ := okWide_slice Try.underlying32 (hval 0 32 v0 rfl rfl)
  have k0 := h0
  have lt0 : ∀ x ∈ p0, x.block < W.heap.size := by obtain ⟨m, hm⟩ := k0; exact DataW.trod_lt m _ _ _ hm
  obtain ⟨z0, hm0, w0⟩ : ∃ zs, len0 ≤ maxLen ∧ IsOps W a0 len0 zs := by
    obtain ⟨fuel, hf⟩ := h0
    rcases open_slice_pairs Try.underlying32 Try.underlying62 (by kernel_rfl) rfl rfl (by kernel_rfl) (by kernel_rfl) hf with ⟨hcs, _⟩ | ⟨x, l, c, m, nn, V0, V1, D0, D1, P0, P1, hcs, _, hl, hm, hmm, _, hcell⟩
    · simp [Value.cells] at hcs
      obtain ⟨rfl, rfl, rfl⟩ := hcs
      exact ⟨[], by simp, rfl, .inl rfl⟩
    · simp [Value.cells] at hcs
      obtain ⟨rfl, rfl, rfl⟩ := hcs
      refine ⟨(List.range len0).map fun i => (intOf (V0 i), intOf (V1 i)), Nat.le_trans hl hm, by simp, ?_⟩
      by_cases hz : len0 = 0
      · exact .inl hz
      obtain ⟨b, off, spot⟩ := x
      have hlm : len0 ≤ m := by rw [hmm]; split <;> omega
      have hc := (hcell 0 (by omega)).1
      have hspot : spot = none := by simpa [Addr.add] using World.cell?_spot hc
      subst hspot
      refine .inr ⟨b, off, rfl, World.block_lt_of_cell? _ _ hc, fun i hi => ?_⟩
      obtain ⟨g0, g1, g2, g3⟩ := hcell i (by omega)
      obtain ⟨n0, e0, _, _⟩ := DataW.trod_int Try.underlying3 g2
      obtain ⟨n1, e1, _, _⟩ := DataW.trod_int Try.underlying3 g3
      simp at e0 e1
      simp [hi, e0, e1, intOf]
      rw [e0] at g0
      rw [e1] at g1
      rw [add_plain] at g0 g1
      exact ⟨g0, by simpa [Nat.add_assoc] using g1⟩
  obtain ⟨a1, len1, cap1, rfl⟩ := okWide_slice Try.underlying24 (hval 1 24 v1 rfl rfl)
  have k1 := h1
  have lt1 : ∀ x ∈ p1, x.block < W.heap.size := by obtain ⟨m, hm⟩ := k1; exact DataW.trod_lt m _ _ _ hm
  obtain ⟨z1, hm1, w1⟩ : ∃ zs, len1 ≤ maxLen ∧ IsInts W.heap.size W a1 len1 zs := by
    obtain ⟨fuel, hf⟩ := h1
    rcases open_ints Try.underlying24 Try.underlying3 (by kernel_rfl) hf with ⟨hcs, _⟩ | ⟨x, l, c, zs, hcs, _, hl, hm, hz, _, hcell, hwz⟩
    · simp [Value.cells] at hcs
      obtain ⟨rfl, rfl, rfl⟩ := hcs
      exact ⟨[], by simp, rfl, .inl rfl⟩
    · simp [Value.cells] at hcs
      obtain ⟨rfl, rfl, rfl⟩ := hcs
      simp at hz
      refine ⟨zs.take len1, Nat.le_trans hl hm, by simp; omega, ?_⟩
      by_cases hz0 : len1 = 0
      · exact .inl hz0
      obtain ⟨b, off, spot⟩ := x
      have hc := hcell 0 (by omega)
      have hspot : spot = none := by simpa [Addr.add] using World.cell?_spot hc
      subst hspot
      refine .inr ⟨b, off, rfl, World.block_lt_of_cell? _ _ hc, fun i hi => ?_⟩
      have g := hcell i (by omega)
      rw [add_plain] at g
      rw [g]
      simp [hi, List.getElem?_take]
  clear hA0 hval0
  refine (walk a0 len0 cap0 z0 a1 len1 cap1 z1 W hm0 hm1 w0 w1).mono fun e W' ⟨he, bel⟩ => ?_
  subst he
  exact ⟨_, rfl, _, _, _, [], _, [], hW', trodAll_mk1 (shut_bool Try.underlying4 _), (trodAll_cons_mk (Below.trod laidOut (by kernel_rfl) (of_decide_eq_true (by kernel_rfl)) k0 bel lt0) (trodAll_cons_mk (Below.trod laidOut (by kernel_rfl) (of_decide_eq_true (by kernel_rfl)) k1 bel lt1) trodAll_mk0)), rfl, bel.frame _, fun h => by cases h⟩

theorem over : Rows.fnExactCodeRunRow.holds Try.pinned (OpenSpec.ofChange Rows.fnExactCodeRunSpec) :=
  OpenClaim.holds_of_wide 6 Try.f6 rfl rfl rfl rfl rfl rfl rfl ⟨rfl, rfl, rfl, rfl, rfl⟩ rfl rfl rfl rfl rfl (by kernel_rfl) Try.func6 (by kernel_rfl)
    (of_decide_eq_true (by kernel_rfl)) (by unfold Func.isWrapper; first | (rw [if_pos (by decide +kernel)]; kernel_rfl) | (rw [if_neg (by decide +kernel)]; exact ⟨rfl, rfl⟩))
    (fun os started H enc _ => lifted os started H enc)

theorem proved : Rows.FnExactCodeRunSaid := over
#print axioms proved
end Go.Proofs.Ytmdaiejflolpmaa.fnExactCodeRun
