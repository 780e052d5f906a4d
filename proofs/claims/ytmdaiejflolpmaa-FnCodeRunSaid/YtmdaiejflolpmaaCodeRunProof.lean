/- For every code of bytes the law FnCodeRun returns true: CodeRun and CodeDeep of what is drawn answer as the model's, CodeRun is in 32 bits, 0 where CodeDeep is -1, and one value more changes neither. No condition. -/
import Derived.Test.YtmdaiejflolpmaaRows
import Derived.Test.YtmdaiejflolpmaaRunMore
import Derived.Test.YtmdaiejflolpmaaRunImpl
import Derived.Test.YtmdaiejflolpmaaDraw6
import Derived.OpenShut
import Derived.ShutString
import Derived.ChangeOld
namespace Go.Proofs.Ytmdaiejflolpmaa.fnCodeRun
open Go.ChangeShapes Go.WideShapes Go.ChangeAt Go.RowKit Go.PlainAid
open Go.ChangeMaps (open_string shut_string)
set_option linter.unusedVariables false
set_option linter.unusedSimpArgs false

theorem own : ownKnob Try.prog.godebug = none := by kernel_rfl
theorem laidOut : laidOutB Try.prog = true := by kernel_rfl

/-- what the walk is told of a slice of integers that came in -/
def IsRow (k : IntKind) (w : World) (a : Option Addr) (len cap : Nat) (zs : List Int) : Prop :=
  (a = none ∧ len = 0 ∧ cap = 0 ∧ zs = []) ∨
  ∃ x, a = some x ∧ len ≤ cap ∧ cap ≤ maxLen ∧ zs.length = cap ∧ (∀ i, i < zs.length → w.cell? (x.add i) = some (.int k (zs.getD i 0))) ∧ ∀ n ∈ zs, (Lit.int k n).wf = true

theorem wf_u8 {n : Int} (h : (Lit.int .u8 n).wf = true) : 0 ≤ n ∧ n < 256 := by
  simp [Lit.wf, IntKind.min, IntKind.max, IntKind.signed, IntKind.bits] at h
  omega
theorem row_bytes {w : World} {a : Option Addr} {len cap : Nat} {zs : List Int} (h : IsRow .u8 w a len cap zs) : len ≤ cap ∧ cap ≤ maxLen ∧ ∃ l, IsBytes w.heap.size w a len l := by
  rcases h with ⟨rfl, rfl, rfl, rfl⟩ | ⟨x, rfl, h1, h2, h3, h4, h5⟩
  · exact ⟨by omega, by simp, [], rfl, .inl rfl⟩
  · refine ⟨h1, h2, zs.take len, by simp; omega, ?_⟩
    by_cases h0 : len = 0
    · exact .inl h0
    obtain ⟨b, off, spot⟩ := x
    have hc := h4 0 (by omega)
    have hspot : spot = none := by simpa [Addr.add] using World.cell?_spot hc
    subst hspot
    refine .inr ⟨b, off, rfl, World.block_lt_of_cell? _ _ hc, fun i hi => ?_⟩
    have hi2 : i < len := by simp at hi; omega
    have hi3 : i < zs.length := by omega
    have g := h4 i hi3
    rw [add_plain] at g
    have hw := wf_u8 (h5 zs[i] (List.getElem_mem hi3))
    rw [g]
    simp [hi3]
    exact hw

theorem ttSmall_any (n : Int) (w : World) : Calls Try.prog 12 #[.int .i64 n] w fun e w' => e = .returned (.bool (decide (-2147483648 ≤ n ∧ n ≤ 2147483647))) ∧ w' = w := by
  by_cases h : -2147483648 ≤ n
  · go_enter Try.func12, Try.ntmps12
    go_wp2
    go_ret
    exact ⟨ret_bool (by simp [h]), rfl⟩
  · go_enter Try.func12, Try.ntmps12
    go_wp2
    go_ret
    exact ⟨ret_bool (by simp; omega), rfl⟩

set_option maxHeartbeats 800000 in
set_option maxRecDepth 100000 in
theorem walk (a0 : Option Addr) (len0 cap0 : Nat) (z0 : List Int) (w : World) (w0 : IsRow .u8 w a0 len0 cap0 z0) :
    Calls Try.prog 3 #[.slice a0 len0 cap0] w fun e w' => e = .returned (.bool true) ∧ Below w.heap.size w w' := by
  obtain ⟨hlc, hcm, bs, hbs⟩ := row_bytes w0
  unfold maxLen at hcm
  clear w0
  by_cases hbig : 1048576 < len0
  · clear hbs
    go_enter Try.func3, Try.ntmps3
    go_wp2_with fail
    go_ret
    exact ⟨rfl, Below.refl _ _⟩
  have HBS : Hid (IsBytes w.heap.size w a0 len0 bs) := hbs
  clear hbs
  go_enter Try.func3, Try.ntmps3
  go_wp2_with fail
  refine (DrawCodeRun_any a0 len0 cap0 bs w hlc (by omega) HBS.out).mono ?_
  rintro e w1 ⟨a1, m1, c1, zs, v2, l, rfl, hm24, hl1, hl17, hops, hown, hb1⟩
  obtain ⟨a2, c2, rfl, hlc2, hints⟩ := OwnI.ints hown
  obtain ⟨g, hg⟩ : ∃ g, a2 = some ⟨g, 0, none⟩ := by
    rcases hown.2 with ⟨h, _⟩ | ⟨g, cap, cur, h, _⟩
    · injection h with _ h; omega
    · injection h with h; exact ⟨g, h⟩
  subst hg
  have HO : Hid (IsOps w1 a1 m1 zs) := hops
  have HI : Hid (IsInts w1.heap.size w1 (some ⟨g, 0, none⟩) l.length l) := hints
  have HW : Hid (OwnI w.heap.size w1 (.slice (some ⟨g, 0, none⟩) l.length c2) l) := hown
  have HB1 : Hid (Below w.heap.size w w1) := hb1
  have hs1 := hb1.size
  obtain ⟨m, hm⟩ : ∃ m, l.length = m := ⟨_, rfl⟩
  have HM : Hid (l.length = m) := hm
  rw [hm] at HI HW hl1 hl17 hlc2 ⊢
  obtain ⟨N, hN⟩ : ∃ N, codeVal l zs = N := ⟨_, rfl⟩
  obtain ⟨D, hD⟩ : ∃ D, deepOf m zs = D := ⟨_, rfl⟩
  have HN : Hid (codeVal l zs = N) := hN
  have HD : Hid (deepOf m zs = D) := hD
  have hN32 : -2147483648 ≤ N ∧ N ≤ 2147483647 := by have := codeVal_in l zs; rw [hN] at this; exact this
  clear hops hints hown hb1 hm hN hD
  go_wp2_with fail
  refine (implRun_any a1 m1 c1 _ m c2 zs l w1 (by omega) (by omega) HO.out HI.out).mono ?_
  rintro e w2 ⟨rfl, hb2⟩
  rw [HN.out]
  have HB2 : Hid (Below w1.heap.size w1 w2) := hb2
  clear hb2
  go_wp2_with fail
  refine (implDeep_any a1 m1 c1 m zs w2 (by omega) (ops_below HO.out HB2.out)).mono ?_
  rintro e w3 ⟨rfl, hb3⟩
  rw [HD.out]
  have HB3 : Hid (Below w1.heap.size w1 w3) := HB2.out.trans (hb3.mono HB2.out.size)
  clear hb3
  go_wp2_with fail
  refine (specRun_any a1 m1 c1 _ m c2 zs l w3 (by omega) (by omega) (ops_below HO.out HB3.out) ((HI.out.below HB3.out).mono HB3.out.size)).mono ?_
  rintro e w4 ⟨rfl, hb4⟩
  rw [HN.out]
  have HB4 : Hid (Below w1.heap.size w1 w4) := HB3.out.trans (hb4.mono HB3.out.size)
  clear hb4
  go_wp2_with fail
  refine (specDeep_any a1 m1 c1 m zs w4 (by omega) (ops_below HO.out HB4.out)).mono ?_
  rintro e w5 ⟨rfl, hb5⟩
  rw [HD.out]
  have HB5 : Hid (Below w1.heap.size w1 w5) := HB4.out.trans (hb5.mono HB4.out.size)
  clear hb5 HB2 HB3 HB4
  go_wp2_with fail
  refine (ttSmall_any N w5).mono ?_
  rintro e w' ⟨rfl, hw'⟩
  rw [hw', decide_eq_true hN32]
  clear hw' w'
  by_cases hneg : D < 0
  · have hN0 : N = 0 := by rw [← HN.out]; exact codeVal_no (by rw [HM.out, HD.out]; exact hneg)
    subst hN0
    go_wp2_with fail
    go_ret
    exact ⟨rfl, HB1.out.trans (HB5.out.mono hs1)⟩
  have hs5 := HB5.out.size
  obtain ⟨i0, hi, hz0, hz1, hz2⟩ := info_parts infoInt
  have HW5 : Hid (w5.ownsRow w.heap.size 3 1 (.slice (some ⟨g, 0, none⟩) m c2) m (l.map (Value.int .i64))) := by
    have := own_same (show w1.ownsRow _ _ _ _ _ _ from HW.out) HB5.out
    rw [HM.out] at this
    exact this
  go_wp2_with (at_builtin; (refine wpList_append_own _ rfl (.tmp 45) (.tmp 46) 24 rfl w5.heap.size 3 i0 (.int .i64 0) 1 8 Try.underlying24 hi hz0 hz1 hz2 rfl (by decide) _ 0 [] rfl (by exact World.ownsRow_made w5 #[] 0 (Nat.le_refl _) (Nat.zero_le _) rfl) ⟨g, 0, none⟩ m _ (l.map (Value.int .i64)) rfl (by rw [List.length_map, HM.out, Nat.mul_one]) (by exact own_news (HW5.out.alloc _)) (by intro u hu; simp at hu; obtain ⟨x, _, rfl⟩ := hu; rfl) (by unfold maxLen; omega) (by omega) (by simp) ?_))
  intro v6 w6 hown6 hgrow6 _
  have HB6 : Hid (Below w5.heap.size w5 w6) := ((Below.refl _ _).alloc (Nat.le_refl _) _).grown hgrow6 (by simp) (fun q hq => by simp [Value.ownBlock] at hq; omega)
  have HO6 : Hid (w6.ownsRow w5.heap.size 3 1 v6 m (l.map (Value.int .i64))) := by show World.ownsRow _ _ _ _ _ _ _; simpa using hown6
  have hs6 := HB6.out.size
  clear hown6 hgrow6
  go_wp2_with (at_builtin; (refine wpList_append_own _ rfl (.tmp 47) (.tmp 48) 24 rfl w5.heap.size 3 i0 (.int .i64 0) 1 8 Try.underlying24 hi hz0 hz1 hz2 rfl (by decide) _ m (l.map (Value.int .i64)) rfl (by exact (HO6.out.alloc _)) ⟨w6.heap.size, 0, none⟩ 1 1 [.int .i64 9] rfl rfl (by exact one_new _ _ _) (by intro u hu; simp at hu; subst hu; rfl) (by unfold maxLen; omega) (by omega) (by simp; omega) ?_))
  intro v7 w7 hown7 hgrow7 _
  have HB7 : Hid (Below w5.heap.size w5 w7) := (HB6.out.alloc hs6 _).grown hgrow7 (by simp; omega) (fun q hq => (World.ownsRow.lt HO6.out q hq).1)
  have HO7 : Hid (OwnI w5.heap.size w7 v7 (l ++ [9])) := by
    show World.ownsRow _ _ _ _ _ _ _
    simpa [HM.out] using hown7
  clear hown7 hgrow7
  obtain ⟨a7, c7, rfl, hlc7, hints7⟩ := OwnI.ints HO7.out
  have hl7 : (l ++ [9]).length = m + 1 := by rw [List.length_append, HM.out]; rfl
  rw [hl7] at hints7 hlc7 ⊢
  have HI7 : Hid (IsInts w7.heap.size w7 a7 (m + 1) (l ++ [9])) := hints7
  have HBB : Hid (Below w1.heap.size w1 w7) := HB5.out.trans (HB7.out.mono hs5)
  clear hints7 hl7
  by_cases h16 : 16 < m + 1
  · go_wp2_with fail
    go_ret
    exact ⟨rfl, HB1.out.trans (HBB.out.mono hs1)⟩
  have HD2 : Hid (deepOf ((m : Int) + 1) zs = D) := by
    show deepOf _ _ = _
    rw [← HD.out]
    exact deepOf_more (by rw [HD.out]; omega) (by omega)
  have HN2 : Hid (codeVal (l ++ [9]) zs = N) := by
    show codeVal _ _ = _
    rw [← HN.out]
    exact codeVal_more 9 (by rw [HM.out, HD.out]; omega) (by rw [HM.out]; omega)
  go_wp2_with fail
  refine (implDeep_any a1 m1 c1 (m + 1) zs w7 (by omega) (ops_below HO.out HBB.out)).mono ?_
  rintro e w8 ⟨rfl, hb8⟩
  rw [HD2.out]
  have HB8 : Hid (Below w7.heap.size w7 w8) := hb8
  clear hb8
  go_wp2_with fail
  refine (implRun_any a1 m1 c1 a7 (m + 1) c7 zs (l ++ [9]) w8 (by omega) (by omega) (ops_below HO.out (HBB.out.trans (HB8.out.mono HBB.out.size))) ((HI7.out.below HB8.out).mono HB8.out.size)).mono ?_
  rintro e w9 ⟨rfl, hb9⟩
  rw [HN2.out]
  have HB9 : Hid (Below w7.heap.size w7 w9) := HB8.out.trans (hb9.mono HB8.out.size)
  clear hb9
  go_wp2_with fail
  go_ret
  exact ⟨rfl, HB1.out.trans ((HBB.out.trans (HB9.out.mono HBB.out.size)).mono hs1)⟩

/-! ### THE ROW's STEP -/
set_option maxRecDepth 100000 in
theorem lifted (os : Os) (started : os.Started) (H : Type) (enc : TypeId × Value → H) :
    ReturnsInHanded {} Try.checked os 3 .any (Rows.fnCodeRunSpec.pre6 enc Try.prog Try.f3 Rows.fnCodeRunRow.domain false) (Rows.fnCodeRunSpec.post enc Try.prog Try.f3 false true false false) := by
  refine returnsInHanded_of_change (C := Try.checked) own started (by kernel_rfl) Try.func3
    (ChangeSpec.witness6 (enc := enc) (C := Try.checked) false ⟨#[], #[.slice none 0 0], []⟩ 8 (by kernel_rfl) (by kernel_rfl) (by kernel_rfl) (by kernel_rfl)) ?_
  intro W base args ds gs before hval0 hW hcnd _
  have hval : ∀ (j : Nat) t v, Try.f3.params[j]? = some t → args[j]? = some v → Value.okWide Try.prog W .any base t v := hval0
  have hW' := hW
  obtain ⟨p, q, hA0, hV, rfl, hfz, hnd⟩ := hW
  have hA : DataW.TrodAll enc Try.prog W 0 (fun _ => true) true Try.f3.params.toList args.toList ds p := hA0
  rw [Try.params3] at hA hval
  obtain ⟨v0, vs0, d0, ds0, p0, q0, hargs, rfl, rfl, h0, r0⟩ := trodAll_cons hA
  obtain ⟨rfl, rfl, rfl⟩ := trodAll_nil r0
  obtain rfl : args = #[v0] := by cases args; simp_all
  obtain ⟨rfl, rfl⟩ := trodVars_none hV
  obtain ⟨a0, len0, cap0, rfl⟩ := okWide_slice Try.underlying22 (hval 0 22 v0 rfl rfl)
  have k0 := h0
  have lt0 : ∀ x ∈ p0, x.block < W.heap.size := by obtain ⟨m, hm⟩ := k0; exact DataW.trod_lt m _ _ _ hm
  obtain ⟨z0, w0⟩ : ∃ zs, IsRow .u8 W a0 len0 cap0 zs := by
    obtain ⟨fuel, hf⟩ := h0
    rcases open_ints Try.underlying22 Try.underlying5 (by kernel_rfl) hf with ⟨hcs, _⟩ | ⟨x, l, c, zs, hcs, _, hl, hm, hz, _, hcell, hwz⟩
    · simp [Value.cells] at hcs
      obtain ⟨rfl, rfl, rfl⟩ := hcs
      exact ⟨[], .inl ⟨rfl, rfl, rfl, rfl⟩⟩
    · simp [Value.cells] at hcs
      obtain ⟨rfl, rfl, rfl⟩ := hcs
      exact ⟨zs, .inr ⟨_, rfl, hl, hm, by simpa using hz, hcell, hwz⟩⟩
  clear hA0 hval0
  refine (walk a0 len0 cap0 z0 W w0).mono fun e W' ⟨he, bel⟩ => ?_
  subst he
  exact ⟨_, rfl, _, _, _, [], _, [], hW', trodAll_mk1 (shut_bool Try.underlying4 _), (trodAll_cons_mk (Below.trod laidOut (by kernel_rfl) (of_decide_eq_true (by kernel_rfl)) k0 bel lt0) trodAll_mk0), rfl, bel.frame _, fun h => by cases h⟩

theorem over : Rows.fnCodeRunRow.holds Try.pinned (OpenSpec.ofChange Rows.fnCodeRunSpec) :=
  OpenClaim.holds_of_wide 3 Try.f3 rfl rfl rfl rfl rfl rfl rfl ⟨rfl, rfl, rfl, rfl, rfl⟩ rfl rfl rfl rfl rfl (by kernel_rfl) Try.func3 (by kernel_rfl)
    (of_decide_eq_true (by kernel_rfl)) (by unfold Func.isWrapper; first | (rw [if_pos (by decide +kernel)]; kernel_rfl) | (rw [if_neg (by decide +kernel)]; exact ⟨rfl, rfl⟩))
    (fun os started H enc _ => lifted os started H enc)

theorem proved : Rows.FnCodeRunSaid := over
#print axioms proved
end Go.Proofs.Ytmdaiejflolpmaa.fnCodeRun
