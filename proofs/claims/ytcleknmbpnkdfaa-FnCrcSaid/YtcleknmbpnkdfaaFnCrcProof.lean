/- For every two codes of bytes the law FnCrc returns true: Crc of what is drawn is as the model's, in its bounds, the known one of the known text, and another last byte makes another sum. No condition. -/
import Derived.Test.YtcleknmbpnkdfaaRows
import Derived.Test.YtcleknmbpnkdfaaCrcInj
import Derived.Test.YtcleknmbpnkdfaaDrawCrc
import Derived.Test.YtcleknmbpnkdfaaCodes
import Derived.WalkKit
import Derived.ProofKit
import Derived.OpenShut
import Derived.Test.YtcleknmbpnkdfaaCrcRegion
namespace Go.Proofs.Ytcleknmbpnkdfaa.fnCrc
open Go Go.ChangeShapes Go.WideShapes Go.ChangeAt Go.RowKit Go.Deep Go.PlainAid
set_option linter.unusedVariables false
set_option linter.unusedSimpArgs false

theorem own : ownKnob Try.prog.godebug = none := by kernel_rfl
theorem laidOut : laidOutB Try.prog = true := by kernel_rfl

theorem known_any (w : World) : Calls Try.prog 5 #[.string ⟨#[49, 50, 51, 52, 53, 54, 55, 56, 57]⟩] w fun e w' => e = .returned (.int .i64 3421780262) ∧ w' = w := by
  have h := implCrc_any ⟨#[49, 50, 51, 52, 53, 54, 55, 56, 57]⟩ (by unfold maxLen; decide) w
  rw [crc_known] at h
  exact h
theorem imp_any (s : ByteArray) (hs : s.size ≤ maxLen) (w : World) : Calls Try.prog 5 #[.string s] w fun e w' => ∃ v : Nat, e = .returned (.int .i64 v) ∧ Hid (crcM s = v) ∧ w' = w :=
  (implCrc_any s hs w).mono fun e w' ⟨h1, h2⟩ => ⟨_, h1, rfl, h2⟩
theorem bt_byte (b : UInt8) : bt ⟨#[b]⟩ 0 = (b.toNat : Int) := rfl
theorem bt_one (a : Int) (h0 : 0 ≤ a) (h1 : a < 256) : bt ⟨#[UInt8.ofNat a.toNat]⟩ 0 = a := by
  have e : ((UInt8.ofNat a.toNat).toNat : Int) = a := by rw [UInt8.toNat_ofNat']; omega
  rw [bt_byte]
  exact e
theorem arr56 (x : Array Value) (h : x.size = 56) : x = #[x.getD 0 undef, x.getD 1 undef, x.getD 2 undef, x.getD 3 undef, x.getD 4 undef, x.getD 5 undef, x.getD 6 undef, x.getD 7 undef, x.getD 8 undef, x.getD 9 undef, x.getD 10 undef, x.getD 11 undef, x.getD 12 undef, x.getD 13 undef, x.getD 14 undef, x.getD 15 undef, x.getD 16 undef, x.getD 17 undef, x.getD 18 undef, x.getD 19 undef, x.getD 20 undef, x.getD 21 undef, x.getD 22 undef, x.getD 23 undef, x.getD 24 undef, x.getD 25 undef, x.getD 26 undef, x.getD 27 undef, x.getD 28 undef, x.getD 29 undef, x.getD 30 undef, x.getD 31 undef, x.getD 32 undef, x.getD 33 undef, x.getD 34 undef, x.getD 35 undef, x.getD 36 undef, x.getD 37 undef, x.getD 38 undef, x.getD 39 undef, x.getD 40 undef, x.getD 41 undef, x.getD 42 undef, x.getD 43 undef, x.getD 44 undef, x.getD 45 undef, x.getD 46 undef, x.getD 47 undef, x.getD 48 undef, x.getD 49 undef, x.getD 50 undef, x.getD 51 undef, x.getD 52 undef, x.getD 53 undef, x.getD 54 undef, x.getD 55 undef] := by
  apply Array.ext
  · simp [h]
  · intro i h1 h2
    have hi : i = 0 ∨ i = 1 ∨ i = 2 ∨ i = 3 ∨ i = 4 ∨ i = 5 ∨ i = 6 ∨ i = 7 ∨ i = 8 ∨ i = 9 ∨ i = 10 ∨ i = 11 ∨ i = 12 ∨ i = 13 ∨ i = 14 ∨ i = 15 ∨ i = 16 ∨ i = 17 ∨ i = 18 ∨ i = 19 ∨ i = 20 ∨ i = 21 ∨ i = 22 ∨ i = 23 ∨ i = 24 ∨ i = 25 ∨ i = 26 ∨ i = 27 ∨ i = 28 ∨ i = 29 ∨ i = 30 ∨ i = 31 ∨ i = 32 ∨ i = 33 ∨ i = 34 ∨ i = 35 ∨ i = 36 ∨ i = 37 ∨ i = 38 ∨ i = 39 ∨ i = 40 ∨ i = 41 ∨ i = 42 ∨ i = 43 ∨ i = 44 ∨ i = 45 ∨ i = 46 ∨ i = 47 ∨ i = 48 ∨ i = 49 ∨ i = 50 ∨ i = 51 ∨ i = 52 ∨ i = 53 ∨ i = 54 ∨ i = 55 := by omega
    rcases hi with rfl | rfl | rfl | rfl | rfl | rfl | rfl | rfl | rfl | rfl | rfl | rfl | rfl | rfl | rfl | rfl | rfl | rfl | rfl | rfl | rfl | rfl | rfl | rfl | rfl | rfl | rfl | rfl | rfl | rfl | rfl | rfl | rfl | rfl | rfl | rfl | rfl | rfl | rfl | rfl | rfl | rfl | rfl | rfl | rfl | rfl | rfl | rfl | rfl | rfl | rfl | rfl | rfl | rfl | rfl | rfl <;> simp [Array.getD_eq_getD_getElem?, h1]
set_option maxHeartbeats 1600000 in
set_option maxRecDepth 100000 in
theorem walk (a0 : Option Addr) (n c : Nat) (bs : List Int) (a1 : Option Addr) (n1 c1 : Nat) (w : World) (hc : n ≤ c) (hm : c ≤ maxLen) (hc1 : n1 ≤ c1) (hm1 : c1 ≤ maxLen) (hz : IsBytes w.heap.size w a0 n bs) :
    Calls Try.prog 3 #[.slice a0 n c, .slice a1 n1 c1] w fun e w' => e = .returned (.bool true) ∧ Below w.heap.size w w' := by
  unfold maxLen at hm hm1
  by_cases h1 : 1048576 < n
  · clear hz
    go_enter Try.func3, Try.ntmps3
    go_wp2_with fail
    go_ret
    exact ⟨rfl, Below.refl _ _⟩
  by_cases h2 : 1048576 < n1
  · clear hz
    go_enter Try.func3, Try.ntmps3
    go_wp2_with fail
    go_ret
    exact ⟨rfl, Below.refl _ _⟩
  have HD := hidOf (DrawCrc_any a0 n c bs w hc (by omega) hz)
  clear hz
  go_enter Try.func3, Try.ntmps3
  go_wp2_with fail
  refine HD.out.mono ?_
  rintro e w1 ⟨s, rfl, hs, hb1⟩
  have HB1 := hidOf hb1
  clear hb1
  go_wp2_with fail
  refine (implCrc_any s (by unfold maxLen; omega) _).mono ?_
  rintro e w' ⟨rfl, rfl⟩
  go_wp2_with fail
  have hlt := crcM_lt s
  have hm9 : s.size ≤ maxLen := by unfold maxLen; omega
  obtain ⟨M, hM⟩ : ∃ M, crcM s = M := ⟨_, rfl⟩
  have HS := hidOf (fun w => specCrc_any s hm9 w)
  rw [hM] at hlt HS ⊢
  obtain ⟨A, hA⟩ : ∃ A : Int, (n1 : Int) % 256 = A := ⟨_, rfl⟩
  have hA0 : 0 ≤ A := by omega
  have hA1 : A < 256 := by omega
  rw [hA]
  obtain ⟨A2, hA2⟩ : ∃ A2 : Int, IntKind.u8.wrap (A + 1) = A2 := ⟨_, rfl⟩
  have hA2v : A2 = (A + 1) % 256 := by rw [← hA2]; first | exact IntKind.wrap_u8 _ | (simp [IntKind.wrap, IntKind.bits, IntKind.signed])
  have h20 : 0 ≤ A2 := by omega
  have h21 : A2 < 256 := by omega
  have hne : crcM (s ++ ⟨#[UInt8.ofNat A.toNat]⟩) ≠ crcM (s ++ ⟨#[UInt8.ofNat A2.toNat]⟩) := crcM_other s _ _ rfl rfl (by rw [bt_one A hA0 hA1, bt_one A2 h20 h21]; omega)
  have hz1 : ∀ b : UInt8, (s ++ ⟨#[b]⟩).size ≤ maxLen := fun b => by rw [ByteArray.size_append]; show s.size + 1 ≤ maxLen; unfold maxLen; omega
  refine regionC _ _ _ s _ _ M (crcM (s ++ ⟨#[UInt8.ofNat A.toNat]⟩)) (crcM (s ++ ⟨#[UInt8.ofNat A2.toNat]⟩)) A A2 rfl rfl rfl rfl (by omega) (by omega) hA0 hA1 h20 h21 hA2 rfl rfl (by omega) (by omega) HS.out known_any (fun w => implCrc_any _ (hz1 _) w) (fun w => implCrc_any _ (hz1 _) w) ?_
  intro ax w3 hz3 hdf e4 hb3
  have HB3 : Hid (Below w.heap.size w w3) := HB1.out.trans (hb3.mono HB1.out.size)
  have hax : ax = ⟨ax.tmps, ax.defers⟩ := rfl
  rw [hdf, arr56 ax.tmps hz3, e4] at hax
  rw [hax]
  clear hax hz3 hdf e4 hb3 hne hz1
  go_wp2_with fail
  go_ret
  exact ⟨rfl, HB3.out⟩

set_option maxRecDepth 100000 in
theorem lifted (os : Os) (started : os.Started) (H : Type) (enc : TypeId × Value → H) :
    ReturnsInHanded {} Try.checked os 3 .any (Rows.fnCrcSpec.pre6 enc Try.prog Try.f3 Rows.fnCrcRow.domain false) (Rows.fnCrcSpec.post enc Try.prog Try.f3 false true false false) := by
  refine returnsInHanded_of_change (C := Try.checked) own started (by kernel_rfl) Try.func3
    (ChangeSpec.witness6 (enc := enc) (C := Try.checked) false ⟨#[], #[.slice none 0 0, .slice none 0 0], []⟩ 8 (by kernel_rfl) (by kernel_rfl) (by kernel_rfl) (by kernel_rfl)) ?_
  intro W base args ds gs before hval0 hW hcnd _
  have hval : ∀ (j : Nat) t v, Try.f3.params[j]? = some t → args[j]? = some v → Value.okWide Try.prog W .any base t v := hval0
  have hW' := hW
  obtain ⟨p, q, hA0, hV, rfl, hfz, hnd⟩ := hW
  have hA : DataW.TrodAll enc Try.prog W 0 (fun _ => true) true Try.f3.params.toList args.toList ds p := hA0
  rw [Try.params3] at hA hval
  obtain ⟨v0, vs0, d0, ds0, p0, q0, hargs, rfl, rfl, h0, r0⟩ := trodAll_cons hA
  obtain ⟨v1, vs1, d1, ds1, p1, q1, rfl, rfl, rfl, h1, r1⟩ := trodAll_cons r0
  obtain ⟨rfl, rfl, rfl⟩ := trodAll_nil r1
  obtain rfl : args = #[v0, v1] := by cases args; simp_all
  obtain ⟨rfl, rfl⟩ := trodVars_none hV
  obtain ⟨a0, len0, cap0, rfl⟩ := okWide_slice Try.underlying22 (hval 0 22 v0 rfl rfl)
  obtain ⟨a1, len1, cap1, rfl⟩ := okWide_slice Try.underlying22 (hval 1 22 v1 rfl rfl)
  have k0 := h0
  have k1 := h1
  have lt0 : ∀ x ∈ p0, x.block < W.heap.size := by obtain ⟨m, hm⟩ := k0; exact DataW.trod_lt m _ _ _ hm
  have lt1 : ∀ x ∈ p1, x.block < W.heap.size := by obtain ⟨m, hm⟩ := k1; exact DataW.trod_lt m _ _ _ hm
  obtain ⟨fuel0, hf0⟩ := h0
  obtain ⟨hc0, hm0, bs, w0⟩ := open_code rfl hf0
  obtain ⟨fuel1, hf1⟩ := h1
  obtain ⟨hc1, hm1, _, _⟩ := open_code rfl hf1
  clear hA0 hval0
  refine (walk a0 len0 cap0 bs a1 len1 cap1 W hc0 hm0 hc1 hm1 w0).mono fun e W' ⟨he, bel⟩ => ?_
  subst he
  exact ⟨_, rfl, _, _, _, [], _, [], hW', trodAll_mk1 (shut_bool Try.underlying4 _), (trodAll_cons_mk (Below.trod laidOut (by kernel_rfl) (of_decide_eq_true (by kernel_rfl)) k0 bel lt0) (trodAll_cons_mk (Below.trod laidOut (by kernel_rfl) (of_decide_eq_true (by kernel_rfl)) k1 bel lt1) trodAll_mk0)), rfl, bel.frame _, fun h => by cases h⟩

theorem over : Rows.fnCrcRow.holds Try.pinned (OpenSpec.ofChange Rows.fnCrcSpec) :=
  OpenClaim.holds_of_wide 3 Try.f3 rfl rfl rfl rfl rfl rfl rfl ⟨rfl, rfl, rfl, rfl, rfl⟩ rfl rfl rfl rfl rfl (by kernel_rfl) Try.func3 (by kernel_rfl)
    (of_decide_eq_true (by kernel_rfl)) (by unfold Func.isWrapper; first | (rw [if_pos (by decide +kernel)]; kernel_rfl) | (rw [if_neg (by decide +kernel)]; exact ⟨rfl, rfl⟩))
    (fun os started H enc _ => lifted os started H enc)

theorem proved : Rows.FnCrcSaid := over
#print axioms proved
end Go.Proofs.Ytcleknmbpnkdfaa.fnCrc
