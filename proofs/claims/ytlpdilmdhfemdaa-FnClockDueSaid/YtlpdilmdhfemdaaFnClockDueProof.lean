/- For every two codes of bytes the law FnClockDue returns true: of the beats and the span that are drawn, what comes in the span is what the model says, and, where both are ok, what comes in its first part, and then in the rest. No condition. -/
import Derived.Test.YtlpdilmdhfemdaaRows
import Derived.Test.YtlpdilmdhfemdaaDueP
import Derived.Test.YtlpdilmdhfemdaaTtFires
import Derived.Test.YtlpdilmdhfemdaaDrawClk
import Derived.Test.YtlpdilmdhfemdaaCodes
import Derived.Test.YtlpdilmdhfemdaaBeatOkP
import Derived.Test.YtlpdilmdhfemdaaAppSrc
import Derived.WalkKit
import Derived.ProofKit
import Derived.OpenShut
namespace Go.Proofs.Ytlpdilmdhfemdaa.fnClockDue
open Go Go.ChangeShapes Go.WideShapes Go.ChangeAt Go.RowKit Go.Deep Go.PlainAid
set_option linter.unusedVariables false
set_option linter.unusedSimpArgs false

theorem own : ownKnob Try.prog.godebug = none := by kernel_rfl
theorem laidOut : laidOutB Try.prog = true := by kernel_rfl

theorem dueM_add (l : List Bt) : ∀ (m n : Nat) (t : Int), dueM l t (m + n) = dueM l t m ++ dueM l (t + m) n
  | 0, n, t => by simp [dueM]
  | m + 1, n, t => by
    rw [show m + 1 + n = (m + n) + 1 by omega]
    show dueAt l t ++ dueM l (t + 1) (m + n) = (dueAt l t ++ dueM l (t + 1) m) ++ _
    rw [dueM_add l m n (t + 1), List.append_assoc, show t + 1 + (m : Int) = t + ((m + 1 : Nat) : Int) by omega]
theorem clockM_cut {l : List Bt} {p q k : Int} (hl : btsB l = true) (h0 : 0 ≤ p) (h1 : p ≤ k) (h2 : k ≤ q) (h3 : q ≤ 9999) (h4 : q - p ≤ 40) : clockM l p k ++ clockM l k q = clockM l p q := by
  have hs : ∀ x y : Int, 0 ≤ x → x ≤ y → y ≤ 9999 → y - x ≤ 40 → spanB x y = true := fun x y a b c d => by
    simp [spanB]
    omega
  unfold clockM
  rw [hl, hs p k h0 h1 (by omega) (by omega), hs k q (by omega) h2 h3 (by omega), hs p q h0 (by omega) h3 h4]
  simp only [Bool.and_self, if_true]
  rw [show (q - p).toNat = (k - p).toNat + (q - k).toNat by omega, dueM_add, show p + ((k - p).toNat : Int) = k by omega]
theorem due_le {l : List Bt} {p q : Int} : (clockM l p q).length ≤ 200 := by
  unfold clockM
  split
  · rename_i h
    have h2 : (l.all btB = true ∧ l.length ≤ 3) ∧ (0 ≤ p ∧ p ≤ 9999) ∧ (p ≤ q ∧ q ≤ 9999) ∧ q - p ≤ 40 := by simpa [btsB, spanB, and_assoc] using h
    have h1 := dueM_len l (q - p).toNat p
    have h3 : (q - p).toNat * l.length ≤ 40 * 3 := Nat.mul_le_mul (by omega) h2.1.2
    omega
  · simp
theorem FreeF.src0 {B : Nat} {w : World} {a : Option Addr} {n : Nat} {l : List Fr} (h : FreeF B w a n l) : n = 0 ∨ ∃ ad, a = some ad ∧ ∀ j u, (fireCells l)[j]? = some u → w.cell? (ad.add j) = some u := by
  rcases h.there with h0 | ⟨b, rfl, h1, h2, h3, h4⟩
  · exact .inl h0
  · refine .inr ⟨_, rfl, fun j u hu => ?_⟩
    have hj : j < l.length * 2 := by rw [← fireCells_len]; exact (List.getElem?_eq_some_iff.1 hu).1
    have hi : j / 2 < l.length := by omega
    obtain ⟨c0, c1⟩ := h4 (j / 2) hi
    obtain ⟨e0, e1⟩ := fireCells_at l (j / 2) hi
    rw [add_plain, Nat.zero_add]
    by_cases e : j % 2 = 0
    · rw [show j / 2 * 2 = j by omega] at c0 e0
      rw [e0] at hu
      cases hu
      exact c0
    · rw [show j / 2 * 2 + 1 = j by omega] at c1 e1
      rw [e1] at hu
      cases hu
      exact c1
theorem OwnF.src {B : Nat} {w : World} {a : Option Addr} {c : Nat} {l : List Fr} (h : OwnF B w (.slice a l.length c) l) (hf : FreeF B w a l.length l) : l.length = 0 ∧ a = none ∨ ∃ ad, a = some ad ∧ ∀ j u, (fireCells l)[j]? = some u → w.cell? (ad.add j) = some u := by
  by_cases h0 : l.length = 0
  · have hl : l = [] := List.length_eq_zero_iff.1 h0
    cases a with
    | none => exact .inl ⟨h0, rfl⟩
    | some ad => exact .inr ⟨ad, rfl, fun j u hu => by rw [hl] at hu; simp [fireCells] at hu⟩
  · exact .inr ((FreeF.src0 hf).resolve_left h0)
theorem fire_one : ∀ (l : List Fr), ∀ u ∈ fireCells l, u.oneCell' = true
  | [], u, h => by simp [fireCells] at h
  | x :: l, u, h => by
    simp [fireCells] at h
    rcases h with rfl | rfl | h
    · rfl
    · rfl
    · exact fire_one l u h
set_option maxHeartbeats 8000000 in
set_option maxRecDepth 100000 in
theorem walk (a0 : Option Addr) (n c : Nat) (bs : List Int) (a1 : Option Addr) (n1 c1 : Nat) (w : World) (hc : n ≤ c) (hm : c ≤ maxLen) (hc1 : n1 ≤ c1) (hm1 : c1 ≤ maxLen) (hz : IsBytes w.heap.size w a0 n bs) :
    Calls Try.prog 3 #[.slice a0 n c, .slice a1 n1 c1] w fun e w' => e = .returned (.bool true) ∧ Below w.heap.size w w' := by
  unfold maxLen at hm hm1
  by_cases h1 : 1048576 < n
  · clear hz
    go_enter Try.func3, Try.ntmps3
    go_wp2_with fail
    go_ret
    exact ⟨rfl, Below.refl _ _⟩
  by_cases h2 : 1048576 < n1
  · clear hz
    go_enter Try.func3, Try.ntmps3
    go_wp2_with fail
    go_ret
    exact ⟨rfl, Below.refl _ _⟩
  have HD := hidOf (DrawClockDue_any a0 n c bs w hc (by omega) hz)
  clear hz
  go_enter Try.func3, Try.ntmps3
  go_wp2_with fail
  refine HD.out.mono ?_
  rintro e w1 ⟨lv, l, p, q, rfl, hl4, hlo, hp, hq, hb1⟩
  obtain ⟨la, lc, rfl, hlc, hlm, hli⟩ := hlo.is
  have HZ : Hid (∀ W, Below w1.heap.size w1 W → IsBts W.heap.size W la l.length l) := fun W hb => (hli.belowBt hb).monoBt hb.size
  have HB1 := hidOf hb1
  have hl6 : l.length ≤ 1048576 := by omega
  have HDL := hidOf (fun x y => due_le (l := l) (p := x) (q := y))
  have HCUT := hidOf (fun k => clockM_cut (l := l) (p := p) (q := q) (k := k))
  have HSP := hidOf (fun B a n c w hB hn hz => specClockDue_any B a n c l p q w hB hn hz)
  have HIM := hidOf (fun x y B a n c w hB hn hz => implClockDue_any B a n c l x y w hB hn hz)
  have HIM0 := hidOf (HIM.out p q)
  obtain ⟨R, hR⟩ : ∃ R, clockM l p q = R := ⟨_, rfl⟩
  have hrl : R.length ≤ 200 := by rw [← hR]; exact due_le
  rw [hR] at HSP HIM0 HCUT
  clear hb1 hlo hli hR
  -- all that comes, by the program
  go_wp2_with fail
  refine (HIM0.out _ _ _ _ _ (Nat.le_refl _) hl6 (HZ.out _ (Below.refl _ _))).mono ?_
  rintro e w2 ⟨gv, rfl, ho2, bel2⟩
  obtain ⟨ga, gc, rfl, _, hg2⟩ := ho2.free
  have HG2 := hidOf hg2
  have HB2 := hidOf bel2
  clear ho2 hg2 bel2
  go_wp2_with fail
  refine (HSP.out _ _ _ _ _ (Nat.le_refl _) hl6 (HZ.out _ HB2.out)).mono ?_
  rintro e w3 ⟨sv, rfl, ho3, bel3⟩
  obtain ⟨sa, sc, rfl, _, hs3⟩ := ho3.free
  have HS3 := hidOf hs3
  have HG3 := hidOf (HG2.out.keep bel3)
  have HB3 := hidOf (HB2.out.trans (bel3.mono HB2.out.size))
  clear ho3 hs3 bel3
  go_wp2_with fail
  refine (ttFires_same _ _ _ _ _ _ _ R _ (by omega) HG3.out HS3.out).mono ?_
  rintro e w4 ⟨rfl, bel4⟩
  have HG4 := hidOf (HG3.out.keep bel4)
  have HB4 := hidOf (HB3.out.trans (bel4.mono HB3.out.size))
  clear bel4
  go_wp2_with fail
  refine (implClockOk_any _ _ _ _ l _ (Nat.le_refl _) hl6 (HZ.out _ HB4.out)).mono ?_
  rintro e w5 ⟨rfl, bel5⟩
  have HG5 := hidOf (HG4.out.keep bel5)
  have HB5 := hidOf (HB4.out.trans (bel5.mono HB4.out.size))
  have HBW : Hid (∀ W, Below w1.heap.size w1 W → Below w.heap.size w W) := fun W hb => HB1.out.trans (hb.mono HB1.out.size)
  clear bel5
  cases hok : btsB l with
  | false =>
    go_wp2_with fail
    refine (HSP.out _ _ _ _ _ (Nat.le_refl _) hl6 (HZ.out _ HB5.out)).mono ?_
    rintro e w6 ⟨sv6, rfl, ho6, bel6⟩
    obtain ⟨sa6, sc6, rfl, _, hs6⟩ := ho6.free
    have HS6 := hidOf hs6
    have HG6 := hidOf (HG5.out.keep bel6)
    have HB6 := hidOf (HB5.out.trans (bel6.mono HB5.out.size))
    clear ho6 hs6 bel6
    go_wp2_with fail
    refine (ttFires_same _ _ _ _ _ _ _ R _ (by omega) HG6.out HS6.out).mono ?_
    rintro e w7 ⟨rfl, bel7⟩
    have HB7 := hidOf (HB6.out.trans (bel7.mono HB6.out.size))
    clear bel7
    go_wp2_with fail
    refine (implClockOk_any _ _ _ _ l _ (Nat.le_refl _) hl6 (HZ.out _ HB7.out)).mono ?_
    rintro e w8 ⟨rfl, bel8⟩
    have HB8 := hidOf (HB7.out.trans (bel8.mono HB7.out.size))
    clear bel8
    go_wp2_with fail
    refine (specClockOk_any _ _ _ _ l _ (Nat.le_refl _) hl6 (HZ.out _ HB8.out)).mono ?_
    rintro e w9 ⟨rfl, bel9⟩
    have HB9 := hidOf (HB8.out.trans (bel9.mono HB8.out.size))
    clear bel9
    go_wp2_with fail
    go_ret
    exact ⟨ret_bool (by simp), HBW.out _ HB9.out⟩
  | true =>
    by_cases g1 : p < 0
    · skip
      go_wp2_with fail
      refine (HSP.out _ _ _ _ _ (Nat.le_refl _) hl6 (HZ.out _ HB5.out)).mono ?_
      rintro e w6 ⟨sv6, rfl, ho6, bel6⟩
      obtain ⟨sa6, sc6, rfl, _, hs6⟩ := ho6.free
      have HS6 := hidOf hs6
      have HG6 := hidOf (HG5.out.keep bel6)
      have HB6 := hidOf (HB5.out.trans (bel6.mono HB5.out.size))
      clear ho6 hs6 bel6
      go_wp2_with fail
      refine (ttFires_same _ _ _ _ _ _ _ R _ (by omega) HG6.out HS6.out).mono ?_
      rintro e w7 ⟨rfl, bel7⟩
      have HB7 := hidOf (HB6.out.trans (bel7.mono HB6.out.size))
      clear bel7
      go_wp2_with fail
      refine (implClockOk_any _ _ _ _ l _ (Nat.le_refl _) hl6 (HZ.out _ HB7.out)).mono ?_
      rintro e w8 ⟨rfl, bel8⟩
      have HB8 := hidOf (HB7.out.trans (bel8.mono HB7.out.size))
      clear bel8
      go_wp2_with fail
      refine (specClockOk_any _ _ _ _ l _ (Nat.le_refl _) hl6 (HZ.out _ HB8.out)).mono ?_
      rintro e w9 ⟨rfl, bel9⟩
      have HB9 := hidOf (HB8.out.trans (bel9.mono HB8.out.size))
      clear bel9
      go_wp2_with fail
      go_ret
      exact ⟨ret_bool (by simp), HBW.out _ HB9.out⟩
    by_cases g2 : q < p
    · skip
      go_wp2_with fail
      refine (HSP.out _ _ _ _ _ (Nat.le_refl _) hl6 (HZ.out _ HB5.out)).mono ?_
      rintro e w6 ⟨sv6, rfl, ho6, bel6⟩
      obtain ⟨sa6, sc6, rfl, _, hs6⟩ := ho6.free
      have HS6 := hidOf hs6
      have HG6 := hidOf (HG5.out.keep bel6)
      have HB6 := hidOf (HB5.out.trans (bel6.mono HB5.out.size))
      clear ho6 hs6 bel6
      go_wp2_with fail
      refine (ttFires_same _ _ _ _ _ _ _ R _ (by omega) HG6.out HS6.out).mono ?_
      rintro e w7 ⟨rfl, bel7⟩
      have HB7 := hidOf (HB6.out.trans (bel7.mono HB6.out.size))
      clear bel7
      go_wp2_with fail
      refine (implClockOk_any _ _ _ _ l _ (Nat.le_refl _) hl6 (HZ.out _ HB7.out)).mono ?_
      rintro e w8 ⟨rfl, bel8⟩
      have HB8 := hidOf (HB7.out.trans (bel8.mono HB7.out.size))
      clear bel8
      go_wp2_with fail
      refine (specClockOk_any _ _ _ _ l _ (Nat.le_refl _) hl6 (HZ.out _ HB8.out)).mono ?_
      rintro e w9 ⟨rfl, bel9⟩
      have HB9 := hidOf (HB8.out.trans (bel9.mono HB8.out.size))
      clear bel9
      go_wp2_with fail
      go_ret
      exact ⟨ret_bool (by simp), HBW.out _ HB9.out⟩
    by_cases g3 : 9999 < q
    · skip
      go_wp2_with fail
      refine (HSP.out _ _ _ _ _ (Nat.le_refl _) hl6 (HZ.out _ HB5.out)).mono ?_
      rintro e w6 ⟨sv6, rfl, ho6, bel6⟩
      obtain ⟨sa6, sc6, rfl, _, hs6⟩ := ho6.free
      have HS6 := hidOf hs6
      have HG6 := hidOf (HG5.out.keep bel6)
      have HB6 := hidOf (HB5.out.trans (bel6.mono HB5.out.size))
      clear ho6 hs6 bel6
      go_wp2_with fail
      refine (ttFires_same _ _ _ _ _ _ _ R _ (by omega) HG6.out HS6.out).mono ?_
      rintro e w7 ⟨rfl, bel7⟩
      have HB7 := hidOf (HB6.out.trans (bel7.mono HB6.out.size))
      clear bel7
      go_wp2_with fail
      refine (implClockOk_any _ _ _ _ l _ (Nat.le_refl _) hl6 (HZ.out _ HB7.out)).mono ?_
      rintro e w8 ⟨rfl, bel8⟩
      have HB8 := hidOf (HB7.out.trans (bel8.mono HB7.out.size))
      clear bel8
      go_wp2_with fail
      refine (specClockOk_any _ _ _ _ l _ (Nat.le_refl _) hl6 (HZ.out _ HB8.out)).mono ?_
      rintro e w9 ⟨rfl, bel9⟩
      have HB9 := hidOf (HB8.out.trans (bel9.mono HB8.out.size))
      clear bel9
      go_wp2_with fail
      go_ret
      exact ⟨ret_bool (by simp), HBW.out _ HB9.out⟩
    have hw0 : IntKind.i64.wrap (q - p) = q - p := by rw [IntKind.wrap_i64]; omega
    by_cases g4 : 40 < q - p
    · skip
      go_wp2_with fail
      refine (HSP.out _ _ _ _ _ (Nat.le_refl _) hl6 (HZ.out _ HB5.out)).mono ?_
      rintro e w6 ⟨sv6, rfl, ho6, bel6⟩
      obtain ⟨sa6, sc6, rfl, _, hs6⟩ := ho6.free
      have HS6 := hidOf hs6
      have HG6 := hidOf (HG5.out.keep bel6)
      have HB6 := hidOf (HB5.out.trans (bel6.mono HB5.out.size))
      clear ho6 hs6 bel6
      go_wp2_with fail
      refine (ttFires_same _ _ _ _ _ _ _ R _ (by omega) HG6.out HS6.out).mono ?_
      rintro e w7 ⟨rfl, bel7⟩
      have HB7 := hidOf (HB6.out.trans (bel7.mono HB6.out.size))
      clear bel7
      go_wp2_with fail
      refine (implClockOk_any _ _ _ _ l _ (Nat.le_refl _) hl6 (HZ.out _ HB7.out)).mono ?_
      rintro e w8 ⟨rfl, bel8⟩
      have HB8 := hidOf (HB7.out.trans (bel8.mono HB7.out.size))
      clear bel8
      go_wp2_with fail
      refine (specClockOk_any _ _ _ _ l _ (Nat.le_refl _) hl6 (HZ.out _ HB8.out)).mono ?_
      rintro e w9 ⟨rfl, bel9⟩
      have HB9 := hidOf (HB8.out.trans (bel9.mono HB8.out.size))
      clear bel9
      go_wp2_with fail
      go_ret
      exact ⟨ret_bool (by simp), HBW.out _ HB9.out⟩
    have hw1 : IntKind.i64.wrap (q - p + 1) = q - p + 1 := by rw [IntKind.wrap_i64]; omega
    have hz1 : (q - p + 1 == 0) = false := by simp; omega
    have r0 := Int.tmod_nonneg (q - p + 1) (show (0 : Int) ≤ (n1 : Int) by omega)
    have r1 := Int.tmod_lt_of_pos (n1 : Int) (show 0 < q - p + 1 by omega)
    obtain ⟨m, hm2⟩ : ∃ m, (n1 : Int).tmod (q - p + 1) = m := ⟨_, rfl⟩
    rw [hm2] at r0 r1
    have hw2 : IntKind.i64.wrap (p + m) = p + m := by rw [IntKind.wrap_i64]; omega
    have HC2 : Hid (clockM l p (p + m) ++ clockM l (p + m) q = R) := HCUT.out (p + m) hok (by omega) (by omega) (by omega) (by omega) (by omega)
    clear hok
    obtain ⟨i0, hi, hz0, hz1, hz2⟩ := info_parts infoFr
    have HIM1 := hidOf (HIM.out p (p + m))
    have HIM2 := hidOf (HIM.out (p + m) q)
    have hA1 := HDL.out p (p + m)
    have hA2 := HDL.out (p + m) q
    obtain ⟨A1, hA1e⟩ : ∃ A, clockM l p (p + m) = A := ⟨_, rfl⟩
    obtain ⟨A2, hA2e⟩ : ∃ A, clockM l (p + m) q = A := ⟨_, rfl⟩
    rw [hA1e] at HIM1 HC2 hA1
    rw [hA2e] at HIM2 HC2 hA2
    clear hA1e hA2e HIM HIM0 HDL HCUT
    obtain ⟨W5, hW5⟩ : ∃ W, w5.alloc (.cells #[] 32) = W := ⟨_, rfl⟩
    have HB5' : Hid (Below w1.heap.size w1 W5) := by rw [← hW5]; exact HB5.out.alloc HB5.out.size _
    have HE5 : Hid (OwnF w5.heap.size W5 (.slice (some ⟨w5.heap.size, 0, none⟩) 0 0) []) := by rw [← hW5]; exact World.ownsRow_lit w5 #[] 0 (Nat.le_refl _) (by unfold maxLen; omega) rfl
    have HG5' : Hid (FreeF w1.heap.size W5 ga R.length R) := by rw [← hW5]; exact HG5.out.keep ((Below.refl _ _).alloc (Nat.le_refl _) _)
    have hs5 : W5.heap.size = w5.heap.size + 1 := by rw [← hW5]; simp
    have HGL : Hid (∀ b, ga = some ⟨b, 0, none⟩ → R.length ≠ 0 → b < w5.heap.size) := fun b e hn0 => by
      rcases HG5.out.there with h0 | ⟨b3, e3, h6, h7, _⟩
      · exact absurd h0 hn0
      · rw [e] at e3; cases e3; exact h7
    obtain ⟨s5, hs5e⟩ : ∃ s, w5.heap.size = s := ⟨_, rfl⟩
    rw [hs5e] at HE5 hs5 HGL
    go_wp2_with fail
    clear hW5
    refine (HIM1.out _ _ _ _ _ (Nat.le_refl _) hl6 (HZ.out _ HB5'.out)).mono ?_
    rintro e w6 ⟨v6, rfl, ho6, bel6⟩
    obtain ⟨fa, fc, rfl, _, hf6⟩ := ho6.free
    have HF6 := hidOf hf6
    have HE6 := hidOf (HE5.out.keep bel6)
    have HG6 := hidOf (HG5'.out.keep bel6)
    have HB6 := hidOf (HB5'.out.trans (bel6.mono HB5'.out.size))
    have hs6 : s5 ≤ w6.heap.size := by have := bel6.size; omega
    have HX6 : Hid (A1.length = 0 ∧ fa = none ∨ ∃ ad, fa = some ad ∧ ∀ j u, (fireCells A1)[j]? = some u → w6.cell? (ad.add j) = some u) := OwnF.src ho6 HF6.out
    clear ho6 hf6 bel6
    go_wp2_with (at_builtin; (refine wpList_append_from rfl (.tmp 81) (.tmp 85) 26 rfl s5 32 i0 (.agg #[.int .i64 0, .int .i64 0]) 2 16 Try.underlying26 hi hz0 hz1 hz2 rfl (by decide) _ 0 (fireCells []) rfl (by exact HE6.out) _ A1.length _ (fireCells A1) rfl (by rw [fireCells_len]) (by exact HX6.out) (fire_one _) (by unfold maxLen; (try simp only [List.length_nil]); omega) (by (try simp only [List.length_nil]); omega) (by first | omega | (simp; omega)) ?_))
    intro v7 w7 hown7 hb7
    have HE7 : Hid (OwnF s5 w7 v7 A1) := hown7
    have HG7 : Hid (FreeF w1.heap.size w7 ga R.length R) := HG6.out.of_block hb7.size (fun b e hn0 _ _ => hb7.block b (HGL.out b e hn0))
    have HB7 : Hid (Below w1.heap.size w1 w7) := HB6.out.trans (hb7.mono (by have := HB5.out.size; omega))
    have hs7 : s5 ≤ w7.heap.size := by have := hb7.size; omega
    clear hown7 hb7
    go_wp2_with fail
    refine (HIM2.out _ _ _ _ _ (Nat.le_refl _) hl6 (HZ.out _ HB7.out)).mono ?_
    rintro e w8 ⟨v8, rfl, ho8, bel8⟩
    obtain ⟨ea, ec, rfl, _, hf8⟩ := ho8.free
    have HF8 := hidOf hf8
    have HE8 := hidOf (HE7.out.keep bel8)
    have HG8 := hidOf (HG7.out.keep bel8)
    have HB8 := hidOf (HB7.out.trans (bel8.mono HB7.out.size))
    have hs8 : s5 ≤ w8.heap.size := by have := bel8.size; omega
    have HX8 : Hid (A2.length = 0 ∧ ea = none ∨ ∃ ad, ea = some ad ∧ ∀ j u, (fireCells A2)[j]? = some u → w8.cell? (ad.add j) = some u) := OwnF.src ho8 HF8.out
    clear ho8 hf8 bel8
    go_wp2_with (at_builtin; (refine wpList_append_from rfl (.tmp 86) (.tmp 90) 26 rfl s5 32 i0 (.agg #[.int .i64 0, .int .i64 0]) 2 16 Try.underlying26 hi hz0 hz1 hz2 rfl (by decide) _ A1.length (fireCells A1) rfl (by exact HE8.out) _ A2.length _ (fireCells A2) rfl (by rw [fireCells_len]) (by exact HX8.out) (fire_one _) (by unfold maxLen; (try simp only [List.length_nil]); omega) (by (try simp only [List.length_nil]); omega) (by first | omega | (simp; omega)) ?_))
    intro v9 w9 hown9 hb9
    have hlen : A1.length + A2.length = R.length := by rw [← HC2.out, List.length_append]
    have ho9 : OwnF s5 w9 v9 R := by
      show World.ownsRow _ _ _ _ _ _ _
      rw [← HC2.out, List.length_append, fireCells_app]
      exact hown9
    obtain ⟨ra, rc, rfl, _, hf9⟩ := ho9.free
    have HF9 := hidOf hf9
    have HG9 : Hid (FreeF w1.heap.size w9 ga R.length R) := HG8.out.of_block hb9.size (fun b e hn0 _ _ => hb9.block b (HGL.out b e hn0))
    have HB9 : Hid (Below w1.heap.size w1 w9) := HB8.out.trans (hb9.mono (by have := HB5.out.size; omega))
    clear hown9 hb9 ho9 hf9 hlen
    go_wp2_with fail
    refine (ttFires_same _ _ _ _ _ _ _ R _ (by omega) HF9.out HG9.out).mono ?_
    rintro e w10 ⟨rfl, bel10⟩
    have HB10 := hidOf (HB9.out.trans (bel10.mono HB9.out.size))
    clear bel10
    go_wp2_with fail
    go_ret
    exact ⟨rfl, HBW.out _ HB10.out⟩

/-! ### THE ROW's STEP -/
set_option maxRecDepth 100000 in
theorem lifted (os : Os) (started : os.Started) (H : Type) (enc : TypeId × Value → H) :
    ReturnsInHanded {} Try.checked os 3 .any (Rows.fnClockDueSpec.pre6 enc Try.prog Try.f3 Rows.fnClockDueRow.domain false) (Rows.fnClockDueSpec.post enc Try.prog Try.f3 false true false false) := by
  refine returnsInHanded_of_change (C := Try.checked) own started (by kernel_rfl) Try.func3
    (ChangeSpec.witness6 (enc := enc) (C := Try.checked) false ⟨#[], #[.slice none 0 0, .slice none 0 0], []⟩ 8 (by kernel_rfl) (by kernel_rfl) (by kernel_rfl) (by kernel_rfl)) ?_
  intro W base args ds gs before hval0 hW hcnd _
  have hval : ∀ (j : Nat) t v, Try.f3.params[j]? = some t → args[j]? = some v → Value.okWide Try.prog W .any base t v := hval0
  have hW' := hW
  obtain ⟨p, q, hA0, hV, rfl, hfz, hnd⟩ := hW
  have hA : DataW.TrodAll enc Try.prog W 0 (fun _ => true) true Try.f3.params.toList args.toList ds p := hA0
  rw [Try.params3] at hA hval
  obtain ⟨v0, vs0, d0, ds0, p0, q0, hargs, rfl, rfl, h0, r0⟩ := trodAll_cons hA
  obtain ⟨v1, vs1, d1, ds1, p1, q1, rfl, rfl, rfl, h1, r1⟩ := trodAll_cons r0
  obtain ⟨rfl, rfl, rfl⟩ := trodAll_nil r1
  obtain rfl : args = #[v0, v1] := by cases args; simp_all
  obtain ⟨rfl, rfl⟩ := trodVars_none hV
  obtain ⟨a0, len0, cap0, rfl⟩ := okWide_slice Try.underlying22 (hval 0 22 v0 rfl rfl)
  obtain ⟨a1, len1, cap1, rfl⟩ := okWide_slice Try.underlying22 (hval 1 22 v1 rfl rfl)
  have k0 := h0
  have k1 := h1
  have lt0 : ∀ x ∈ p0, x.block < W.heap.size := by obtain ⟨m, hm⟩ := k0; exact DataW.trod_lt m _ _ _ hm
  have lt1 : ∀ x ∈ p1, x.block < W.heap.size := by obtain ⟨m, hm⟩ := k1; exact DataW.trod_lt m _ _ _ hm
  obtain ⟨fuel0, hf0⟩ := h0
  obtain ⟨hc0, hm0, bs, w0⟩ := open_code rfl hf0
  obtain ⟨fuel1, hf1⟩ := h1
  obtain ⟨hc1, hm1, _, _⟩ := open_code rfl hf1
  clear hA0 hval0
  refine (walk a0 len0 cap0 bs a1 len1 cap1 W hc0 hm0 hc1 hm1 w0).mono fun e W' ⟨he, bel⟩ => ?_
  subst he
  exact ⟨_, rfl, _, _, _, [], _, [], hW', trodAll_mk1 (shut_bool Try.underlying4 _), (trodAll_cons_mk (Below.trod laidOut (by kernel_rfl) (of_decide_eq_true (by kernel_rfl)) k0 bel lt0) (trodAll_cons_mk (Below.trod laidOut (by kernel_rfl) (of_decide_eq_true (by kernel_rfl)) k1 bel lt1) trodAll_mk0)), rfl, bel.frame _, fun h => by cases h⟩

theorem over : Rows.fnClockDueRow.holds Try.pinned (OpenSpec.ofChange Rows.fnClockDueSpec) :=
  OpenClaim.holds_of_wide 3 Try.f3 rfl rfl rfl rfl rfl rfl rfl ⟨rfl, rfl, rfl, rfl, rfl⟩ rfl rfl rfl rfl rfl (by kernel_rfl) Try.func3 (by kernel_rfl)
    (of_decide_eq_true (by kernel_rfl)) (by unfold Func.isWrapper; first | (rw [if_pos (by decide +kernel)]; kernel_rfl) | (rw [if_neg (by decide +kernel)]; exact ⟨rfl, rfl⟩))
    (fun os started H enc _ => lifted os started H enc)

theorem proved : Rows.FnClockDueSaid := over
#print axioms proved
end Go.Proofs.Ytlpdilmdhfemdaa.fnClockDue
