/- The model's l3NamesOk: whether all names of a block are such. -/
import Derived.Test.YtchemhjcknkbgaaGreatDoorBunY34
import Derived.Test.YtchemhjcknkbgaaGreatDoorBunY0
import Derived.Test.YtchemhjcknkbgaaGreatDoorBunY1
import Derived.Lib.AppendZeros
import Derived.Test.YtchemhjcknkbgaaGreatDoorBunY23
namespace Go.Proofs.YtchemhjcknkbgaaGreatDoor
open Go Go.RowKit Go.PlainAid
set_option linter.unusedSimpArgs false
set_option linter.unusedVariables false


set_option maxHeartbeats 3200000 in
set_option maxRecDepth 100000 in
theorem l3NamesOk_any (B : Nat) (v : BkV) (x : Bk) (w : World) (hB : B ≤ w.heap.size) (hwt : wtBk x ≤ 1048576) (hx : IsBk B w v x) :
    Calls Tryz.prog 64 #[v.val x.name] w fun e w' => e = .returned (.bool (decide (NamesOk x))) ∧ Below w.heap.size w w' := by
  obtain ⟨p0, p1, p2, p3, p4, p5, p6, p7, p8, p9⟩ := wtBk_parts hwt
  have li := hx.ins.1
  have lo := hx.outs.1
  have lv := hx.vars.1
  have lt := hx.states.1
  have HX := hidOf hx
  have hvi := valsM_le x.ins
  have hvo := valsM_le x.outs
  have hsi := hidOf (valsM_small p2)
  have hso := hidOf (valsM_small p4)
  have hsv := hidOf (vars_small p6)
  have hst := hidOf (states_small p8)
  have hvl : (varsM x).length = x.vars.length := by simp [varsM]
  have htl : (statesM x).length = x.states.length := by simp [statesM]
  have hnl := names_len hwt
  have HI : Hid (∀ W, Below w.heap.size w W → Calls Tryz.prog 68 #[.slice v.ai v.ni v.ci] W fun e w' => ∃ u, e = .returned u ∧ OwnS W.heap.size w' u (valsM x.ins) ∧ Below W.heap.size W w') := fun W hb => l3Vals_any B v.ai v.ni v.ci x.ins W (by have := hb.size; omega) (by omega) p2 (HX.out.below (hb.mono hB)).ins
  have HO : Hid (∀ W, Below w.heap.size w W → Calls Tryz.prog 68 #[.slice v.ao v.no v.co] W fun e w' => ∃ u, e = .returned u ∧ OwnS W.heap.size w' u (valsM x.outs) ∧ Below W.heap.size W w') := fun W hb => l3Vals_any B v.ao v.no v.co x.outs W (by have := hb.size; omega) (by omega) p4 (HX.out.below (hb.mono hB)).outs
  have HV : Hid (∀ W, Below w.heap.size w W → Calls Tryz.prog 69 #[v.val x.name] W fun e w' => ∃ u, e = .returned u ∧ OwnS W.heap.size w' u (varsM x) ∧ Below W.heap.size W w') := fun W hb => l3Vars_any B v x W (by have := hb.size; omega) (by omega) (HX.out.below (hb.mono hB))
  have HS : Hid (∀ W, Below w.heap.size w W → Calls Tryz.prog 97 #[v.val x.name] W fun e w' => ∃ u, e = .returned u ∧ OwnS W.heap.size w' u (statesM x) ∧ Below W.heap.size W w') := fun W hb => l3States_any B v x W (by have := hb.size; omega) (by omega) (HX.out.below (hb.mono hB))
  have HN : Hid (∀ W, Below w.heap.size w W → Calls Tryz.prog 33 #[v.val x.name] W fun e w' => ∃ u, e = .returned u ∧ OwnS W.heap.size w' u (namesM x) ∧ Below W.heap.size W w') := fun W hb => l3Names_any B v x W (by have := hb.size; omega) hwt (HX.out.below (hb.mono hB))
  have HPI : Hid (∀ W, Below w.heap.size w W → Calls Tryz.prog 111 #[.slice v.ai v.ni v.ci] W fun e w' => e = .returned (.bool (decide (PortsOk x.ins))) ∧ Below W.heap.size W w') := fun W hb => l3PortsOk_any B v.ai v.ni v.ci x.ins W (by have := hb.size; omega) (by omega) p2 (HX.out.below (hb.mono hB)).ins
  have HPO : Hid (∀ W, Below w.heap.size w W → Calls Tryz.prog 111 #[.slice v.ao v.no v.co] W fun e w' => e = .returned (.bool (decide (PortsOk x.outs))) ∧ Below W.heap.size W w') := fun W hb => l3PortsOk_any B v.ao v.no v.co x.outs W (by have := hb.size; omega) (by omega) p4 (HX.out.below (hb.mono hB)).outs
  have HAV : Hid (∀ W B' a n c, OwnS B' W (.slice a n c) (varsM x) → Calls Tryz.prog 112 #[.slice a n c, .int .i64 4] W fun e w' => e = .returned (.bool (decide (AreNames (varsM x) ∧ x.vars.length ≤ 4))) ∧ Below W.heap.size W w') := fun W B' a n c h => by
    obtain ⟨a', c', e, hc, hz, _⟩ := h.form
    cases e
    have := l3All_any W.heap.size a _ c (varsM x) 4 W (Nat.le_refl _) (by omega) hsv.out hz
    exact this.mono fun e w' ⟨h1, h2⟩ => ⟨h1.trans (ret_bool (decide_eq_decide.2 (and_congr_right fun _ => by rw [hvl]; omega))), h2⟩
  have HAS : Hid (∀ W B' a n c, OwnS B' W (.slice a n c) (statesM x) → Calls Tryz.prog 112 #[.slice a n c, .int .i64 5] W fun e w' => e = .returned (.bool (decide (AreNames (statesM x) ∧ x.states.length ≤ 5))) ∧ Below W.heap.size W w') := fun W B' a n c h => by
    obtain ⟨a', c', e, hc, hz, _⟩ := h.form
    cases e
    have := l3All_any W.heap.size a _ c (statesM x) 5 W (Nat.le_refl _) (by omega) hst.out hz
    exact this.mono fun e w' ⟨h1, h2⟩ => ⟨h1.trans (ret_bool (decide_eq_decide.2 (and_congr_right fun _ => by rw [htl]; omega))), h2⟩
  have HAP : ∀ (l l' : List ByteArray), l.length ≤ 1048576 → l'.length ≤ 1048576 → (∀ y ∈ l, y.size ≤ 1048576) → (∀ y ∈ l', y.size ≤ 1048576) → Hid (∀ W B1 B2 a n c a' n' c', OwnS B1 W (.slice a n c) l → OwnS B2 W (.slice a' n' c') l' → Calls Tryz.prog 113 #[.slice a n c, .slice a' n' c'] W fun e w' => e = .returned (.bool (decide (Apart l l'))) ∧ w' = W) := fun l l' h1 h2 h3 h4 W B1 B2 a n c a' n' c' o1 o2 => by
    obtain ⟨_, _, e, _, hz, _⟩ := o1.form
    cases e
    obtain ⟨_, _, e, _, hz', _⟩ := o2.form
    cases e
    exact l3Apart_any W.heap.size a _ c l a' _ c' l' W (Nat.le_refl _) h1 h2 h3 h4 hz hz'
  have HA1 := HAP (valsM x.ins) (valsM x.outs) (by omega) (by omega) hsi.out hso.out
  have HA2 := HAP (valsM x.ins) (varsM x) (by omega) (by omega) hsi.out hsv.out
  have HA3 := HAP (valsM x.outs) (varsM x) (by omega) (by omega) hso.out hsv.out
  have HVA : Hid (∀ W, Below w.heap.size w W → ∀ k, (hk : k < x.vars.length) → ∃ b off, v.av = some ⟨b, off, none⟩ ∧ b < w.heap.size ∧ W.cell? ⟨b, off + k * 2 + 1, none⟩ = some (.int .i64 (x.vars[k]).num)) := fun W hb k hk => by
    obtain ⟨b, off, cs, e, hlt, q, hc⟩ := IsArr.at (HX.out.below (hb.mono hB)).vars (k := k) (by omega) hk
    unfold QVr at q
    subst q
    exact ⟨b, off, e, by omega, hc 1 _ rfl⟩
  have HLN := hidOf (fun W => l1Name_any x.name W (by unfold maxLen; omega))
  clear HAP
  obtain ⟨R, hR⟩ : ∃ R, decide (NamesOk x) = R := ⟨_, rfl⟩
  have HR := hidOf hR
  rw [hR]
  clear hR
  obtain ⟨N1, hN1⟩ : ∃ b, nmB x.name = b := ⟨_, rfl⟩
  obtain ⟨P1, hP1⟩ : ∃ b, decide (PortsOk x.ins) = b := ⟨_, rfl⟩
  obtain ⟨P2, hP2⟩ : ∃ b, decide (PortsOk x.outs) = b := ⟨_, rfl⟩
  obtain ⟨V1, hV1⟩ : ∃ b, decide (AreNames (varsM x) ∧ x.vars.length ≤ 4) = b := ⟨_, rfl⟩
  obtain ⟨S1, hS1⟩ : ∃ b, decide (AreNames (statesM x) ∧ x.states.length ≤ 5) = b := ⟨_, rfl⟩
  obtain ⟨A1, hA1⟩ : ∃ b, decide (Apart (valsM x.ins) (valsM x.outs)) = b := ⟨_, rfl⟩
  obtain ⟨A2, hA2⟩ : ∃ b, decide (Apart (valsM x.ins) (varsM x)) = b := ⟨_, rfl⟩
  obtain ⟨A3, hA3⟩ : ∃ b, decide (Apart (valsM x.outs) (varsM x)) = b := ⟨_, rfl⟩
  rw [hN1] at HLN; rw [hP1] at HPI; rw [hP2] at HPO; rw [hV1] at HAV; rw [hS1] at HAS; rw [hA1] at HA1; rw [hA2] at HA2; rw [hA3] at HA3
  have KN := hidOf hN1; have KP1 := hidOf hP1; have KP2 := hidOf hP2; have KV := hidOf hV1; have KS := hidOf hS1; have KA1 := hidOf hA1; have KA2 := hidOf hA2; have KA3 := hidOf hA3
  clear hN1 hP1 hP2 hV1 hS1 hA1 hA2 hA3 hsi hso hsv hst hvi hvo hvl htl li lo lt p0 p1 p2 p3 p4 p6 p7 p8 p9 hwt hx HX
  obtain ⟨ai, ni, ci, ao, no, co, av, nv, cv, at_, nt, ct⟩ := v
  have EX := hidOf (rfl : x = x)
  obtain ⟨xn, hxn⟩ : ∃ n, x.name = n := ⟨_, rfl⟩
  simp only [BkV.val] at HV HS HN HVA HI HO HPI HPO lv ⊢
  rw [hxn] at HV HS HN HLN ⊢
  clear hxn
  have BX0 := hidOf (boxAt_new w [.string xn, .slice ai ni ci, .slice ao no co, .slice av nv cv, .slice at_ nt ct] 34)
  go_enter Tryz.func64, Tryz.ntmps64
  go_wp2_with fail
  refine (HI.out _ (by go_grown)).mono ?_
  rintro e w1 ⟨u1, rfl, o1, b1⟩
  obtain ⟨a1, c1', e1, _⟩ := o1.form
  subst e1
  have HB1 := hidOf (below_boxed b1)
  have BX1 := hidOf (BX0.out.below b1)
  have O1 := hidOf o1
  clear o1 b1 BX0
  have c0 : w1.cell? ⟨w.heap.size, 0, none⟩ = some (Value.string xn) := (BX1.out.2 0 _ rfl).1
  have c1 : w1.cell? ⟨w.heap.size, 1, none⟩ = some (.slice ai ni ci) := (BX1.out.2 1 _ rfl).1
  have c2 : w1.cell? ⟨w.heap.size, 2, none⟩ = some (.slice ao no co) := (BX1.out.2 2 _ rfl).1
  have c3 : w1.cell? ⟨w.heap.size, 3, none⟩ = some (.slice av nv cv) := (BX1.out.2 3 _ rfl).1
  have c4 : w1.cell? ⟨w.heap.size, 4, none⟩ = some (.slice at_ nt ct) := (BX1.out.2 4 _ rfl).1
  have sz : w.heap.size < w1.heap.size := BX1.out.1
  go_wp2_with fail
  refine (HO.out _ HB1.out).mono ?_
  rintro e w2 ⟨u2, rfl, o2, b2⟩
  obtain ⟨a2, c2', e2, _⟩ := o2.form
  subst e2
  have HB2 : Hid (Below w.heap.size w w2) := HB1.out.trans (b2.mono HB1.out.size)
  have BX2 := hidOf (BX1.out.below b2)
  clear c0 c1 c2 c3 c4 sz
  have c0 : w2.cell? ⟨w.heap.size, 0, none⟩ = some (Value.string xn) := (BX2.out.2 0 _ rfl).1
  have c1 : w2.cell? ⟨w.heap.size, 1, none⟩ = some (.slice ai ni ci) := (BX2.out.2 1 _ rfl).1
  have c2 : w2.cell? ⟨w.heap.size, 2, none⟩ = some (.slice ao no co) := (BX2.out.2 2 _ rfl).1
  have c3 : w2.cell? ⟨w.heap.size, 3, none⟩ = some (.slice av nv cv) := (BX2.out.2 3 _ rfl).1
  have c4 : w2.cell? ⟨w.heap.size, 4, none⟩ = some (.slice at_ nt ct) := (BX2.out.2 4 _ rfl).1
  have sz : w.heap.size < w2.heap.size := BX2.out.1
  have O2 := hidOf o2
  have O12 := hidOf (O1.out.keep b2)
  clear o2 b2 O1
  go_wp2_with fail
  refine (HV.out _ HB2.out).mono ?_
  rintro e w3 ⟨u3, rfl, o3, b3⟩
  obtain ⟨a3, c3', e3, _⟩ := o3.form
  subst e3
  have HB3 : Hid (Below w.heap.size w w3) := HB2.out.trans (b3.mono HB2.out.size)
  have BX3 := hidOf (BX2.out.below b3)
  clear c0 c1 c2 c3 c4 sz
  have c0 : w3.cell? ⟨w.heap.size, 0, none⟩ = some (Value.string xn) := (BX3.out.2 0 _ rfl).1
  have c1 : w3.cell? ⟨w.heap.size, 1, none⟩ = some (.slice ai ni ci) := (BX3.out.2 1 _ rfl).1
  have c2 : w3.cell? ⟨w.heap.size, 2, none⟩ = some (.slice ao no co) := (BX3.out.2 2 _ rfl).1
  have c3 : w3.cell? ⟨w.heap.size, 3, none⟩ = some (.slice av nv cv) := (BX3.out.2 3 _ rfl).1
  have c4 : w3.cell? ⟨w.heap.size, 4, none⟩ = some (.slice at_ nt ct) := (BX3.out.2 4 _ rfl).1
  have sz : w.heap.size < w3.heap.size := BX3.out.1
  have O3 := hidOf o3
  have O13 := hidOf (O12.out.keep b3)
  have O23 := hidOf (O2.out.keep b3)
  clear o3 b3 O12 O2
  go_wp2_with fail
  refine (HLN.out _).mono ?_
  rintro e w' ⟨rfl, hw'⟩
  rw [hw']
  clear hw' w'
  cases N1 with
  | false =>
    go_wp2_with fail
    go_ret
    exact ⟨ret_bool (by rw [← HR.out]; symm; exact decide_eq_false fun h => by have := h.1.1; rw [KN.out] at this; cases this), HB3.out⟩
  | true =>
  go_wp2_with fail
  refine (HPI.out _ HB3.out).mono ?_
  rintro e w4 ⟨rfl, b4⟩
  have HB4 : Hid (Below w.heap.size w w4) := HB3.out.trans (b4.mono HB3.out.size)
  have BX4 := hidOf (BX3.out.below b4)
  clear c0 c1 c2 c3 c4 sz
  have c0 : w4.cell? ⟨w.heap.size, 0, none⟩ = some (Value.string xn) := (BX4.out.2 0 _ rfl).1
  have c1 : w4.cell? ⟨w.heap.size, 1, none⟩ = some (.slice ai ni ci) := (BX4.out.2 1 _ rfl).1
  have c2 : w4.cell? ⟨w.heap.size, 2, none⟩ = some (.slice ao no co) := (BX4.out.2 2 _ rfl).1
  have c3 : w4.cell? ⟨w.heap.size, 3, none⟩ = some (.slice av nv cv) := (BX4.out.2 3 _ rfl).1
  have c4 : w4.cell? ⟨w.heap.size, 4, none⟩ = some (.slice at_ nt ct) := (BX4.out.2 4 _ rfl).1
  have sz : w.heap.size < w4.heap.size := BX4.out.1
  have O14 := hidOf (O13.out.keep b4)
  have O24 := hidOf (O23.out.keep b4)
  have O34 := hidOf (O3.out.keep b4)
  clear b4 O13 O23 O3
  cases P1 with
  | false =>
    go_wp2_with fail
    go_ret
    exact ⟨ret_bool (by rw [← HR.out]; symm; exact decide_eq_false fun h => of_decide_eq_false KP1.out h.1.2.1), HB4.out⟩
  | true =>
  go_wp2_with fail
  refine (HPO.out _ HB4.out).mono ?_
  rintro e w5 ⟨rfl, b5⟩
  have HB5 : Hid (Below w.heap.size w w5) := HB4.out.trans (b5.mono HB4.out.size)
  have BX5 := hidOf (BX4.out.below b5)
  clear c0 c1 c2 c3 c4 sz
  have c0 : w5.cell? ⟨w.heap.size, 0, none⟩ = some (Value.string xn) := (BX5.out.2 0 _ rfl).1
  have c1 : w5.cell? ⟨w.heap.size, 1, none⟩ = some (.slice ai ni ci) := (BX5.out.2 1 _ rfl).1
  have c2 : w5.cell? ⟨w.heap.size, 2, none⟩ = some (.slice ao no co) := (BX5.out.2 2 _ rfl).1
  have c3 : w5.cell? ⟨w.heap.size, 3, none⟩ = some (.slice av nv cv) := (BX5.out.2 3 _ rfl).1
  have c4 : w5.cell? ⟨w.heap.size, 4, none⟩ = some (.slice at_ nt ct) := (BX5.out.2 4 _ rfl).1
  have sz : w.heap.size < w5.heap.size := BX5.out.1
  have O15 := hidOf (O14.out.keep b5)
  have O25 := hidOf (O24.out.keep b5)
  have O35 := hidOf (O34.out.keep b5)
  clear b5 O14 O24 O34
  cases P2 with
  | false =>
    go_wp2_with fail
    go_ret
    exact ⟨ret_bool (by rw [← HR.out]; symm; exact decide_eq_false fun h => of_decide_eq_false KP2.out h.1.2.2.1), HB5.out⟩
  | true =>
  go_wp2_with fail
  refine (HAV.out _ _ _ _ _ O35.out).mono ?_
  rintro e w6 ⟨rfl, b6⟩
  have HB6 : Hid (Below w.heap.size w w6) := HB5.out.trans (b6.mono HB5.out.size)
  have BX6 := hidOf (BX5.out.below b6)
  clear c0 c1 c2 c3 c4 sz
  have c0 : w6.cell? ⟨w.heap.size, 0, none⟩ = some (Value.string xn) := (BX6.out.2 0 _ rfl).1
  have c1 : w6.cell? ⟨w.heap.size, 1, none⟩ = some (.slice ai ni ci) := (BX6.out.2 1 _ rfl).1
  have c2 : w6.cell? ⟨w.heap.size, 2, none⟩ = some (.slice ao no co) := (BX6.out.2 2 _ rfl).1
  have c3 : w6.cell? ⟨w.heap.size, 3, none⟩ = some (.slice av nv cv) := (BX6.out.2 3 _ rfl).1
  have c4 : w6.cell? ⟨w.heap.size, 4, none⟩ = some (.slice at_ nt ct) := (BX6.out.2 4 _ rfl).1
  have sz : w.heap.size < w6.heap.size := BX6.out.1
  have O16 := hidOf (O15.out.keep b6)
  have O26 := hidOf (O25.out.keep b6)
  have O36 := hidOf (O35.out.keep b6)
  clear b6 O15 O25 O35
  cases V1 with
  | false =>
    go_wp2_with fail
    go_ret
    exact ⟨ret_bool (by rw [← HR.out]; symm; exact decide_eq_false fun h => of_decide_eq_false KV.out ⟨h.1.2.2.2.1.2.1, h.1.2.2.2.1.1⟩), HB6.out⟩
  | true =>
  go_wp2_with fail
  refine (HS.out _ HB6.out).mono ?_
  rintro e w7 ⟨u7, rfl, o7, b7⟩
  obtain ⟨a7, c7', e7, _⟩ := o7.form
  subst e7
  have HB7 : Hid (Below w.heap.size w w7) := HB6.out.trans (b7.mono HB6.out.size)
  have BX7 := hidOf (BX6.out.below b7)
  clear c0 c1 c2 c3 c4 sz
  have c0 : w7.cell? ⟨w.heap.size, 0, none⟩ = some (Value.string xn) := (BX7.out.2 0 _ rfl).1
  have c1 : w7.cell? ⟨w.heap.size, 1, none⟩ = some (.slice ai ni ci) := (BX7.out.2 1 _ rfl).1
  have c2 : w7.cell? ⟨w.heap.size, 2, none⟩ = some (.slice ao no co) := (BX7.out.2 2 _ rfl).1
  have c3 : w7.cell? ⟨w.heap.size, 3, none⟩ = some (.slice av nv cv) := (BX7.out.2 3 _ rfl).1
  have c4 : w7.cell? ⟨w.heap.size, 4, none⟩ = some (.slice at_ nt ct) := (BX7.out.2 4 _ rfl).1
  have sz : w.heap.size < w7.heap.size := BX7.out.1
  have O7 := hidOf o7
  have O17 := hidOf (O16.out.keep b7)
  have O27 := hidOf (O26.out.keep b7)
  have O37 := hidOf (O36.out.keep b7)
  clear b7 o7 O16 O26 O36
  go_wp2_with fail
  refine (HAS.out _ _ _ _ _ O7.out).mono ?_
  rintro e w8 ⟨rfl, b8⟩
  have HB8 : Hid (Below w.heap.size w w8) := HB7.out.trans (b8.mono HB7.out.size)
  have BX8 := hidOf (BX7.out.below b8)
  clear c0 c1 c2 c3 c4 sz
  have c0 : w8.cell? ⟨w.heap.size, 0, none⟩ = some (Value.string xn) := (BX8.out.2 0 _ rfl).1
  have c1 : w8.cell? ⟨w.heap.size, 1, none⟩ = some (.slice ai ni ci) := (BX8.out.2 1 _ rfl).1
  have c2 : w8.cell? ⟨w.heap.size, 2, none⟩ = some (.slice ao no co) := (BX8.out.2 2 _ rfl).1
  have c3 : w8.cell? ⟨w.heap.size, 3, none⟩ = some (.slice av nv cv) := (BX8.out.2 3 _ rfl).1
  have c4 : w8.cell? ⟨w.heap.size, 4, none⟩ = some (.slice at_ nt ct) := (BX8.out.2 4 _ rfl).1
  have sz : w.heap.size < w8.heap.size := BX8.out.1
  have O18 := hidOf (O17.out.keep b8)
  have O28 := hidOf (O27.out.keep b8)
  have O38 := hidOf (O37.out.keep b8)
  clear b8 O17 O27 O37 O7
  cases S1 with
  | false =>
    go_wp2_with fail
    go_ret
    exact ⟨ret_bool (by rw [← HR.out]; symm; exact decide_eq_false fun h => of_decide_eq_false KS.out ⟨h.1.2.2.2.2.2, h.1.2.2.2.2.1⟩), HB8.out⟩
  | true =>
  go_wp2_with fail
  go_loop [6] (fun i => ∃ k : Nat, k ≤ nv ∧ i = .int .i64 k ∧ Hid (∀ j, (h : j < x.vars.length) → j < k → VarOk x.vars[j])) (fun i => nv - (intOf i).toNat)
  case atStart => exact ⟨0, Nat.zero_le _, rfl, fun j _ h => absurd h (Nat.not_lt_zero _)⟩
  case round =>
    obtain ⟨k, hk, rfl, HK⟩ := hrel
    by_cases hlt : k < nv
    · obtain ⟨b, off, rfl, hb, hcell⟩ := HVA.out w8 HB8.out k (by omega)
      have hbr : b < w8.heap.size := by have := HB8.out.size; omega
      obtain ⟨y, hy⟩ : ∃ y, (x.vars[k]'(by omega)).num = y := ⟨_, rfl⟩
      have HY := hidOf hy
      rw [hy] at hcell
      clear hy
      have HIN := hidOf (fun W => l1In_any y (-999999) 999999 W)
      cases hin : decide (-999999 ≤ y ∧ y ≤ 999999) with
      | false =>
        rw [hin] at HIN
        go_wp2_with fail
        refine (HIN.out _).mono ?_
        rintro e w' ⟨rfl, hw'⟩
        rw [hw']
        clear hw' w'
        go_wp2_with fail
        go_ret
        exact ⟨ret_bool (by rw [← HR.out]; symm; exact decide_eq_false fun h => by have h1 := h.1.2.2.2.1.2.2 (x.vars[k]'(by omega)) (List.getElem_mem _); unfold VarOk at h1; rw [HY.out] at h1; exact of_decide_eq_false hin h1), HB8.out⟩
      | true =>
        rw [hin] at HIN
        have HIT := hidOf hin
        clear hin
        go_wp2_with fail
        refine (HIN.out _).mono ?_
        rintro e w' ⟨rfl, hw'⟩
        rw [hw']
        clear hw' w'
        go_wp2_with fail
        go_round
        case rel =>
          refine ⟨k + 1, by omega, by go_num, ?_⟩
          intro j hj hjk
          by_cases e : j = k
          · subst e; unfold VarOk; rw [HY.out]; exact of_decide_eq_true HIT.out
          · exact HK.out j hj (by omega)
        case measure => simp [intOf]; omega
    · have hkn : k = nv := by omega
      subst hkn
      have HVS : Hid (∀ v ∈ x.vars, VarOk v) := fun v hv => by
        obtain ⟨j, hj, rfl⟩ := List.mem_iff_getElem.1 hv
        exact HK.out j hj (by omega)
      go_wp2_with fail
      refine (HA1.out _ _ _ _ _ _ _ _ _ O18.out O28.out).mono ?_
      rintro e w' ⟨rfl, hw'⟩
      rw [hw']
      clear hw' w'
      cases A1 with
      | false =>
        go_wp2_with fail
        go_ret
        exact ⟨ret_bool (by rw [← HR.out]; symm; exact decide_eq_false fun h => of_decide_eq_false KA1.out h.2.1.1), HB8.out⟩
      | true =>
      go_wp2_with fail
      refine (HA2.out _ _ _ _ _ _ _ _ _ O18.out O38.out).mono ?_
      rintro e w' ⟨rfl, hw'⟩
      rw [hw']
      clear hw' w'
      cases A2 with
      | false =>
        go_wp2_with fail
        go_ret
        exact ⟨ret_bool (by rw [← HR.out]; symm; exact decide_eq_false fun h => of_decide_eq_false KA2.out h.2.1.2.1), HB8.out⟩
      | true =>
      go_wp2_with fail
      refine (HA3.out _ _ _ _ _ _ _ _ _ O28.out O38.out).mono ?_
      rintro e w' ⟨rfl, hw'⟩
      rw [hw']
      clear hw' w'
      cases A3 with
      | false =>
        go_wp2_with fail
        go_ret
        exact ⟨ret_bool (by rw [← HR.out]; symm; exact decide_eq_false fun h => of_decide_eq_false KA3.out h.2.1.2.2), HB8.out⟩
      | true =>
      go_wp2_with fail
      refine (HN.out _ HB8.out).mono ?_
      rintro e w9 ⟨u9, rfl, o9, b9⟩
      obtain ⟨a9, c9', e9, _⟩ := o9.form
      subst e9
      have HB9 : Hid (Below w.heap.size w w9) := HB8.out.trans (b9.mono HB8.out.size)
      clear b9 o9
      have hRl : R = decide ((namesM x).length ≤ 16) := by
        rw [← HR.out]
        have q1 := of_decide_eq_true KV.out
        have q2 := of_decide_eq_true KS.out
        have hs : SizesOk x := ⟨KN.out, of_decide_eq_true KP1.out, of_decide_eq_true KP2.out, ⟨q1.2, q1.1, HVS.out⟩, q2.2, q2.1⟩
        have ha := And.intro (of_decide_eq_true KA1.out) (And.intro (of_decide_eq_true KA2.out) (of_decide_eq_true KA3.out))
        by_cases hl : (namesM x).length ≤ 16
        · rw [decide_eq_true hl]; exact decide_eq_true ⟨hs, ha, hl⟩
        · rw [decide_eq_false hl]; exact decide_eq_false fun h => hl h.2.2
      obtain ⟨NL, hNL⟩ : ∃ n, (namesM x).length = n := ⟨_, rfl⟩
      rw [hNL] at hRl ⊢
      have HRL := hidOf hRl
      clear hRl
      go_wp2_with fail
      go_ret
      exact ⟨ret_bool (by rw [HRL.out]; by_cases h16 : NL ≤ 16 <;> simp [h16] <;> omega), HB9.out⟩
end Go.Proofs.YtchemhjcknkbgaaGreatDoor

/- slices.Grow and slices.Concat at texts. -/
namespace Go.Proofs.YtchemhjcknkbgaaGreatDoor
open Go Go.RowKit Go.PlainAid
set_option linter.unusedSimpArgs false
set_option linter.unusedVariables false

theorem ownS_nil (B : Nat) (w : World) : OwnS B w (.slice none 0 0) [] := ⟨rfl, .inl ⟨rfl, rfl⟩⟩
set_option maxHeartbeats 800000 in
set_option maxRecDepth 100000 in
theorem growS_any (n : Nat) (w : World) (hn : n ≤ 1000) :
    Calls Tryz.prog 138 #[.slice none 0 0, .int .i64 n] w fun e w' => ∃ v, e = .returned v ∧ OwnS w.heap.size w' v [] ∧ Below w.heap.size w w' := by
  have hw0 : IntKind.i64.wrap (n : Int) = n := IntWalk.i64_in _ ⟨by omega, by omega⟩
  by_cases h0 : n = 0
  · subst h0
    go_enter Tryz.func138, Tryz.ntmps138
    go_wp2_with fail
    go_ret
    exact ⟨_, rfl, ownS_nil _ _, Below.refl _ _⟩
  obtain ⟨i0, hi, hz0, hz1, hz2⟩ := info_parts infoStr'
  have hrun := Lib.run_append_nil_zeros (P := Tryz.prog) w 28 3 28 9 i0 (.string ByteArray.empty) .i64 .i64 Tryz.underlying28 Tryz.underlying3 hi hz0 n (by omega) (by omega) (by omega) (by rw [hz2]; omega)
  have hge := grownCap_ge w n 0 9
  have hle := grownCap_le_maxLen w n 0 9 (by unfold maxLen; omega)
  generalize grownCap w n 0 9 = cap' at *
  obtain ⟨cs, hcs⟩ : ∃ cs, Builtin.zeroCells (Value.string ByteArray.empty).cells n ++ Builtin.zeroCells (Value.string ByteArray.empty).cells (cap' - n) = cs := ⟨_, rfl⟩
  have hsz : cs.size = cap' * 1 := by
    rw [← hcs, Array.size_append, size_zeroCells, size_zeroCells]
    have : (Value.string ByteArray.empty).cells.size = 1 := rfl
    rw [this]; omega
  rw [hcs] at hrun
  have HR := hidOf hrun
  have hnI : (0 : Int) < n := by omega
  have HO : Hid (OwnS w.heap.size (w.drew.alloc (.cells cs 9)) (.slice (some ⟨w.heap.size, 0, none⟩) 0 cap') []) := by
    refine ⟨rfl, .inr ⟨w.heap.size, cap', cs, rfl, Nat.le_refl _, ?_, Nat.zero_le _, hle, hsz, by simp⟩⟩
    exact (show (w.heap.push (Obj.cells cs 9))[w.heap.size]? = some (Obj.cells cs 9) by simp)
  have hb0 : Below w.heap.size w (w.drew.alloc (.cells cs 9)) := by
    have := (Below.refl w.heap.size w.drew).alloc (Nat.le_refl _) (.cells cs 9)
    exact ⟨this.os, this.tape, this.output, this.size, this.block⟩
  have HB := hidOf hb0
  generalize w.drew.alloc (.cells cs 9) = W at *
  clear hrun hb0
  go_enter Tryz.func138, Tryz.ntmps138
  go_wp2_with (at_builtin; refine Lib.wpList_append_run _ rfl (.tmp 20) (.tmp 21) _ _ rfl _ _ rfl rfl _ _ HR.out ?_)
  go_wp2_with fail
  go_ret
  exact ⟨_, rfl, HO.out, HB.out⟩

def lensTo (Ls : List (List ByteArray)) (k : Nat) : Nat := ((Ls.take k).map List.length).sum
theorem lensTo_step (Ls : List (List ByteArray)) {k : Nat} (h : k < Ls.length) : lensTo Ls (k + 1) = lensTo Ls k + Ls[k].length := by
  unfold lensTo; rw [List.take_succ_eq_append_getElem h, List.map_append, List.sum_append]; simp
theorem lensTo_le (Ls : List (List ByteArray)) : ∀ d k, k + d = Ls.length → lensTo Ls k ≤ lensTo Ls Ls.length
  | 0, k, h => by rw [show k = Ls.length by omega]; exact Nat.le_refl _
  | d + 1, k, h => by
    have h1 := lensTo_le Ls d (k + 1) (by omega)
    rw [lensTo_step Ls (by omega)] at h1
    omega
theorem flatten_len (Ls : List (List ByteArray)) (k : Nat) : (Ls.take k).flatten.length = lensTo Ls k := by unfold lensTo; rw [List.length_flatten]
theorem flatten_step (Ls : List (List ByteArray)) {k : Nat} (h : k < Ls.length) : (Ls.take (k + 1)).flatten = (Ls.take k).flatten ++ Ls[k] := by
  rw [List.take_succ_eq_append_getElem h, List.flatten_append]; simp
set_option maxHeartbeats 1600000 in
set_option maxRecDepth 100000 in
theorem concatS_any (g m c : Nat) (Ls : List (List ByteArray)) (w : World) (hg : g < w.heap.size) (hm : Ls.length = m) (hm5 : m ≤ 5) (hsum : lensTo Ls Ls.length ≤ 1000)
    (hz : ∀ k, (h : k < Ls.length) → ∃ a c, w.cell? ⟨g, k, none⟩ = some (.slice a Ls[k].length c) ∧ IsStrs w.heap.size w a Ls[k].length Ls[k]) :
    Calls Tryz.prog 84 #[.slice (some ⟨g, 0, none⟩) m c] w fun e w' => ∃ v, e = .returned v ∧ OwnS w.heap.size w' v Ls.flatten ∧ Below w.heap.size w w' := by
  obtain ⟨i0, hi, hz0, hz1, hz2⟩ := info_parts infoStr'
  have HZ := hidOf hz
  have HM := hidOf hm
  clear hz
  go_enter Tryz.func84, Tryz.ntmps84
  go_wp2_with fail
  go_loopw [3, 11] (fun v i wr => ∃ k : Nat, k ≤ m ∧ i = .int .i64 k ∧ v = .int .i64 (lensTo Ls k : Nat) ∧ wr = w) (fun _ i _ => m - (intOf i).toNat)
  case atStart => exact ⟨0, Nat.zero_le _, rfl, rfl, rfl⟩
  case round =>
    obtain ⟨k, hk, rfl, rfl, rfl⟩ := hrel
    have hle := lensTo_le Ls (Ls.length - k) k (by omega)
    by_cases hlt : k < m
    · obtain ⟨a, c', hc, _⟩ := HZ.out k (by omega)
      have hst := lensTo_step Ls (show k < Ls.length by omega)
      have hle2 := lensTo_le Ls (Ls.length - (k + 1)) (k + 1) (by omega)
      obtain ⟨nk, hnk⟩ : ∃ n, (Ls[k]'(by omega)).length = n := ⟨_, rfl⟩
      obtain ⟨S, hS⟩ : ∃ n, lensTo Ls k = n := ⟨_, rfl⟩
      rw [hnk] at hc hst
      rw [hS] at hst ⊢
      have HS2 := hidOf hst
      have p1 : IntKind.i64.wrap ((S : Int) + nk) = (S : Int) + nk := IntWalk.i64_in _ ⟨by omega, by omega⟩
      have p2 : ¬ ((S : Int) + nk < 0) := by omega
      clear hst hle hle2 hsum hS hnk
      go_wp2_with fail
      go_roundw
      case rel => exact ⟨k + 1, by omega, by go_num, by rw [HS2.out]; push_cast; rfl, by first | rfl | trivial⟩
      case measure => simp [intOf]; omega
    · have hkm : k = m := by omega
      have HG := hidOf (growS_any (lensTo Ls k) wr (by omega))
      obtain ⟨S, hS⟩ : ∃ n, lensTo Ls k = n := ⟨_, rfl⟩
      rw [hS] at HG ⊢
      clear hle hS hkm
      go_wp2_with fail
      refine HG.out.mono ?_
      rintro e w1 ⟨v1, rfl, o1, b1⟩
      have HO1 := hidOf o1
      have HB1 := hidOf b1
      clear o1 b1 HG
      go_wp2_with fail
      clear hlt hk
      generalize hW : wr = W0 at *
      have HEQ := hidOf hW
      clear hW
      go_loopw [6, 27] (fun v i wq => ∃ k : Nat, k ≤ m ∧ i = .int .i64 k ∧ Hid (OwnS W0.heap.size wq v (Ls.take k).flatten) ∧ Below W0.heap.size W0 wq) (fun _ i _ => m - (intOf i).toNat)
      case atStart => exact ⟨0, Nat.zero_le _, rfl, HO1, HB1.out⟩
      case round =>
        obtain ⟨k, hk, rfl, HO, hbel⟩ := hrel
        have hle := lensTo_le Ls (Ls.length - k) k (by omega)
        have hfl := flatten_len Ls k
        by_cases hlt : k < m
        · obtain ⟨a, c', hc, hst⟩ := HZ.out k (by omega)
          have hc2 := (hbel.cell (p := ⟨g, k, none⟩) hg).trans hc
          have hst2 := hst.below hbel
          have hle2 := lensTo_le Ls (Ls.length - (k + 1)) (k + 1) (by omega)
          have hls := lensTo_step Ls (show k < Ls.length by omega)
          have hfs := flatten_step Ls (show k < Ls.length by omega)
          have hs := hbel.size
          obtain ⟨Lk, hLk⟩ : ∃ L, Ls[k]'(by omega) = L := ⟨_, rfl⟩
          rw [hLk] at hc2 hst2 hls hfs
          obtain ⟨nk, hnk⟩ : ∃ n, Lk.length = n := ⟨_, rfl⟩
          rw [hnk] at hc2 hst2 hls
          obtain ⟨FL, hFL⟩ : ∃ L, (Ls.take k).flatten = L := ⟨_, rfl⟩
          rw [hFL] at HO hfl hfs
          obtain ⟨af, cf, hform, hcf, _⟩ := HO.out.form
          have HFS := hidOf hfs
          have HSRC : Hid (nk = 0 ∧ a = none ∨ ∃ ad, a = some ad ∧ ∀ j u, (Lk.map Value.string)[j]? = some u → wr.cell? (ad.add j) = some u) := by
            show _ ∨ _
            rcases hst2.2 with h0 | ⟨b, off, rfl, _, hcc⟩
            · cases a with
              | none => exact .inl ⟨h0, rfl⟩
              | some ad => exact .inr ⟨ad, rfl, fun j u hu => by
                  have : j < (Lk.map Value.string).length := (List.getElem?_eq_some_iff.1 hu).1
                  simp at this; omega⟩
            · refine .inr ⟨_, rfl, fun j u hu => ?_⟩
              have hj : j < Lk.length := by have : j < (Lk.map Value.string).length := (List.getElem?_eq_some_iff.1 hu).1; simpa using this
              rw [WideShapes.add_plain, hcc j hj]
              rw [List.getElem?_map, List.getElem?_eq_getElem hj] at hu
              simpa using hu
          have HOW := hidOf (show wr.ownsRow W0.heap.size 9 1 u6 FL.length (FL.map Value.string) from HO.out)
          obtain ⟨N0, hN0⟩ : ∃ n, FL.length = n := ⟨_, rfl⟩
          rw [hN0] at HOW hform
          have h63 : N0 + nk ≤ maxLen := by unfold maxLen; omega
          have hby : (N0 + nk) * 16 ≤ 140737488355328 := by omega
          have HL16 : Hid ((Lk.map Value.string).length = nk * 1) := by show _ = _; simp [hnk]
          have HNK := hidOf hnk
          have HN0 := hidOf hN0
          subst hform
          clear hc hst hst2 hls hfs hFL hLk hnk hN0 hfl hcf hle hle2
          go_wp2_with (at_builtin; refine wpList_append_from rfl (.tmp 31) (.tmp 32) 28 rfl W0.heap.size 9 i0 (.string ByteArray.empty) 1 16 Tryz.underlying28 hi hz0 hz1 hz2 rfl (by decide) _ N0 (FL.map Value.string) rfl HOW.out a nk c' (Lk.map Value.string) rfl HL16.out HSRC.out (by intro u hu; obtain ⟨y, _, rfl⟩ := List.mem_map.1 hu; rfl) h63 hby (by omega) ?_)
          intro v' w2 hown2 hb2
          have HB2 : Hid (Below W0.heap.size W0 w2) := hbel.trans hb2
          have HO2 : Hid (OwnS W0.heap.size w2 v' (Ls.take (k + 1)).flatten) := by
            show World.ownsRow _ _ _ _ _ _ _
            rw [HFS.out, List.length_append, List.map_append, HNK.out, HN0.out]
            exact hown2
          clear hown2 hb2
          obtain ⟨av, cv, hform2, hcv, _⟩ := HO2.out.form
          rw [hform2] at HO2 ⊢
          clear hform2
          go_wp2_with fail
          go_roundw
          case rel => exact ⟨k + 1, by omega, by go_num, HO2, HB2.out⟩
          case measure => simp [intOf]; omega
        · obtain ⟨af, cf, hform, hcf, _⟩ := HO.out.form
          have HOF := HO
          rw [hform] at HOF ⊢
          have HT : Hid ((Ls.take k).flatten = Ls.flatten) := by show _ = _; rw [List.take_of_length_le (by omega)]
          clear hform
          go_wp2_with fail
          go_ret
          exact ⟨_, rfl, by rw [HEQ.out, ← HT.out]; exact HOF.out, by rw [HEQ.out]; exact hbel⟩
end Go.Proofs.YtchemhjcknkbgaaGreatDoor

/- The program's areNames, and small functions beside it. -/
namespace Go.Proofs.YtchemhjcknkbgaaGreatDoor
open Go Go.RowKit Go.PlainAid
set_option linter.unusedSimpArgs false
set_option linter.unusedVariables false

theorem codeIf_any (b : Bool) (n : Int) (w : World) : Calls Tryz.prog 75 #[.bool b, .int .i64 n] w fun e w' => e = .returned (.int .i64 (if b then n else 0)) ∧ w' = w := by
  cases b
  all_goals
    go_enter Tryz.func75, Tryz.ntmps75
    go_wp2
    go_ret
    exact ⟨rfl, rfl⟩

set_option maxHeartbeats 800000 in
theorem containsS_any (B : Nat) (a : Option Addr) (n c : Nat) (l : List ByteArray) (x : ByteArray) (w : World) (hn : n ≤ 1048576) (hz : IsStrs B w a n l) :
    Calls Tryz.prog 139 #[.slice a n c, .string x] w fun e w' => e = .returned (.bool (decide (0 ≤ findM l x))) ∧ w' = w := by
  have HI := hidOf (index_any B a n c l x w hn hz)
  obtain ⟨F, hF⟩ : ∃ F, findM l x = F := ⟨_, rfl⟩
  rw [hF] at HI ⊢
  clear hF hz
  go_enter Tryz.func139, Tryz.ntmps139
  go_wp2_with (go_at_call 145; refine HI.out.mono ?_; rintro e w' ⟨rfl, hw'⟩; rw [hw']; clear hw' w')
  go_ret
  exact ⟨ret_bool (by simp), rfl⟩

theorem IsStrs.take {B : Nat} {w : World} {a : Option Addr} {n : Nat} {l : List ByteArray} (h : IsStrs B w a n l) {k : Nat} (hk : k ≤ n) : IsStrs B w a k (l.take k) := by
  obtain ⟨h1, h2⟩ := h
  refine ⟨by simp; omega, ?_⟩
  rcases h2 with h2 | ⟨b, off, rfl, hlt, hc⟩
  · exact .inl (by omega)
  · exact .inr ⟨b, off, rfl, hlt, fun i hi => by simp at hi; rw [List.getElem_take]; exact hc i (by omega)⟩

set_option maxHeartbeats 1600000 in
set_option maxRecDepth 100000 in
theorem areNames_any (B : Nat) (a : Option Addr) (n c : Nat) (l : List ByteArray) (w : World) (hB : B ≤ w.heap.size) (hn : n ≤ 1048576) (hnc : n ≤ c) (hcm : c ≤ maxLen) (hs : ∀ y ∈ l, y.size ≤ 1048576) (hz : IsStrs B w a n l) :
    Calls Tryz.prog 124 #[.slice a n c] w fun e w' => e = .returned (.bool (decide (AreNames l))) ∧ Below w.heap.size w w' := by
  have hlen := hz.1
  have HZ := hidOf hz
  have HS := hidOf hs
  obtain ⟨D, hD⟩ : ∃ D, decide (AreNames l) = D := ⟨_, rfl⟩
  have HD := hidOf hD
  rw [hD]
  clear hz hD hs
  unfold maxLen at hcm
  go_enter Tryz.func124, Tryz.ntmps124
  go_wp2_with fail
  go_loopw [7] (fun i wr => ∃ k : Nat, k ≤ n ∧ i = .int .i64 k ∧ Hid (∀ j, (h : j < l.length) → j < k → nmB l[j] = true ∧ findM (l.take j) l[j] < 0) ∧ Below w.heap.size w wr) (fun i _ => n - (intOf i).toNat)
  case atStart => exact ⟨0, Nat.zero_le _, rfl, fun j _ h => absurd h (Nat.not_lt_zero _), Below.refl _ _⟩
  case round =>
    obtain ⟨k, hk, rfl, HK, hbel⟩ := hrel
    by_cases hlt : k < n
    · have HT := hidOf ((HZ.out.below (hbel.mono hB)).take (show k ≤ n by omega))
      rcases HZ.out.2 with h0 | ⟨b, off, rfl, hb, hc⟩
      · omega
      have hbr : b < wr.heap.size := by have := hbel.size; omega
      have c0 := (hbel.cell (p := ⟨b, off + k, none⟩) (by simp; omega)).trans (hc k (by omega))
      have hxs := HS.out (l[k]'(by omega)) (List.getElem_mem _)
      obtain ⟨x, hx⟩ : ∃ x, l[k]'(by omega) = x := ⟨_, rfl⟩
      have HX := hidOf hx
      rw [hx] at c0 hxs
      have HN := hidOf (fun W => implNameOk_any x W (by unfold maxLen; omega))
      have HC := hidOf (containsS_any B (some ⟨b, off, none⟩) k c (l.take k) x wr (by omega) HT.out)
      obtain ⟨F, hF⟩ : ∃ F, nmB x = F := ⟨_, rfl⟩
      have HF := hidOf hF
      obtain ⟨M, hM⟩ : ∃ M, decide (0 ≤ findM (l.take k) x) = M := ⟨_, rfl⟩
      have HM := hidOf hM
      rw [hF] at HN
      rw [hM] at HC
      have q1 : (k : Int) ≤ c := by omega
      have q2 : k ≤ c := by omega
      clear hc hx hF hM HT
      cases F with
      | false =>
        have hDf : D = false := by
          rw [← HD.out]
          apply decide_eq_false
          intro hp
          have := hp.1 x (by rw [← HX.out]; exact List.getElem_mem _)
          rw [HF.out] at this
          cases this
        subst hDf
        go_wp2_with (go_at_call 121; refine (HN.out _).mono ?_; rintro e w' ⟨rfl, hw'⟩; rw [hw']; clear hw' w')
        go_ret
        exact ⟨rfl, hbel⟩
      | true =>
        cases M with
        | true =>
          have hDf : D = false := by
            rw [← HD.out]
            apply decide_eq_false
            intro hp
            have h1 := of_decide_eq_true HM.out
            have h2 : ¬ findM (l.take k) x < 0 := by omega
            rw [findM_neg] at h2
            have h3 : x ∈ l.take k := Classical.byContradiction h2
            obtain ⟨j, hj, e⟩ := List.getElem_of_mem h3
            simp at hj
            rw [List.getElem_take] at e
            have := List.pairwise_iff_getElem.1 hp.2 j k (by omega) (by omega) (by omega)
            exact this (e.trans HX.out.symm)
          subst hDf
          go_wp2_with (first
            | (go_at_call 121; refine (HN.out _).mono ?_; rintro e w' ⟨rfl, hw'⟩; rw [hw']; clear hw' w')
            | (go_at_call 139; refine HC.out.mono ?_; rintro e w' ⟨rfl, hw'⟩; rw [hw']; clear hw' w'))
          go_ret
          exact ⟨rfl, hbel⟩
        | false =>
          have h1 : findM (l.take k) x < 0 := by have := of_decide_eq_false HM.out; omega
          have H1 := hidOf h1
          clear h1
          go_wp2_with (first
            | (go_at_call 121; refine (HN.out _).mono ?_; rintro e w' ⟨rfl, hw'⟩; rw [hw']; clear hw' w')
            | (go_at_call 139; refine HC.out.mono ?_; rintro e w' ⟨rfl, hw'⟩; rw [hw']; clear hw' w'))
          go_roundw
          case rel =>
            refine ⟨k + 1, by omega, by go_num, fun j hj hjk => ?_, hbel⟩
            by_cases e : j = k
            · subst e; rw [HX.out]; exact ⟨HF.out, H1.out⟩
            · exact HK.out j hj (by omega)
          case measure => simp [intOf]; omega
    · have hDt : D = true := by
        rw [← HD.out]
        apply decide_eq_true
        refine ⟨fun x hx => ?_, List.pairwise_iff_getElem.2 fun p q hp hq hpq e => ?_⟩
        · obtain ⟨j, hj, rfl⟩ := List.getElem_of_mem hx
          exact (HK.out j hj (by omega)).1
        · have h1 := (HK.out q hq (by omega)).2
          rw [findM_neg] at h1
          apply h1
          rw [← e]
          exact List.mem_take_iff_getElem.2 ⟨p, by omega, rfl⟩
      subst hDt
      go_wp2_with fail
      go_ret
      exact ⟨rfl, hbel⟩
end Go.Proofs.YtchemhjcknkbgaaGreatDoor
