/- The model's l3NamesOk: whether all names of a block are such. -/
import Derived.Test.YtnkeibahaiibpaaGreatDoorSpecMove
import Derived.Test.YtnkeibahaiibpaaGreatDoorBunY0
import Derived.Test.YtnkeibahaiibpaaGreatDoorBunY42
namespace Go.Proofs.YtnkeibahaiibpaaGreatDoor
open Go Go.RowKit Go.PlainAid
set_option linter.unusedSimpArgs false
set_option linter.unusedVariables false


set_option maxHeartbeats 3200000 in
set_option maxRecDepth 100000 in
theorem l3NamesOk_any (B : Nat) (v : BkV) (x : Bk) (w : World) (hB : B ≤ w.heap.size) (hwt : wtBk x ≤ 1048576) (hx : IsBk B w v x) :
    Calls Tryz.prog 85 #[v.val x.name] w fun e w' => e = .returned (.bool (decide (NamesOk x))) ∧ Below w.heap.size w w' := by
  obtain ⟨p0, p1, p2, p3, p4, p5, p6, p7, p8, p9⟩ := wtBk_parts hwt
  have li := hx.ins.1
  have lo := hx.outs.1
  have lv := hx.vars.1
  have lt := hx.states.1
  have HX := hidOf hx
  have hvi := valsM_le x.ins
  have hvo := valsM_le x.outs
  have hsi := hidOf (valsM_small p2)
  have hso := hidOf (valsM_small p4)
  have hsv := hidOf (vars_small p6)
  have hst := hidOf (states_small p8)
  have hvl : (varsM x).length = x.vars.length := by simp [varsM]
  have htl : (statesM x).length = x.states.length := by simp [statesM]
  have hnl := names_len hwt
  have HI : Hid (∀ W, Below w.heap.size w W → Calls Tryz.prog 111 #[.slice v.ai v.ni v.ci] W fun e w' => ∃ u, e = .returned u ∧ OwnS W.heap.size w' u (valsM x.ins) ∧ Below W.heap.size W w') := fun W hb => l3Vals_any B v.ai v.ni v.ci x.ins W (by have := hb.size; omega) (by omega) p2 (HX.out.below (hb.mono hB)).ins
  have HO : Hid (∀ W, Below w.heap.size w W → Calls Tryz.prog 111 #[.slice v.ao v.no v.co] W fun e w' => ∃ u, e = .returned u ∧ OwnS W.heap.size w' u (valsM x.outs) ∧ Below W.heap.size W w') := fun W hb => l3Vals_any B v.ao v.no v.co x.outs W (by have := hb.size; omega) (by omega) p4 (HX.out.below (hb.mono hB)).outs
  have HV : Hid (∀ W, Below w.heap.size w W → Calls Tryz.prog 112 #[v.val x.name] W fun e w' => ∃ u, e = .returned u ∧ OwnS W.heap.size w' u (varsM x) ∧ Below W.heap.size W w') := fun W hb => l3Vars_any B v x W (by have := hb.size; omega) (by omega) (HX.out.below (hb.mono hB))
  have HS : Hid (∀ W, Below w.heap.size w W → Calls Tryz.prog 116 #[v.val x.name] W fun e w' => ∃ u, e = .returned u ∧ OwnS W.heap.size w' u (statesM x) ∧ Below W.heap.size W w') := fun W hb => l3States_any B v x W (by have := hb.size; omega) (by omega) (HX.out.below (hb.mono hB))
  have HN : Hid (∀ W, Below w.heap.size w W → Calls Tryz.prog 59 #[v.val x.name] W fun e w' => ∃ u, e = .returned u ∧ OwnS W.heap.size w' u (namesM x) ∧ Below W.heap.size W w') := fun W hb => l3Names_any B v x W (by have := hb.size; omega) hwt (HX.out.below (hb.mono hB))
  have HPI : Hid (∀ W, Below w.heap.size w W → Calls Tryz.prog 138 #[.slice v.ai v.ni v.ci] W fun e w' => e = .returned (.bool (decide (PortsOk x.ins))) ∧ Below W.heap.size W w') := fun W hb => l3PortsOk_any B v.ai v.ni v.ci x.ins W (by have := hb.size; omega) (by omega) p2 (HX.out.below (hb.mono hB)).ins
  have HPO : Hid (∀ W, Below w.heap.size w W → Calls Tryz.prog 138 #[.slice v.ao v.no v.co] W fun e w' => e = .returned (.bool (decide (PortsOk x.outs))) ∧ Below W.heap.size W w') := fun W hb => l3PortsOk_any B v.ao v.no v.co x.outs W (by have := hb.size; omega) (by omega) p4 (HX.out.below (hb.mono hB)).outs
  have HAV : Hid (∀ W B' a n c, OwnS B' W (.slice a n c) (varsM x) → Calls Tryz.prog 139 #[.slice a n c, .int .i64 4] W fun e w' => e = .returned (.bool (decide (AreNames (varsM x) ∧ x.vars.length ≤ 4))) ∧ Below W.heap.size W w') := fun W B' a n c h => by
    obtain ⟨a', c', e, hc, hz, _⟩ := h.form
    cases e
    have := l3All_any W.heap.size a _ c (varsM x) 4 W (Nat.le_refl _) (by omega) hsv.out hz
    exact this.mono fun e w' ⟨h1, h2⟩ => ⟨h1.trans (ret_bool (decide_eq_decide.2 (and_congr_right fun _ => by rw [hvl]; omega))), h2⟩
  have HAS : Hid (∀ W B' a n c, OwnS B' W (.slice a n c) (statesM x) → Calls Tryz.prog 139 #[.slice a n c, .int .i64 5] W fun e w' => e = .returned (.bool (decide (AreNames (statesM x) ∧ x.states.length ≤ 5))) ∧ Below W.heap.size W w') := fun W B' a n c h => by
    obtain ⟨a', c', e, hc, hz, _⟩ := h.form
    cases e
    have := l3All_any W.heap.size a _ c (statesM x) 5 W (Nat.le_refl _) (by omega) hst.out hz
    exact this.mono fun e w' ⟨h1, h2⟩ => ⟨h1.trans (ret_bool (decide_eq_decide.2 (and_congr_right fun _ => by rw [htl]; omega))), h2⟩
  have HAP : ∀ (l l' : List ByteArray), l.length ≤ 1048576 → l'.length ≤ 1048576 → (∀ y ∈ l, y.size ≤ 1048576) → (∀ y ∈ l', y.size ≤ 1048576) → Hid (∀ W B1 B2 a n c a' n' c', OwnS B1 W (.slice a n c) l → OwnS B2 W (.slice a' n' c') l' → Calls Tryz.prog 140 #[.slice a n c, .slice a' n' c'] W fun e w' => e = .returned (.bool (decide (Apart l l'))) ∧ w' = W) := fun l l' h1 h2 h3 h4 W B1 B2 a n c a' n' c' o1 o2 => by
    obtain ⟨_, _, e, _, hz, _⟩ := o1.form
    cases e
    obtain ⟨_, _, e, _, hz', _⟩ := o2.form
    cases e
    exact l3Apart_any W.heap.size a _ c l a' _ c' l' W (Nat.le_refl _) h1 h2 h3 h4 hz hz'
  have HA1 := HAP (valsM x.ins) (valsM x.outs) (by omega) (by omega) hsi.out hso.out
  have HA2 := HAP (valsM x.ins) (varsM x) (by omega) (by omega) hsi.out hsv.out
  have HA3 := HAP (valsM x.outs) (varsM x) (by omega) (by omega) hso.out hsv.out
  have HVA : Hid (∀ W, Below w.heap.size w W → ∀ k, (hk : k < x.vars.length) → ∃ b off, v.av = some ⟨b, off, none⟩ ∧ b < w.heap.size ∧ W.cell? ⟨b, off + k * 2 + 1, none⟩ = some (.int .i64 (x.vars[k]).num)) := fun W hb k hk => by
    obtain ⟨b, off, cs, e, hlt, q, hc⟩ := IsArr.at (HX.out.below (hb.mono hB)).vars (k := k) (by omega) hk
    unfold QVr at q
    subst q
    exact ⟨b, off, e, by omega, hc 1 _ rfl⟩
  have HLN := hidOf (fun W => l1Name_any x.name W (by unfold maxLen; omega))
  clear HAP
  obtain ⟨R, hR⟩ : ∃ R, decide (NamesOk x) = R := ⟨_, rfl⟩
  have HR := hidOf hR
  rw [hR]
  clear hR
  obtain ⟨N1, hN1⟩ : ∃ b, nmB x.name = b := ⟨_, rfl⟩
  obtain ⟨P1, hP1⟩ : ∃ b, decide (PortsOk x.ins) = b := ⟨_, rfl⟩
  obtain ⟨P2, hP2⟩ : ∃ b, decide (PortsOk x.outs) = b := ⟨_, rfl⟩
  obtain ⟨V1, hV1⟩ : ∃ b, decide (AreNames (varsM x) ∧ x.vars.length ≤ 4) = b := ⟨_, rfl⟩
  obtain ⟨S1, hS1⟩ : ∃ b, decide (AreNames (statesM x) ∧ x.states.length ≤ 5) = b := ⟨_, rfl⟩
  obtain ⟨A1, hA1⟩ : ∃ b, decide (Apart (valsM x.ins) (valsM x.outs)) = b := ⟨_, rfl⟩
  obtain ⟨A2, hA2⟩ : ∃ b, decide (Apart (valsM x.ins) (varsM x)) = b := ⟨_, rfl⟩
  obtain ⟨A3, hA3⟩ : ∃ b, decide (Apart (valsM x.outs) (varsM x)) = b := ⟨_, rfl⟩
  rw [hN1] at HLN; rw [hP1] at HPI; rw [hP2] at HPO; rw [hV1] at HAV; rw [hS1] at HAS; rw [hA1] at HA1; rw [hA2] at HA2; rw [hA3] at HA3
  have KN := hidOf hN1; have KP1 := hidOf hP1; have KP2 := hidOf hP2; have KV := hidOf hV1; have KS := hidOf hS1; have KA1 := hidOf hA1; have KA2 := hidOf hA2; have KA3 := hidOf hA3
  clear hN1 hP1 hP2 hV1 hS1 hA1 hA2 hA3 hsi hso hsv hst hvi hvo hvl htl li lo lt p0 p1 p2 p3 p4 p6 p7 p8 p9 hwt hx HX
  obtain ⟨ai, ni, ci, ao, no, co, av, nv, cv, at_, nt, ct⟩ := v
  have EX := hidOf (rfl : x = x)
  obtain ⟨xn, hxn⟩ : ∃ n, x.name = n := ⟨_, rfl⟩
  simp only [BkV.val] at HV HS HN HVA HI HO HPI HPO lv ⊢
  rw [hxn] at HV HS HN HLN ⊢
  clear hxn
  have BX0 := hidOf (boxAt_new w [.string xn, .slice ai ni ci, .slice ao no co, .slice av nv cv, .slice at_ nt ct] 33)
  go_enter Tryz.func85, Tryz.ntmps85
  go_wp2_with fail
  refine (HI.out _ (by go_grown)).mono ?_
  rintro e w1 ⟨u1, rfl, o1, b1⟩
  obtain ⟨a1, c1', e1, _⟩ := o1.form
  subst e1
  have HB1 := hidOf (below_boxed b1)
  have BX1 := hidOf (BX0.out.below b1)
  have O1 := hidOf o1
  clear o1 b1 BX0
  have c0 : w1.cell? ⟨w.heap.size, 0, none⟩ = some (Value.string xn) := (BX1.out.2 0 _ rfl).1
  have c1 : w1.cell? ⟨w.heap.size, 1, none⟩ = some (.slice ai ni ci) := (BX1.out.2 1 _ rfl).1
  have c2 : w1.cell? ⟨w.heap.size, 2, none⟩ = some (.slice ao no co) := (BX1.out.2 2 _ rfl).1
  have c3 : w1.cell? ⟨w.heap.size, 3, none⟩ = some (.slice av nv cv) := (BX1.out.2 3 _ rfl).1
  have c4 : w1.cell? ⟨w.heap.size, 4, none⟩ = some (.slice at_ nt ct) := (BX1.out.2 4 _ rfl).1
  have sz : w.heap.size < w1.heap.size := BX1.out.1
  go_wp2_with fail
  refine (HO.out _ HB1.out).mono ?_
  rintro e w2 ⟨u2, rfl, o2, b2⟩
  obtain ⟨a2, c2', e2, _⟩ := o2.form
  subst e2
  have HB2 : Hid (Below w.heap.size w w2) := HB1.out.trans (b2.mono HB1.out.size)
  have BX2 := hidOf (BX1.out.below b2)
  clear c0 c1 c2 c3 c4 sz
  have c0 : w2.cell? ⟨w.heap.size, 0, none⟩ = some (Value.string xn) := (BX2.out.2 0 _ rfl).1
  have c1 : w2.cell? ⟨w.heap.size, 1, none⟩ = some (.slice ai ni ci) := (BX2.out.2 1 _ rfl).1
  have c2 : w2.cell? ⟨w.heap.size, 2, none⟩ = some (.slice ao no co) := (BX2.out.2 2 _ rfl).1
  have c3 : w2.cell? ⟨w.heap.size, 3, none⟩ = some (.slice av nv cv) := (BX2.out.2 3 _ rfl).1
  have c4 : w2.cell? ⟨w.heap.size, 4, none⟩ = some (.slice at_ nt ct) := (BX2.out.2 4 _ rfl).1
  have sz : w.heap.size < w2.heap.size := BX2.out.1
  have O2 := hidOf o2
  have O12 := hidOf (O1.out.keep b2)
  clear o2 b2 O1
  go_wp2_with fail
  refine (HV.out _ HB2.out).mono ?_
  rintro e w3 ⟨u3, rfl, o3, b3⟩
  obtain ⟨a3, c3', e3, _⟩ := o3.form
  subst e3
  have HB3 : Hid (Below w.heap.size w w3) := HB2.out.trans (b3.mono HB2.out.size)
  have BX3 := hidOf (BX2.out.below b3)
  clear c0 c1 c2 c3 c4 sz
  have c0 : w3.cell? ⟨w.heap.size, 0, none⟩ = some (Value.string xn) := (BX3.out.2 0 _ rfl).1
  have c1 : w3.cell? ⟨w.heap.size, 1, none⟩ = some (.slice ai ni ci) := (BX3.out.2 1 _ rfl).1
  have c2 : w3.cell? ⟨w.heap.size, 2, none⟩ = some (.slice ao no co) := (BX3.out.2 2 _ rfl).1
  have c3 : w3.cell? ⟨w.heap.size, 3, none⟩ = some (.slice av nv cv) := (BX3.out.2 3 _ rfl).1
  have c4 : w3.cell? ⟨w.heap.size, 4, none⟩ = some (.slice at_ nt ct) := (BX3.out.2 4 _ rfl).1
  have sz : w.heap.size < w3.heap.size := BX3.out.1
  have O3 := hidOf o3
  have O13 := hidOf (O12.out.keep b3)
  have O23 := hidOf (O2.out.keep b3)
  clear o3 b3 O12 O2
  go_wp2_with fail
  refine (HLN.out _).mono ?_
  rintro e w' ⟨rfl, hw'⟩
  rw [hw']
  clear hw' w'
  cases N1 with
  | false =>
    go_wp2_with fail
    go_ret
    exact ⟨ret_bool (by rw [← HR.out]; symm; exact decide_eq_false fun h => by have := h.1.1; rw [KN.out] at this; cases this), HB3.out⟩
  | true =>
  go_wp2_with fail
  refine (HPI.out _ HB3.out).mono ?_
  rintro e w4 ⟨rfl, b4⟩
  have HB4 : Hid (Below w.heap.size w w4) := HB3.out.trans (b4.mono HB3.out.size)
  have BX4 := hidOf (BX3.out.below b4)
  clear c0 c1 c2 c3 c4 sz
  have c0 : w4.cell? ⟨w.heap.size, 0, none⟩ = some (Value.string xn) := (BX4.out.2 0 _ rfl).1
  have c1 : w4.cell? ⟨w.heap.size, 1, none⟩ = some (.slice ai ni ci) := (BX4.out.2 1 _ rfl).1
  have c2 : w4.cell? ⟨w.heap.size, 2, none⟩ = some (.slice ao no co) := (BX4.out.2 2 _ rfl).1
  have c3 : w4.cell? ⟨w.heap.size, 3, none⟩ = some (.slice av nv cv) := (BX4.out.2 3 _ rfl).1
  have c4 : w4.cell? ⟨w.heap.size, 4, none⟩ = some (.slice at_ nt ct) := (BX4.out.2 4 _ rfl).1
  have sz : w.heap.size < w4.heap.size := BX4.out.1
  have O14 := hidOf (O13.out.keep b4)
  have O24 := hidOf (O23.out.keep b4)
  have O34 := hidOf (O3.out.keep b4)
  clear b4 O13 O23 O3
  cases P1 with
  | false =>
    go_wp2_with fail
    go_ret
    exact ⟨ret_bool (by rw [← HR.out]; symm; exact decide_eq_false fun h => of_decide_eq_false KP1.out h.1.2.1), HB4.out⟩
  | true =>
  go_wp2_with fail
  refine (HPO.out _ HB4.out).mono ?_
  rintro e w5 ⟨rfl, b5⟩
  have HB5 : Hid (Below w.heap.size w w5) := HB4.out.trans (b5.mono HB4.out.size)
  have BX5 := hidOf (BX4.out.below b5)
  clear c0 c1 c2 c3 c4 sz
  have c0 : w5.cell? ⟨w.heap.size, 0, none⟩ = some (Value.string xn) := (BX5.out.2 0 _ rfl).1
  have c1 : w5.cell? ⟨w.heap.size, 1, none⟩ = some (.slice ai ni ci) := (BX5.out.2 1 _ rfl).1
  have c2 : w5.cell? ⟨w.heap.size, 2, none⟩ = some (.slice ao no co) := (BX5.out.2 2 _ rfl).1
  have c3 : w5.cell? ⟨w.heap.size, 3, none⟩ = some (.slice av nv cv) := (BX5.out.2 3 _ rfl).1
  have c4 : w5.cell? ⟨w.heap.size, 4, none⟩ = some (.slice at_ nt ct) := (BX5.out.2 4 _ rfl).1
  have sz : w.heap.size < w5.heap.size := BX5.out.1
  have O15 := hidOf (O14.out.keep b5)
  have O25 := hidOf (O24.out.keep b5)
  have O35 := hidOf (O34.out.keep b5)
  clear b5 O14 O24 O34
  cases P2 with
  | false =>
    go_wp2_with fail
    go_ret
    exact ⟨ret_bool (by rw [← HR.out]; symm; exact decide_eq_false fun h => of_decide_eq_false KP2.out h.1.2.2.1), HB5.out⟩
  | true =>
  go_wp2_with fail
  refine (HAV.out _ _ _ _ _ O35.out).mono ?_
  rintro e w6 ⟨rfl, b6⟩
  have HB6 : Hid (Below w.heap.size w w6) := HB5.out.trans (b6.mono HB5.out.size)
  have BX6 := hidOf (BX5.out.below b6)
  clear c0 c1 c2 c3 c4 sz
  have c0 : w6.cell? ⟨w.heap.size, 0, none⟩ = some (Value.string xn) := (BX6.out.2 0 _ rfl).1
  have c1 : w6.cell? ⟨w.heap.size, 1, none⟩ = some (.slice ai ni ci) := (BX6.out.2 1 _ rfl).1
  have c2 : w6.cell? ⟨w.heap.size, 2, none⟩ = some (.slice ao no co) := (BX6.out.2 2 _ rfl).1
  have c3 : w6.cell? ⟨w.heap.size, 3, none⟩ = some (.slice av nv cv) := (BX6.out.2 3 _ rfl).1
  have c4 : w6.cell? ⟨w.heap.size, 4, none⟩ = some (.slice at_ nt ct) := (BX6.out.2 4 _ rfl).1
  have sz : w.heap.size < w6.heap.size := BX6.out.1
  have O16 := hidOf (O15.out.keep b6)
  have O26 := hidOf (O25.out.keep b6)
  have O36 := hidOf (O35.out.keep b6)
  clear b6 O15 O25 O35
  cases V1 with
  | false =>
    go_wp2_with fail
    go_ret
    exact ⟨ret_bool (by rw [← HR.out]; symm; exact decide_eq_false fun h => of_decide_eq_false KV.out ⟨h.1.2.2.2.1.2.1, h.1.2.2.2.1.1⟩), HB6.out⟩
  | true =>
  go_wp2_with fail
  refine (HS.out _ HB6.out).mono ?_
  rintro e w7 ⟨u7, rfl, o7, b7⟩
  obtain ⟨a7, c7', e7, _⟩ := o7.form
  subst e7
  have HB7 : Hid (Below w.heap.size w w7) := HB6.out.trans (b7.mono HB6.out.size)
  have BX7 := hidOf (BX6.out.below b7)
  clear c0 c1 c2 c3 c4 sz
  have c0 : w7.cell? ⟨w.heap.size, 0, none⟩ = some (Value.string xn) := (BX7.out.2 0 _ rfl).1
  have c1 : w7.cell? ⟨w.heap.size, 1, none⟩ = some (.slice ai ni ci) := (BX7.out.2 1 _ rfl).1
  have c2 : w7.cell? ⟨w.heap.size, 2, none⟩ = some (.slice ao no co) := (BX7.out.2 2 _ rfl).1
  have c3 : w7.cell? ⟨w.heap.size, 3, none⟩ = some (.slice av nv cv) := (BX7.out.2 3 _ rfl).1
  have c4 : w7.cell? ⟨w.heap.size, 4, none⟩ = some (.slice at_ nt ct) := (BX7.out.2 4 _ rfl).1
  have sz : w.heap.size < w7.heap.size := BX7.out.1
  have O7 := hidOf o7
  have O17 := hidOf (O16.out.keep b7)
  have O27 := hidOf (O26.out.keep b7)
  have O37 := hidOf (O36.out.keep b7)
  clear b7 o7 O16 O26 O36
  go_wp2_with fail
  refine (HAS.out _ _ _ _ _ O7.out).mono ?_
  rintro e w8 ⟨rfl, b8⟩
  have HB8 : Hid (Below w.heap.size w w8) := HB7.out.trans (b8.mono HB7.out.size)
  have BX8 := hidOf (BX7.out.below b8)
  clear c0 c1 c2 c3 c4 sz
  have c0 : w8.cell? ⟨w.heap.size, 0, none⟩ = some (Value.string xn) := (BX8.out.2 0 _ rfl).1
  have c1 : w8.cell? ⟨w.heap.size, 1, none⟩ = some (.slice ai ni ci) := (BX8.out.2 1 _ rfl).1
  have c2 : w8.cell? ⟨w.heap.size, 2, none⟩ = some (.slice ao no co) := (BX8.out.2 2 _ rfl).1
  have c3 : w8.cell? ⟨w.heap.size, 3, none⟩ = some (.slice av nv cv) := (BX8.out.2 3 _ rfl).1
  have c4 : w8.cell? ⟨w.heap.size, 4, none⟩ = some (.slice at_ nt ct) := (BX8.out.2 4 _ rfl).1
  have sz : w.heap.size < w8.heap.size := BX8.out.1
  have O18 := hidOf (O17.out.keep b8)
  have O28 := hidOf (O27.out.keep b8)
  have O38 := hidOf (O37.out.keep b8)
  clear b8 O17 O27 O37 O7
  cases S1 with
  | false =>
    go_wp2_with fail
    go_ret
    exact ⟨ret_bool (by rw [← HR.out]; symm; exact decide_eq_false fun h => of_decide_eq_false KS.out ⟨h.1.2.2.2.2.2, h.1.2.2.2.2.1⟩), HB8.out⟩
  | true =>
  go_wp2_with fail
  go_loop [6] (fun i => ∃ k : Nat, k ≤ nv ∧ i = .int .i64 k ∧ Hid (∀ j, (h : j < x.vars.length) → j < k → VarOk x.vars[j])) (fun i => nv - (intOf i).toNat)
  case atStart => exact ⟨0, Nat.zero_le _, rfl, fun j _ h => absurd h (Nat.not_lt_zero _)⟩
  case round =>
    obtain ⟨k, hk, rfl, HK⟩ := hrel
    by_cases hlt : k < nv
    · obtain ⟨b, off, rfl, hb, hcell⟩ := HVA.out w8 HB8.out k (by omega)
      have hbr : b < w8.heap.size := by have := HB8.out.size; omega
      obtain ⟨y, hy⟩ : ∃ y, (x.vars[k]'(by omega)).num = y := ⟨_, rfl⟩
      have HY := hidOf hy
      rw [hy] at hcell
      clear hy
      have HIN := hidOf (fun W => l1In_any y (-999999) 999999 W)
      cases hin : decide (-999999 ≤ y ∧ y ≤ 999999) with
      | false =>
        rw [hin] at HIN
        go_wp2_with fail
        refine (HIN.out _).mono ?_
        rintro e w' ⟨rfl, hw'⟩
        rw [hw']
        clear hw' w'
        go_wp2_with fail
        go_ret
        exact ⟨ret_bool (by rw [← HR.out]; symm; exact decide_eq_false fun h => by have h1 := h.1.2.2.2.1.2.2 (x.vars[k]'(by omega)) (List.getElem_mem _); unfold VarOk at h1; rw [HY.out] at h1; exact of_decide_eq_false hin h1), HB8.out⟩
      | true =>
        rw [hin] at HIN
        have HIT := hidOf hin
        clear hin
        go_wp2_with fail
        refine (HIN.out _).mono ?_
        rintro e w' ⟨rfl, hw'⟩
        rw [hw']
        clear hw' w'
        go_wp2_with fail
        go_round
        case rel =>
          refine ⟨k + 1, by omega, by go_num, ?_⟩
          intro j hj hjk
          by_cases e : j = k
          · subst e; unfold VarOk; rw [HY.out]; exact of_decide_eq_true HIT.out
          · exact HK.out j hj (by omega)
        case measure => simp [intOf]; omega
    · have hkn : k = nv := by omega
      subst hkn
      have HVS : Hid (∀ v ∈ x.vars, VarOk v) := fun v hv => by
        obtain ⟨j, hj, rfl⟩ := List.mem_iff_getElem.1 hv
        exact HK.out j hj (by omega)
      go_wp2_with fail
      refine (HA1.out _ _ _ _ _ _ _ _ _ O18.out O28.out).mono ?_
      rintro e w' ⟨rfl, hw'⟩
      rw [hw']
      clear hw' w'
      cases A1 with
      | false =>
        go_wp2_with fail
        go_ret
        exact ⟨ret_bool (by rw [← HR.out]; symm; exact decide_eq_false fun h => of_decide_eq_false KA1.out h.2.1.1), HB8.out⟩
      | true =>
      go_wp2_with fail
      refine (HA2.out _ _ _ _ _ _ _ _ _ O18.out O38.out).mono ?_
      rintro e w' ⟨rfl, hw'⟩
      rw [hw']
      clear hw' w'
      cases A2 with
      | false =>
        go_wp2_with fail
        go_ret
        exact ⟨ret_bool (by rw [← HR.out]; symm; exact decide_eq_false fun h => of_decide_eq_false KA2.out h.2.1.2.1), HB8.out⟩
      | true =>
      go_wp2_with fail
      refine (HA3.out _ _ _ _ _ _ _ _ _ O28.out O38.out).mono ?_
      rintro e w' ⟨rfl, hw'⟩
      rw [hw']
      clear hw' w'
      cases A3 with
      | false =>
        go_wp2_with fail
        go_ret
        exact ⟨ret_bool (by rw [← HR.out]; symm; exact decide_eq_false fun h => of_decide_eq_false KA3.out h.2.1.2.2), HB8.out⟩
      | true =>
      go_wp2_with fail
      refine (HN.out _ HB8.out).mono ?_
      rintro e w9 ⟨u9, rfl, o9, b9⟩
      obtain ⟨a9, c9', e9, _⟩ := o9.form
      subst e9
      have HB9 : Hid (Below w.heap.size w w9) := HB8.out.trans (b9.mono HB8.out.size)
      clear b9 o9
      have hRl : R = decide ((namesM x).length ≤ 16) := by
        rw [← HR.out]
        have q1 := of_decide_eq_true KV.out
        have q2 := of_decide_eq_true KS.out
        have hs : SizesOk x := ⟨KN.out, of_decide_eq_true KP1.out, of_decide_eq_true KP2.out, ⟨q1.2, q1.1, HVS.out⟩, q2.2, q2.1⟩
        have ha := And.intro (of_decide_eq_true KA1.out) (And.intro (of_decide_eq_true KA2.out) (of_decide_eq_true KA3.out))
        by_cases hl : (namesM x).length ≤ 16
        · rw [decide_eq_true hl]; exact decide_eq_true ⟨hs, ha, hl⟩
        · rw [decide_eq_false hl]; exact decide_eq_false fun h => hl h.2.2
      obtain ⟨NL, hNL⟩ : ∃ n, (namesM x).length = n := ⟨_, rfl⟩
      rw [hNL] at hRl ⊢
      have HRL := hidOf hRl
      clear hRl
      go_wp2_with fail
      go_ret
      exact ⟨ret_bool (by rw [HRL.out]; by_cases h16 : NL ≤ 16 <;> simp [h16] <;> omega), HB9.out⟩
end Go.Proofs.YtnkeibahaiibpaaGreatDoor

/- The model's l3Check and BlockCheck: what is wrong with a block. -/
namespace Go.Proofs.YtnkeibahaiibpaaGreatDoor
open Go Go.RowKit Go.PlainAid
set_option linter.unusedSimpArgs false
set_option linter.unusedVariables false


theorem moves_found {x : Bk} {names : List ByteArray} (h : firstC (stateM x names) x.states = 0) : ∀ s ∈ x.states, ∀ m ∈ s.moves, 0 ≤ findM (statesM x) m.to := by
  intro s hs m hm
  have := (state_moves (firstC_all h s hs)).2.2.1 m hm
  unfold moveM at this
  split at this
  · cases this
  · split at this
    · cases this
    · omega
theorem state_size {x : Bk} {N : Nat} (h : wsum wtSt x.states ≤ N) : ∀ s ∈ x.states, wtSt s ≤ N := fun s hs => by have := wsum_mem (f := wtSt) hs; omega
set_option maxHeartbeats 3200000 in
set_option maxRecDepth 100000 in
theorem l3Check_any (B : Nat) (v : BkV) (x : Bk) (w : World) (hB : B ≤ w.heap.size) (hwt : wtBk x ≤ 1048576) (hx : IsBk B w v x) :
    Calls Tryz.prog 42 #[v.val x.name] w fun e w' => e = .returned (.int .i64 (checkM x)) ∧ Below w.heap.size w w' := by
  obtain ⟨p0, p1, p2, p3, p4, p5, p6, p7, p8, p9⟩ := wtBk_parts hwt
  have lt := hx.states.1
  have HX := hidOf hx
  have HNO : Hid (∀ W, Below w.heap.size w W → Calls Tryz.prog 85 #[v.val x.name] W fun e w' => e = .returned (.bool (decide (NamesOk x))) ∧ Below W.heap.size W w') := fun W hb => l3NamesOk_any B v x W (by have := hb.size; omega) hwt (HX.out.below (hb.mono hB))
  have HSS := hidOf (state_size p8)
  have HST : Hid (∀ W, Below w.heap.size w W → ∀ (s : St) (ma : Option Addr) (mn mc : Nat) (ra : Option Addr) (rn rc : Nat), wtSt s ≤ 1048576 → IsArr 3 QMo B W ma mn s.moves → IsArr 3 QAc B W ra rn s.acts → Calls Tryz.prog 86 #[v.val x.name, .agg #[.string s.name, .slice ma mn mc, .slice ra rn rc]] W fun e w' => e = .returned (.int .i64 (stateM x (namesM x) s)) ∧ Below W.heap.size W w') := fun W hb s ma mn mc ra rn rc hs h1 h2 => l3State_any B v x s ma mn mc ra rn rc W (by have := hb.size; omega) hwt hs (HX.out.below (hb.mono hB)) h1 h2
  have HRG : Hid (firstC (stateM x (namesM x)) x.states = 0 → ∀ W, Below w.heap.size w W → ∀ k : Nat, k < x.states.length → Calls Tryz.prog 87 #[v.val x.name, .int .i64 k, .int .i64 0] W fun e w' => e = .returned (.bool (Wk (edgesM x) (x.states.length + 1) k)) ∧ Below W.heap.size W w') := fun hz W hb k hk =>
    l3Ring_any B v x hwt (moves_found hz) (fun s hs => by have := HSS.out s hs; unfold wtSt at this; omega) (x.states.length + 1) 0 k W (by omega) hk (by have := hb.size; omega) (HX.out.below (hb.mono hB))
  have HQS : Hid (∀ W, Below w.heap.size w W → IsArr 3 QSt B W v.at_ v.nt x.states) := fun W hb => (HX.out.below (hb.mono hB)).states
  unfold checkM
  obtain ⟨R, hR⟩ : ∃ R, (if ¬ NamesOk x then (1 : Int) else if x.states = [] then 2 else if firstC (stateM x (namesM x)) x.states = 0 then (if ringM x then 6 else 0) else firstC (stateM x (namesM x)) x.states) = R := ⟨_, rfl⟩
  have HR := hidOf hR
  rw [hR]
  obtain ⟨NO, hNO⟩ : ∃ b, decide (NamesOk x) = b := ⟨_, rfl⟩
  rw [hNO] at HNO
  have KNO := hidOf hNO
  have hl6 : x.states.length ≤ 1048576 := p7
  clear hR hNO p0 p1 p2 p3 p4 p5 p6 p7 p8 p9 hwt hx HX
  obtain ⟨ai, ni, ci, ao, no, co, av, nv, cv, at_, nt, ct⟩ := v
  obtain ⟨xn, hxn⟩ : ∃ n, x.name = n := ⟨_, rfl⟩
  simp only [BkV.val] at HNO HST HRG HQS lt ⊢
  rw [hxn] at HNO HST HRG ⊢
  clear hxn
  have HLT := hidOf lt
  have hnt : nt ≤ 1048576 := by omega
  have BX0 := hidOf (boxAt_new w [.string xn, .slice ai ni ci, .slice ao no co, .slice av nv cv, .slice at_ nt ct] 33)
  go_enter Tryz.func42, Tryz.ntmps42
  go_wp2_with fail
  refine (HNO.out _ (by go_grown)).mono ?_
  rintro e w1 ⟨rfl, b1⟩
  have HB1 := hidOf (below_boxed b1)
  have BX1 := hidOf (BX0.out.below b1)
  clear b1 BX0
  cases NO with
  | false =>
    go_wp2_with fail
    go_ret
    exact ⟨ret_int (by rw [← HR.out, if_pos (of_decide_eq_false KNO.out)]), HB1.out⟩
  | true =>
  have HNK : Hid (¬ ¬ NamesOk x) := fun h => h (of_decide_eq_true KNO.out)
  have c0 : w1.cell? ⟨w.heap.size, 0, none⟩ = some (.string xn) := (BX1.out.2 0 _ rfl).1
  have c1 : w1.cell? ⟨w.heap.size, 1, none⟩ = some (.slice ai ni ci) := (BX1.out.2 1 _ rfl).1
  have c2 : w1.cell? ⟨w.heap.size, 2, none⟩ = some (.slice ao no co) := (BX1.out.2 2 _ rfl).1
  have c3 : w1.cell? ⟨w.heap.size, 3, none⟩ = some (.slice av nv cv) := (BX1.out.2 3 _ rfl).1
  have c4 : w1.cell? ⟨w.heap.size, 4, none⟩ = some (.slice at_ nt ct) := (BX1.out.2 4 _ rfl).1
  have sx : w.heap.size < w1.heap.size := BX1.out.1
  by_cases h0 : nt = 0
  · have HE0 : Hid (x.states = []) := List.eq_nil_of_length_eq_zero (by omega)
    go_wp2_with fail
    go_ret
    exact ⟨ret_int (by rw [← HR.out, if_neg HNK.out, if_pos HE0.out]), HB1.out⟩
  have h0' : ((nt : Int) == 0) = false := by simp; omega
  have HE0 : Hid (x.states ≠ []) := fun h => by rw [h] at lt; simp at lt; omega
  clear lt
  go_wp2_with fail
  clear c0 c1 c2 c3 c4 sx
  go_loopw [3] (fun i wr => ∃ k : Nat, k ≤ nt ∧ i = .int .i64 k ∧ Hid (∀ j, (h : j < x.states.length) → j < k → stateM x (namesM x) x.states[j] = 0) ∧ Below w1.heap.size w1 wr) (fun i _ => nt - (intOf i).toNat)
  case atStart => exact ⟨0, Nat.zero_le _, rfl, fun j _ h => absurd h (Nat.not_lt_zero _), Below.refl _ _⟩
  case round =>
    obtain ⟨k, hk, rfl, HK, hbel⟩ := hrel
    have HBw : Hid (Below w.heap.size w wr) := HB1.out.trans (hbel.mono HB1.out.size)
    have BX := hidOf (BX1.out.below hbel)
    have c0 : wr.cell? ⟨w.heap.size, 0, none⟩ = some (.string xn) := (BX.out.2 0 _ rfl).1
    have c1 : wr.cell? ⟨w.heap.size, 1, none⟩ = some (.slice ai ni ci) := (BX.out.2 1 _ rfl).1
    have c2 : wr.cell? ⟨w.heap.size, 2, none⟩ = some (.slice ao no co) := (BX.out.2 2 _ rfl).1
    have c3 : wr.cell? ⟨w.heap.size, 3, none⟩ = some (.slice av nv cv) := (BX.out.2 3 _ rfl).1
    have c4 : wr.cell? ⟨w.heap.size, 4, none⟩ = some (.slice at_ nt ct) := (BX.out.2 4 _ rfl).1
    have sx : w.heap.size < wr.heap.size := BX.out.1
    by_cases hlt : k < nt
    · have hkl : k < x.states.length := by have := HLT.out; omega
      obtain ⟨b, off, cs, eab, hb, hq, hcell⟩ := IsArr.at (HQS.out wr HBw.out) hlt hkl
      have hbr : b < wr.heap.size := by have := HBw.out.size; omega
      obtain ⟨y, hy⟩ : ∃ y, x.states[k] = y := ⟨_, rfl⟩
      have hwy : wtSt y ≤ 1048576 := by rw [← hy]; exact HSS.out _ (List.getElem_mem hkl)
      rw [hy] at hq
      obtain ⟨ma, mn, mc, ra, rn, rc, rfl, q1, q2, q3, q4, q5, q6⟩ := hq
      have HE : Hid (∀ W, Below wr.heap.size wr W → Calls Tryz.prog 86 #[.agg #[.string xn, .slice ai ni ci, .slice ao no co, .slice av nv cv, .slice at_ nt ct], .agg #[.string y.name, .slice ma mn mc, .slice ra rn rc]] W fun e w' => e = .returned (.int .i64 (stateM x (namesM x) y)) ∧ Below W.heap.size W w') := fun W hb => HST.out W (HBw.out.trans (hb.mono HBw.out.size)) y ma mn mc ra rn rc hwy (q5.below (QMo.lift (hb.mono (by have := HBw.out.size; omega))) (hb.mono (by have := HBw.out.size; omega))) (q6.below (QAc.lift (hb.mono (by have := HBw.out.size; omega))) (hb.mono (by have := HBw.out.size; omega)))
      obtain ⟨C, hC⟩ : ∃ C, stateM x (namesM x) y = C := ⟨_, rfl⟩
      rw [hC] at HE
      have HC : Hid (stateM x (namesM x) x.states[k] = C) := by show _ = _; rw [hy]; exact hC
      have HKL := hidOf hkl
      clear hC hy hwy q5 q6
      obtain ⟨y0, hy0⟩ : ∃ y0, y.name = y0 := ⟨_, rfl⟩
      rw [hy0] at HE hcell
      clear hy0
      have e0 : wr.cell? ⟨b, off + k * 3, none⟩ = some (.string y0) := hcell 0 _ rfl
      have e1 : wr.cell? ⟨b, off + k * 3 + 1, none⟩ = some (.slice ma mn mc) := hcell 1 _ rfl
      have e2 : wr.cell? ⟨b, off + k * 3 + 1 + 1, none⟩ = some (.slice ra rn rc) := hcell 2 _ rfl
      clear hcell
      subst eab
      go_wp2_with fail
      go_region_held3 (fun w' => w'.cell? ⟨w.heap.size, 0, none⟩ = some (.string xn) ∧ w'.cell? ⟨w.heap.size, 1, none⟩ = some (.slice ai ni ci) ∧ w'.cell? ⟨w.heap.size, 2, none⟩ = some (.slice ao no co) ∧ w'.cell? ⟨w.heap.size, 3, none⟩ = some (.slice av nv cv) ∧ w'.cell? ⟨w.heap.size, 4, none⟩ = some (.slice (some ⟨b, off, none⟩) nt ct) ∧ w'.cell? ⟨b, off + k * 3, none⟩ = some (.string y0) ∧ w'.cell? ⟨b, off + k * 3 + 1, none⟩ = some (.slice ma mn mc) ∧ w'.cell? ⟨b, off + k * 3 + 1 + 1, none⟩ = some (.slice ra rn rc)) (simp [go_sem, *])
        (first | (go_at_call 86; refine (HE.out _ (by first | exact Below.refl _ _ | exact below_drew1 (Below.refl _ _))).mono ?_; rintro e w2 ⟨rfl, b2⟩; replace b2 : Below wr.heap.size wr w2 := undrew b2; have HB2 := hidOf b2; obtain ⟨hc2, hf2⟩ := bcell b2; clear b2 hf2))
      by_cases hC0 : C = 0
      · subst hC0
        go_wp2_with fail
        go_roundw
        case rel =>
          refine ⟨k + 1, by omega, by go_num, ?_, hbel.trans (HB2.out.mono hbel.size)⟩
          intro j hj hjk
          by_cases e : j = k
          · subst e; exact HC.out
          · exact HK.out j hj (by omega)
        case measure => simp [intOf]; omega
      · have hC1 : (C == 0) = false := by simp [hC0]
        go_wp2_with fail
        go_ret
        exact ⟨ret_int (by rw [← HR.out, if_neg HNK.out, if_neg HE0.out, if_neg (by rw [firstC_at HKL.out (fun j hj hjk => HK.out j hj hjk) (by rw [HC.out]; exact hC0), HC.out]; exact hC0), firstC_at HKL.out (fun j hj hjk => HK.out j hj hjk) (by rw [HC.out]; exact hC0), HC.out]), HBw.out.trans (HB2.out.mono HBw.out.size)⟩
    · have HZ : Hid (firstC (stateM x (namesM x)) x.states = 0) := firstC_zero fun j hj => HK.out j hj (by have := HLT.out; omega)
      have HBx := hidOf hbel
      have HRG2 := hidOf (HRG.out HZ.out)
      clear HK hbel
      go_wp2_with fail
      clear hk c0 c1 c2 c3 c4 sx
      try clear hlt
      go_loopw [5] (fun i wr => ∃ k : Nat, k ≤ nt ∧ i = .int .i64 k ∧ Hid (∀ j, j < k → Wk (edgesM x) (x.states.length + 1) j = false) ∧ Below w1.heap.size w1 wr) (fun i _ => nt - (intOf i).toNat)
      case atStart => exact ⟨0, Nat.zero_le _, rfl, fun j h => absurd h (Nat.not_lt_zero _), HBx.out⟩
      case round =>
        obtain ⟨k, hk, rfl, HK, hbel⟩ := hrel
        have HBw : Hid (Below w.heap.size w wr) := HB1.out.trans (hbel.mono HB1.out.size)
        have BX := hidOf (BX1.out.below hbel)
        have c0 : wr.cell? ⟨w.heap.size, 0, none⟩ = some (.string xn) := (BX.out.2 0 _ rfl).1
        have c1 : wr.cell? ⟨w.heap.size, 1, none⟩ = some (.slice ai ni ci) := (BX.out.2 1 _ rfl).1
        have c2 : wr.cell? ⟨w.heap.size, 2, none⟩ = some (.slice ao no co) := (BX.out.2 2 _ rfl).1
        have c3 : wr.cell? ⟨w.heap.size, 3, none⟩ = some (.slice av nv cv) := (BX.out.2 3 _ rfl).1
        have c4 : wr.cell? ⟨w.heap.size, 4, none⟩ = some (.slice at_ nt ct) := (BX.out.2 4 _ rfl).1
        have sx : w.heap.size < wr.heap.size := BX.out.1
        by_cases hlt : k < nt
        · have HKL : Hid (k < x.states.length) := by show k < _; have := HLT.out; omega
          have HE := hidOf (HRG2.out wr HBw.out k HKL.out)
          obtain ⟨P, hP⟩ : ∃ P, Wk (edgesM x) (x.states.length + 1) k = P := ⟨_, rfl⟩
          rw [hP] at HE
          have HP := hidOf hP
          clear hP
          cases P with
          | true =>
            go_wp2_with fail
            refine HE.out.mono ?_
            rintro e w2 ⟨rfl, b2⟩
            have HB2 := hidOf b2
            clear b2
            go_wp2_with fail
            go_ret
            exact ⟨ret_int (by rw [← HR.out, if_neg HNK.out, if_neg HE0.out, if_pos HZ.out, if_pos (by unfold ringM; rw [List.any_eq_true]; exact ⟨k, List.mem_range.2 HKL.out, HP.out⟩)]), HBw.out.trans (HB2.out.mono HBw.out.size)⟩
          | false =>
            go_wp2_with fail
            refine HE.out.mono ?_
            rintro e w2 ⟨rfl, b2⟩
            have HB2 := hidOf b2
            clear b2
            go_wp2_with fail
            go_roundw
            case rel =>
              refine ⟨k + 1, by omega, by go_num, ?_, hbel.trans (HB2.out.mono hbel.size)⟩
              intro j hjk
              have hjk2 : j < k + 1 := hjk
              by_cases e : j = k
              · subst e; exact HP.out
              · exact HK.out j (by omega)
            case measure => simp [intOf]; omega
        · have HNR : Hid (¬ ringM x = true) := by
            show ¬ _
            unfold ringM
            rw [Bool.not_eq_true, List.any_eq_false]
            intro j hj
            rw [HK.out j (by have h1 := List.mem_range.1 hj; have h2 : x.states.length = nt := HLT.out; omega)]
            simp
          go_wp2_with fail
          go_ret
          exact ⟨ret_int (by rw [← HR.out, if_neg HNK.out, if_neg HE0.out, if_pos HZ.out, if_neg HNR.out]), HBw.out⟩
theorem specBlockCheck_any (B : Nat) (v : BkV) (x : Bk) (w : World) (hB : B ≤ w.heap.size) (hwt : wtBk x ≤ 1048576) (hx : IsBk B w v x) :
    Calls Tryz.prog 10 #[v.val x.name] w fun e w' => e = .returned (.int .i64 (checkM x)) ∧ Below w.heap.size w w' := by
  have HX := hidOf hx
  have HC : Hid (∀ W, Below w.heap.size w W → Calls Tryz.prog 42 #[v.val x.name] W fun e w' => e = .returned (.int .i64 (checkM x)) ∧ Below W.heap.size W w') := fun W hb => l3Check_any B v x W (by have := hb.size; omega) hwt (HX.out.below (hb.mono hB))
  clear hx HX
  obtain ⟨ai, ni, ci, ao, no, co, av, nv, cv, at_, nt, ct⟩ := v
  obtain ⟨xn, hxn⟩ : ∃ n, x.name = n := ⟨_, rfl⟩
  simp only [BkV.val] at HC ⊢
  rw [hxn] at HC ⊢
  clear hxn
  go_enter Tryz.func10, Tryz.ntmps10
  go_wp2_with fail
  refine (HC.out _ (by go_grown)).mono ?_
  rintro e w1 ⟨rfl, b1⟩
  have HB1 := hidOf (below_boxed b1)
  clear b1
  go_wp2_with fail
  go_ret
  exact ⟨rfl, HB1.out⟩
end Go.Proofs.YtnkeibahaiibpaaGreatDoor
