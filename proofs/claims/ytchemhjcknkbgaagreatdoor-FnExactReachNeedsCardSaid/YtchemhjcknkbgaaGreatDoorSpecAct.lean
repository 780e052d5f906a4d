/- The model's l3Act: what is wrong with an act. -/
import Derived.Test.YtchemhjcknkbgaaGreatDoorBunY34
import Derived.Deep.RegionWith
import Derived.Deep.CutRange
namespace Go.Proofs.YtchemhjcknkbgaaGreatDoor
open Go Go.RowKit Go.PlainAid
set_option linter.unusedSimpArgs false
set_option linter.unusedVariables false

set_option maxHeartbeats 3200000 in
set_option maxRecDepth 100000 in
theorem l3Act_any (B : Nat) (v : BkV) (x : Bk) (m : Ac) (w : World) (hB : B ≤ w.heap.size) (hwt : wtBk x ≤ 1048576) (hms : wtAc m ≤ 1048576) (hx : IsBk B w v x) :
    Calls Tryz.prog 115 #[v.val x.name, .agg #[.int .i64 m.kind, .string m.name, .string m.sum]] w fun e w' => e = .returned (.int .i64 (actM x (namesM x) m)) ∧ Below w.heap.size w w' := by
  obtain ⟨p0, p1, p2, p3, p4, p5, p6, p7, p8, p9⟩ := wtBk_parts hwt
  have lo := hx.outs.1
  have lv := hx.vars.1
  have hol : (outsM x).length ≤ 1048576 := by simp [outsM]; omega
  have hvl : (varsM x).length ≤ 1048576 := by simp [varsM]; omega
  have hvo := valsM_le x.outs
  have HX := hidOf hx
  obtain ⟨ak, an, asm⟩ := m
  unfold wtAc at hms
  simp only at hms ⊢
  have HP : Hid (∀ W, Below w.heap.size w W → Calls Tryz.prog 155 #[.slice v.ao v.no v.co] W fun e w' => ∃ u, e = .returned u ∧ OwnS W.heap.size w' u (outsM x) ∧ Below W.heap.size W w') := fun W hb => l3Ports_any B v.ao v.no v.co x.outs W (by have := hb.size; omega) (by omega) (HX.out.below (hb.mono hB)).outs
  have HO : Hid (∀ W, Below w.heap.size w W → Calls Tryz.prog 68 #[.slice v.ao v.no v.co] W fun e w' => ∃ u, e = .returned u ∧ OwnS W.heap.size w' u (valsM x.outs) ∧ Below W.heap.size W w') := fun W hb => l3Vals_any B v.ao v.no v.co x.outs W (by have := hb.size; omega) (by omega) p4 (HX.out.below (hb.mono hB)).outs
  have HV : Hid (∀ W, Below w.heap.size w W → Calls Tryz.prog 69 #[v.val x.name] W fun e w' => ∃ u, e = .returned u ∧ OwnS W.heap.size w' u (varsM x) ∧ Below W.heap.size W w') := fun W hb => l3Vars_any B v x W (by have := hb.size; omega) (by omega) (HX.out.below (hb.mono hB))
  have HN : Hid (∀ W, Below w.heap.size w W → Calls Tryz.prog 33 #[v.val x.name] W fun e w' => ∃ u, e = .returned u ∧ OwnS W.heap.size w' u (namesM x) ∧ Below W.heap.size W w') := fun W hb => l3Names_any B v x W (by have := hb.size; omega) hwt (HX.out.below (hb.mono hB))
  have HFP := hidOf (findOwn_any (outsM x) an hol (outs_small p4) (by omega))
  have HFV := hidOf (findOwn_any (varsM x) an hvl (vars_small p6) (by omega))
  have HFO := hidOf (findOwn_any (valsM x.outs) an (by omega) (valsM_small p4) (by omega))
  have HSU := hidOf (sumOwn_any (namesM x) asm (names_len hwt) (names_small hwt) (by omega))
  unfold actM
  obtain ⟨LP, hLP⟩ : ∃ l, outsM x = l := ⟨_, rfl⟩
  obtain ⟨LV, hLV⟩ : ∃ l, varsM x = l := ⟨_, rfl⟩
  obtain ⟨LO, hLO⟩ : ∃ l, valsM x.outs = l := ⟨_, rfl⟩
  obtain ⟨LN, hLN⟩ : ∃ l, namesM x = l := ⟨_, rfl⟩
  rw [hLP] at HP HFP ⊢
  rw [hLV] at HV HFV ⊢
  rw [hLO] at HO HFO ⊢
  rw [hLN] at HN HSU ⊢
  simp only
  obtain ⟨P, hP⟩ : ∃ i, findM LP an = i := ⟨_, rfl⟩
  obtain ⟨V, hV⟩ : ∃ i, findM LV an = i := ⟨_, rfl⟩
  obtain ⟨O, hO⟩ : ∃ i, findM LO an = i := ⟨_, rfl⟩
  obtain ⟨SK, hSK⟩ : ∃ i, sumOk LN asm = i := ⟨_, rfl⟩
  rw [hP] at HFP ⊢
  rw [hV] at HFV ⊢
  rw [hO] at HFO ⊢
  rw [hSK] at HSU ⊢
  clear hP hV hO hSK hLP hLV hLO hLN hol hvl hvo lo lv p0 p1 p2 p3 p4 p5 p6 p7 p8 p9 hwt hms hx HX
  obtain ⟨ai, ni, ci, ao, no, co, av, nv, cv, at_, nt, ct⟩ := v
  obtain ⟨xn, xi, xo, xv, xs⟩ := x
  simp only [BkV.val] at HV HN ⊢
  have HB0 : Hid (Below w.heap.size w ((w.alloc (.cells #[.string xn, .slice ai ni ci, .slice ao no co, .slice av nv cv, .slice at_ nt ct] 34)).alloc (.cells #[.int .i64 ak, .string an, .string asm] 71))) := below_two (Nat.le_refl _)
  obtain ⟨E, hE⟩ : ∃ E, empB asm = E := ⟨_, rfl⟩
  rw [hE]
  obtain ⟨R, hR⟩ : ∃ R, (if ak = 2 ∧ E = true then (if P < 0 then (3 : Int) else 0) else if ak = 1 then (if V < 0 ∧ O < 0 then 5 else if SK = true then 0 else 4) else 5) = R := ⟨_, rfl⟩
  have HR := hidOf hR
  rw [hR]
  clear hR
  unfold empB at hE
  have hz1 : w.heap.size + 1 < ((w.alloc (.cells #[.string xn, .slice ai ni ci, .slice ao no co, .slice av nv cv, .slice at_ nt ct] 34)).alloc (.cells #[.int .i64 ak, .string an, .string asm] 71)).heap.size := by simp
  by_cases hk1 : ak = 1
  · subst hk1
    clear hE
    by_cases hV0 : V < 0
    · go_enter Tryz.func115, Tryz.ntmps115
      go_wp2_with fail
      go_region_held3 (fun w' => w'.cell? ⟨w.heap.size, 0, none⟩ = some (.string xn) ∧ w'.cell? ⟨w.heap.size, 1, none⟩ = some (.slice ai ni ci) ∧ w'.cell? ⟨w.heap.size, 2, none⟩ = some (.slice ao no co) ∧ w'.cell? ⟨w.heap.size, 3, none⟩ = some (.slice av nv cv) ∧ w'.cell? ⟨w.heap.size, 4, none⟩ = some (.slice at_ nt ct) ∧ w'.cell? ⟨w.heap.size + 1, 0, none⟩ = some (.int .i64 1) ∧ w'.cell? ⟨w.heap.size + 1, 1, none⟩ = some (.string an) ∧ w'.cell? ⟨w.heap.size + 1, 2, none⟩ = some (.string asm)) (simp [go_sem, *])
        (first
         | (go_at_call 69; refine (HV.out _ (by first | exact HB0.out | exact below_drew1 HB0.out)).mono ?_; rintro e w1 ⟨u1, rfl, o1, b1⟩; obtain ⟨a1, c1, e1, _⟩ := o1.form; subst e1; have HB1 : Hid (Below w.heap.size w w1) := HB0.out.trans ((undrew b1).mono HB0.out.size); have hs1 : w.heap.size + 1 < w1.heap.size := (by have := b1.size; simp at this; omega); have ht1 : w.heap.size < w1.heap.size := (by omega); have HO1 := hidOf o1; obtain ⟨hc1, hf1⟩ := bcell (undrew b1); clear o1 b1 hf1)
         | (go_at_call_of 34 a1; refine (HFV.out _ _ _ _ _ HO1.out).mono ?_; rintro e w' ⟨rfl, hw'⟩; rw [hw']; clear hw' w')
         | (go_at_call 68; refine (HO.out _ HB1.out).mono ?_; rintro e w3 ⟨u3, rfl, o3, b3⟩; obtain ⟨a3, c3, e3, _⟩ := o3.form; subst e3; have HB3 : Hid (Below w.heap.size w w3) := HB1.out.trans (b3.mono HB1.out.size); have hs3 : w.heap.size + 1 < w3.heap.size := (by have := b3.size; omega); have ht3 : w.heap.size < w3.heap.size := (by omega); have HO3 := hidOf o3; obtain ⟨hc3, hf3⟩ := bcell b3; clear o3 b3 hf3)
         | (go_at_call_of 34 a3; refine (HFO.out _ _ _ _ _ HO3.out).mono ?_; rintro e w' ⟨rfl, hw'⟩; rw [hw']; clear hw' w'))
      by_cases hO0 : O < 0
      · go_wp2_with fail
        go_ret
        exact ⟨ret_int (by rw [← HR.out, if_neg (fun h => by omega), if_pos (by first | trivial | rfl), if_pos ⟨by omega, by omega⟩]), HB3.out⟩
      go_wp2_with fail
      go_region_held3 (fun w' => w'.cell? ⟨w.heap.size, 0, none⟩ = some (.string xn) ∧ w'.cell? ⟨w.heap.size, 1, none⟩ = some (.slice ai ni ci) ∧ w'.cell? ⟨w.heap.size, 2, none⟩ = some (.slice ao no co) ∧ w'.cell? ⟨w.heap.size, 3, none⟩ = some (.slice av nv cv) ∧ w'.cell? ⟨w.heap.size, 4, none⟩ = some (.slice at_ nt ct) ∧ w'.cell? ⟨w.heap.size + 1, 0, none⟩ = some (.int .i64 1) ∧ w'.cell? ⟨w.heap.size + 1, 1, none⟩ = some (.string an) ∧ w'.cell? ⟨w.heap.size + 1, 2, none⟩ = some (.string asm)) (simp [go_sem, *])
        (first
         | (go_at_call 33; refine (HN.out _ (by first | exact HB3.out | exact below_drew1 HB3.out)).mono ?_; rintro e w7 ⟨u7, rfl, o7, b7⟩; obtain ⟨a7, c7, e7, _⟩ := o7.form; subst e7; have HB7 : Hid (Below w.heap.size w w7) := HB3.out.trans ((undrew b7).mono HB3.out.size); have hs7 : w.heap.size + 1 < w7.heap.size := (by have := b7.size; simp at this; omega); have ht7 : w.heap.size < w7.heap.size := (by omega); have HO7 := hidOf o7; obtain ⟨hc7, hf7⟩ := bcell (undrew b7); clear o7 b7 hf7)
         | (go_at_call 157; refine (HSU.out _ _ _ _ _ HO7.out).mono ?_; rintro e w8 ⟨rfl, b8⟩; have HB8 : Hid (Below w.heap.size w w8) := HB7.out.trans (b8.mono HB7.out.size); obtain ⟨hc8, hf8⟩ := bcell b8; clear b8 hf8))
      cases SK with
      | false =>
        go_wp2_with fail
        go_ret
        exact ⟨ret_int (by rw [← HR.out, if_neg (fun h => by omega), if_pos (by first | trivial | rfl), if_neg (fun h => by omega)]; simp), HB8.out⟩
      | true =>
        go_wp2_with fail
        go_ret
        exact ⟨ret_int (by rw [← HR.out, if_neg (fun h => by omega), if_pos (by first | trivial | rfl), if_neg (fun h => by omega)]; simp), HB8.out⟩
    · have hVd : decide (V < 0) = false := decide_eq_false hV0
      have BX0 : Hid (BoxAt w.heap.size [.string xn, .slice ai ni ci, .slice ao no co, .slice av nv cv, .slice at_ nt ct] ((w.alloc (.cells #[.string xn, .slice ai ni ci, .slice ao no co, .slice av nv cv, .slice at_ nt ct] 34)).alloc (.cells #[.int .i64 1, .string an, .string asm] 71))) := (boxAt_new w [.string xn, .slice ai ni ci, .slice ao no co, .slice av nv cv, .slice at_ nt ct] 34).below ((Below.refl _ _).alloc (Nat.le_refl _) _)
      have BY0 : Hid (BoxAt (w.heap.size + 1) [.int .i64 1, .string an, .string asm] ((w.alloc (.cells #[.string xn, .slice ai ni ci, .slice ao no co, .slice av nv cv, .slice at_ nt ct] 34)).alloc (.cells #[.int .i64 1, .string an, .string asm] 71))) := by
        have := boxAt_new (w.alloc (.cells #[.string xn, .slice ai ni ci, .slice ao no co, .slice av nv cv, .slice at_ nt ct] 34)) [.int .i64 1, .string an, .string asm] 71
        show BoxAt _ _ _
        simpa using this
      go_enter Tryz.func115, Tryz.ntmps115
      go_wp2_with fail
      have hVe : ¬ V < 0 := by omega
      go_cut [39] from 25 (fun s39 wx => s39 = .bool false ∧ Hid (Below w.heap.size w wx) ∧ Hid (BoxAt w.heap.size [.string xn, .slice ai ni ci, .slice ao no co, .slice av nv cv, .slice at_ nt ct] wx) ∧ Hid (BoxAt (w.heap.size + 1) [.int .i64 1, .string an, .string asm] wx))
      case first =>
        first
          | go_region_with (first
               | (go_at_call 69; refine (HV.out _ (by first | exact HB0.out | exact below_drew1 HB0.out)).mono ?_; rintro e w1 ⟨u1, rfl, o1, b1⟩; obtain ⟨a1, c1, e1, _⟩ := o1.form; subst e1; have HB1 : Hid (Below w.heap.size w w1) := HB0.out.trans ((undrew b1).mono HB0.out.size); have HY1 := hidOf (BY0.out.below (undrew b1)); have HX1 := hidOf (BX0.out.below (undrew b1)); have hs1 : w.heap.size + 1 < w1.heap.size := HY1.out.1; have ht1 : w.heap.size < w1.heap.size := (by omega); have HO1 := hidOf o1; obtain ⟨hc1, hf1⟩ := bcell (undrew b1); clear o1 b1 hf1)
               | (go_at_call_of 34 a1; refine (HFV.out _ _ _ _ _ HO1.out).mono ?_; rintro e w' ⟨rfl, hw'⟩; rw [hw']; clear hw' w'))
          | fail
        all_goals
          go_wp2_with fail
          go_meet
          case rel => exact ⟨rfl, HB1.out, HX1.out, HY1.out⟩
      case rest =>
        obtain ⟨rfl, HB1, HX1, HY1⟩ := hcut
        have c0 : wc.cell? ⟨w.heap.size, 0, none⟩ = some (.string xn) := (HX1.out.2 0 _ rfl).1
        have c1 : wc.cell? ⟨w.heap.size, 1, none⟩ = some (.slice ai ni ci) := (HX1.out.2 1 _ rfl).1
        have c2 : wc.cell? ⟨w.heap.size, 2, none⟩ = some (.slice ao no co) := (HX1.out.2 2 _ rfl).1
        have c3 : wc.cell? ⟨w.heap.size, 3, none⟩ = some (.slice av nv cv) := (HX1.out.2 3 _ rfl).1
        have c4 : wc.cell? ⟨w.heap.size, 4, none⟩ = some (.slice at_ nt ct) := (HX1.out.2 4 _ rfl).1
        have d0 : wc.cell? ⟨w.heap.size + 1, 0, none⟩ = some (.int .i64 1) := (HY1.out.2 0 _ rfl).1
        have d1 : wc.cell? ⟨w.heap.size + 1, 1, none⟩ = some (.string an) := (HY1.out.2 1 _ rfl).1
        have d2 : wc.cell? ⟨w.heap.size + 1, 2, none⟩ = some (.string asm) := (HY1.out.2 2 _ rfl).1
        have hs1 : w.heap.size + 1 < wc.heap.size := HY1.out.1
        have ht1 : w.heap.size < wc.heap.size := HX1.out.1
        go_wp2_with fail
        go_region_held3 (fun w' => w'.cell? ⟨w.heap.size, 0, none⟩ = some (.string xn) ∧ w'.cell? ⟨w.heap.size, 1, none⟩ = some (.slice ai ni ci) ∧ w'.cell? ⟨w.heap.size, 2, none⟩ = some (.slice ao no co) ∧ w'.cell? ⟨w.heap.size, 3, none⟩ = some (.slice av nv cv) ∧ w'.cell? ⟨w.heap.size, 4, none⟩ = some (.slice at_ nt ct) ∧ w'.cell? ⟨w.heap.size + 1, 0, none⟩ = some (.int .i64 1) ∧ w'.cell? ⟨w.heap.size + 1, 1, none⟩ = some (.string an) ∧ w'.cell? ⟨w.heap.size + 1, 2, none⟩ = some (.string asm)) (simp [go_sem, *])
          (first
           | (go_at_call 33; refine (HN.out _ (by first | exact HB1.out | exact below_drew1 HB1.out)).mono ?_; rintro e w7 ⟨u7, rfl, o7, b7⟩; obtain ⟨a7, c7, e7, _⟩ := o7.form; subst e7; have HB7 : Hid (Below w.heap.size w w7) := HB1.out.trans ((undrew b7).mono HB1.out.size); have hs7 : w.heap.size + 1 < w7.heap.size := (by have := b7.size; simp at this; omega); have ht7 : w.heap.size < w7.heap.size := (by omega); have HO7 := hidOf o7; obtain ⟨hc7, hf7⟩ := bcell (undrew b7); clear o7 b7 hf7)
           | (go_at_call 157; refine (HSU.out _ _ _ _ _ HO7.out).mono ?_; rintro e w8 ⟨rfl, b8⟩; have HB8 : Hid (Below w.heap.size w w8) := HB7.out.trans (b8.mono HB7.out.size); obtain ⟨hc8, hf8⟩ := bcell b8; clear b8 hf8))
        cases SK with
        | false =>
          go_wp2_with fail
          go_ret
          exact ⟨ret_int (by rw [← HR.out, if_neg (fun h => by omega), if_pos (by first | trivial | rfl), if_neg (fun h => by omega)]; simp), HB8.out⟩
        | true =>
          go_wp2_with fail
          go_ret
          exact ⟨ret_int (by rw [← HR.out, if_neg (fun h => by omega), if_pos (by first | trivial | rfl), if_neg (fun h => by omega)]; simp), HB8.out⟩
  · by_cases hk2 : ak = 2
    · subst hk2
      cases he : asm.toList.isEmpty with
      | true =>
        have HE : Hid (E = true) := by show E = true; rw [← hE, he]
        clear hE
        go_enter Tryz.func115, Tryz.ntmps115
        go_wp2_with fail
        go_region_held3 (fun w' => w'.cell? ⟨w.heap.size, 0, none⟩ = some (.string xn) ∧ w'.cell? ⟨w.heap.size, 1, none⟩ = some (.slice ai ni ci) ∧ w'.cell? ⟨w.heap.size, 2, none⟩ = some (.slice ao no co) ∧ w'.cell? ⟨w.heap.size, 3, none⟩ = some (.slice av nv cv) ∧ w'.cell? ⟨w.heap.size, 4, none⟩ = some (.slice at_ nt ct) ∧ w'.cell? ⟨w.heap.size + 1, 0, none⟩ = some (.int .i64 2) ∧ w'.cell? ⟨w.heap.size + 1, 1, none⟩ = some (.string an) ∧ w'.cell? ⟨w.heap.size + 1, 2, none⟩ = some (.string asm)) (simp [go_sem, *])
          (first
           | (go_at_call 155; refine (HP.out _ (by first | exact HB0.out | exact below_drew1 HB0.out)).mono ?_; rintro e w1 ⟨u1, rfl, o1, b1⟩; obtain ⟨a1, c1, e1, _⟩ := o1.form; subst e1; have HB1 : Hid (Below w.heap.size w w1) := HB0.out.trans ((undrew b1).mono HB0.out.size); have hs1 : w.heap.size + 1 < w1.heap.size := (by have := b1.size; simp at this; omega); have ht1 : w.heap.size < w1.heap.size := (by omega); have HO1 := hidOf o1; obtain ⟨hc1, hf1⟩ := bcell (undrew b1); clear o1 b1 hf1)
           | (go_at_call_of 34 a1; refine (HFP.out _ _ _ _ _ HO1.out).mono ?_; rintro e w' ⟨rfl, hw'⟩; rw [hw']; clear hw' w'))
        by_cases hP0 : P < 0
        · go_wp2_with fail
          go_ret
          exact ⟨ret_int (by rw [← HR.out, if_pos ⟨by first | trivial | rfl, HE.out⟩, if_pos (by omega)]), HB1.out⟩
        · go_wp2_with fail
          go_ret
          exact ⟨ret_int (by rw [← HR.out, if_pos ⟨by first | trivial | rfl, HE.out⟩, if_neg (by omega)]), HB1.out⟩
      | false =>
        have HE : Hid (E = false) := by show E = false; rw [← hE, he]
        clear hE
        go_enter Tryz.func115, Tryz.ntmps115
        go_wp2_with fail
        go_ret
        exact ⟨ret_int (by rw [← HR.out, if_neg (fun h => by rw [HE.out] at h; cases h.2), if_neg (by decide)]), HB0.out⟩
    · have hk2' : (ak == 2) = false := by simp [hk2]
      have hk1' : (ak == 1) = false := by simp [hk1]
      clear hE
      go_enter Tryz.func115, Tryz.ntmps115
      go_wp2_with fail
      go_ret
      exact ⟨ret_int (by rw [← HR.out, if_neg (fun h => hk2 h.1), if_neg hk1]), HB0.out⟩
end Go.Proofs.YtchemhjcknkbgaaGreatDoor
