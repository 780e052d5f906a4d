/- The model's l3Names. -/
import Derived.Test.YtchemhjcknkbgaaGreatDoorBunY31
import Derived.Test.YtchemhjcknkbgaaGreatDoorBunY32
import Derived.Test.YtchemhjcknkbgaaGreatDoorBunY4
namespace Go.Proofs.YtchemhjcknkbgaaGreatDoor
open Go Go.RowKit Go.PlainAid
set_option linter.unusedSimpArgs false
set_option linter.unusedVariables false

theorem wtBk_parts {b : Bk} {N : Nat} (h : wtBk b ≤ N) : b.name.size ≤ N ∧ b.ins.length ≤ N ∧ wsum wtPt b.ins ≤ N ∧ b.outs.length ≤ N ∧ wsum wtPt b.outs ≤ N ∧ b.vars.length ≤ N ∧ wsum wtVr b.vars ≤ N ∧ b.states.length ≤ N ∧ wsum wtSt b.states ≤ N ∧ wsum wtPt b.ins + wsum wtPt b.outs + b.vars.length ≤ N := by
  unfold wtBk at h
  omega
theorem valsM_le (ps : List Pt) : (valsM ps).length ≤ wsum wtPt ps := by
  have := valsM_len ps ps.length (Nat.le_refl _)
  rwa [List.take_length] at this
theorem vars_small {b : Bk} {N : Nat} (h : wsum wtVr b.vars ≤ N) : ∀ y ∈ varsM b, y.size ≤ N := by
  intro y hy
  obtain ⟨v, hv, rfl⟩ := List.mem_map.1 hy
  have := wsum_mem (f := wtVr) hv
  have e : wtVr v = v.name.size := rfl
  omega
theorem OwnS.keep {B : Nat} {v : Value} {l : List ByteArray} {w w' : World} (h : OwnS B w v l) (hb : Below w.heap.size w w') : OwnS B w' v l := own_of_block h (fun q hq => hb.block q (World.ownsRow.lt h q hq).2)
theorem OwnS.low {B B' : Nat} {v : Value} {l : List ByteArray} {w : World} (h : OwnS B w v l) (hB : B' ≤ B) : OwnS B' w v l := ownsRow_mono h hB

set_option maxHeartbeats 1600000 in
set_option maxRecDepth 100000 in
theorem l3Names_any (B : Nat) (v : BkV) (x : Bk) (w : World) (hB : B ≤ w.heap.size) (hwt : wtBk x ≤ 1048576) (hx : IsBk B w v x) :
    Calls Tryz.prog 33 #[v.val x.name] w fun e w' => ∃ u, e = .returned u ∧ OwnS w.heap.size w' u (namesM x) ∧ Below w.heap.size w w' := by
  obtain ⟨p0, p1, p2, p3, p4, p5, p6, p7, p8, p9⟩ := wtBk_parts hwt
  have li := hx.ins.1
  have lo := hx.outs.1
  have lv := hx.vars.1
  have HX := hidOf hx
  have hvi := valsM_le x.ins
  have hvo := valsM_le x.outs
  have hsi := valsM_small p2
  have hso := valsM_small p4
  have hsv := vars_small p6
  have hvl : (varsM x).length = x.vars.length := by simp [varsM]
  have HI : Hid (∀ W, Below w.heap.size w W → Calls Tryz.prog 68 #[.slice v.ai v.ni v.ci] W fun e w' => ∃ u, e = .returned u ∧ OwnS W.heap.size w' u (valsM x.ins) ∧ Below W.heap.size W w') := fun W hb => l3Vals_any B v.ai v.ni v.ci x.ins W (by have := hb.size; omega) (by omega) p2 (HX.out.below (hb.mono hB)).ins
  have HO : Hid (∀ W, Below w.heap.size w W → Calls Tryz.prog 68 #[.slice v.ao v.no v.co] W fun e w' => ∃ u, e = .returned u ∧ OwnS W.heap.size w' u (valsM x.outs) ∧ Below W.heap.size W w') := fun W hb => l3Vals_any B v.ao v.no v.co x.outs W (by have := hb.size; omega) (by omega) p4 (HX.out.below (hb.mono hB)).outs
  have HV : Hid (∀ W, Below w.heap.size w W → Calls Tryz.prog 69 #[v.val x.name] W fun e w' => ∃ u, e = .returned u ∧ OwnS W.heap.size w' u (varsM x) ∧ Below W.heap.size W w') := fun W hb => l3Vars_any B v x W (by have := hb.size; omega) (by omega) (HX.out.below (hb.mono hB))
  have HAD1 : Hid (∀ W u1 u2 B1 B2, B1 ≤ W.heap.size → OwnS B1 W u1 (valsM x.ins) → OwnS B2 W u2 (valsM x.outs) → (∀ q, u2.ownBlock = some q → some q ≠ u1.ownBlock) → ∀ a2 n2 c2, u2 = .slice a2 n2 c2 → Calls Tryz.prog 31 #[u1, .slice a2 n2 c2] W fun e w' => ∃ v', e = .returned v' ∧ OwnS B1 w' v' (addM (valsM x.ins) (valsM x.outs)) ∧ Gr u1 W w' v') := by
    intro W u1 u2 B1 B2 hB1 h1 h2 hne a2 n2 c2 e2
    obtain ⟨a, c, e, hc, hz, hown⟩ := h2.form
    rw [e2] at e
    cases e
    exact l3Add_any B1 u1 (valsM x.ins) a2 _ c2 (valsM x.outs) W hB1 h1 hz (fun q o eq _ => hne q (hown q o eq)) (by omega) hsi hso
  have HAD2 : Hid (∀ W u1 u2 B1 B2, B1 ≤ W.heap.size → OwnS B1 W u1 (addM (valsM x.ins) (valsM x.outs)) → OwnS B2 W u2 (varsM x) → (∀ q, u2.ownBlock = some q → some q ≠ u1.ownBlock) → ∀ a2 n2 c2, u2 = .slice a2 n2 c2 → Calls Tryz.prog 31 #[u1, .slice a2 n2 c2] W fun e w' => ∃ v', e = .returned v' ∧ OwnS B1 w' v' (namesM x) ∧ Gr u1 W w' v') := by
    intro W u1 u2 B1 B2 hB1 h1 h2 hne a2 n2 c2 e2
    obtain ⟨a, c, e, hc, hz, hown⟩ := h2.form
    rw [e2] at e
    cases e
    have hl := addM_len (valsM x.ins) (valsM x.outs)
    refine l3Add_any B1 u1 (addM (valsM x.ins) (valsM x.outs)) a2 _ c2 (varsM x) W hB1 h1 hz (fun q o eq _ => hne q (hown q o eq)) (by omega) (fun y hy => ?_) hsv
    rcases mem_addM.1 hy with h | h
    · exact hsi y h
    · exact hso y h
  obtain ⟨VI, hVI⟩ : ∃ l, valsM x.ins = l := ⟨_, rfl⟩
  obtain ⟨VO, hVO⟩ : ∃ l, valsM x.outs = l := ⟨_, rfl⟩
  obtain ⟨VV, hVV⟩ : ∃ l, varsM x = l := ⟨_, rfl⟩
  obtain ⟨NM, hNM⟩ : ∃ l, namesM x = l := ⟨_, rfl⟩
  rw [hVI, hVO] at HAD1
  rw [hVI, hVO, hVV, hNM] at HAD2
  rw [hVI] at HI
  rw [hVO] at HO
  rw [hVV] at HV
  rw [hNM]
  clear hVI hVO hVV hNM hsi hso hsv hvi hvo hvl li lo lv p0 p1 p2 p3 p4 p5 p6 p7 p8 p9 hwt hx HX
  obtain ⟨ai, ni, ci, ao, no, co, av, nv, cv, at_, nt, ct⟩ := v
  obtain ⟨xn, xi, xo, xv, xs⟩ := x
  simp only [BkV.val] at HV ⊢
  have hb0 : Below w.heap.size w (w.alloc (.cells #[.string xn, .slice ai ni ci, .slice ao no co, .slice av nv cv, .slice at_ nt ct] 34)) := (Below.refl _ _).alloc (Nat.le_refl _) _
  have HB0 := hidOf hb0
  clear hb0
  go_enter Tryz.func33, Tryz.ntmps33
  go_wp2_with fail
  go_region_held3 (fun w' => w'.cell? ⟨w.heap.size, 0, none⟩ = some (.string xn) ∧ w'.cell? ⟨w.heap.size, 1, none⟩ = some (.slice ai ni ci) ∧ w'.cell? ⟨w.heap.size, 2, none⟩ = some (.slice ao no co) ∧ w'.cell? ⟨w.heap.size, 3, none⟩ = some (.slice av nv cv) ∧ w'.cell? ⟨w.heap.size, 4, none⟩ = some (.slice at_ nt ct)) (simp [go_sem, *])
    (first
     | (go_at_call_of 68 ai; refine (HI.out _ (by first | exact HB0.out | exact below_drew1 HB0.out)).mono ?_; rintro e w1 ⟨u1, rfl, o1, b1⟩; have hB1 := HB0.out.trans ((undrew b1).mono HB0.out.size); have HB1 := hidOf hB1; have hs1 : w.heap.size < w1.heap.size := (by have := b1.size; simp at this; omega); have HO1 : Hid (OwnS (w.heap.size + 1) w1 u1 VI) := (by show OwnS _ _ _ _; simpa using o1); obtain ⟨hc1, hf1⟩ := bcell (undrew b1); clear o1 b1 hB1 hf1)
     | (go_at_call_of 68 ao; refine (HO.out _ HB1.out).mono ?_; rintro e w2 ⟨u2, rfl, o2, b2⟩; obtain ⟨a2, c2, e2, _⟩ := o2.form; subst e2; have hB2 := HB1.out.trans (b2.mono HB1.out.size); have HB2 := hidOf hB2; have hs2 : w.heap.size < w2.heap.size := (by have := b2.size; omega); have HO2 := hidOf o2; have HO12 := hidOf (HO1.out.keep b2); have HLT1 : Hid (∀ q, u1.ownBlock = some q → q < w1.heap.size) := (fun q hq => (World.ownsRow.lt HO1.out q hq).2); obtain ⟨hc2, hf2⟩ := bcell b2; clear o2 b2 hB2 hf2)
     | (go_at_call_of 31 a2; refine (HAD1.out _ u1 _ (w.heap.size + 1) w1.heap.size (by omega) HO12.out HO2.out (fun q hq e => by have h1 := (World.ownsRow.lt HO2.out q hq).1; have h2 := HLT1.out q e.symm; omega) a2 _ c2 rfl).mono ?_; rintro e w3 ⟨u3, rfl, o3, g3⟩; have hc3 : ∀ o, w3.cell? ⟨w.heap.size, o, none⟩ = w2.cell? ⟨w.heap.size, o, none⟩ := (fun o => World.cell?_of_block (g3.block w.heap.size hs2 (fun e => by have := (World.ownsRow.lt HO12.out w.heap.size e.symm).1; omega))); have HB3 : Hid (Below w.heap.size w w3) := HB2.out.trans (g3.below (by omega) (fun k hk => by have := (World.ownsRow.lt HO12.out k hk).1; omega)); have hs3 : w.heap.size < w3.heap.size := (by have := g3.size; omega); have HO3 := hidOf o3; clear o3 g3)
     | (go_at_call 69; refine (HV.out _ HB3.out).mono ?_; rintro e w4 ⟨u4, rfl, o4, b4⟩; obtain ⟨a4, c4, e4, _⟩ := o4.form; subst e4; have HB4 : Hid (Below w.heap.size w w4) := HB3.out.trans (b4.mono HB3.out.size); have hs4 : w.heap.size < w4.heap.size := (by have := b4.size; omega); have HO4 := hidOf o4; have HO34 := hidOf (HO3.out.keep b4); have HLT3 : Hid (∀ q, u3.ownBlock = some q → q < w3.heap.size) := (fun q hq => (World.ownsRow.lt HO3.out q hq).2); obtain ⟨hc4, hf4⟩ := bcell b4; clear o4 b4 hf4)
     | (go_at_call_of 31 a4; refine (HAD2.out _ u3 _ (w.heap.size + 1) w3.heap.size (by omega) HO34.out HO4.out (fun q hq e => by have h1 := (World.ownsRow.lt HO4.out q hq).1; have h2 := HLT3.out q e.symm; omega) a4 _ c4 rfl).mono ?_; rintro e w5 ⟨u5, rfl, o5, g5⟩; have hc5 : ∀ o, w5.cell? ⟨w.heap.size, o, none⟩ = w4.cell? ⟨w.heap.size, o, none⟩ := (fun o => World.cell?_of_block (g5.block w.heap.size hs4 (fun e => by have := (World.ownsRow.lt HO34.out w.heap.size e.symm).1; omega))); have HB5 : Hid (Below w.heap.size w w5) := HB4.out.trans (g5.below (by omega) (fun k hk => by have := (World.ownsRow.lt HO34.out k hk).1; omega)); have HO5 := hidOf o5; clear o5 g5))
  all_goals
    go_wp2_with fail
    go_ret
    exact ⟨_, rfl, HO5.out.low (by omega), HB5.out⟩
end Go.Proofs.YtchemhjcknkbgaaGreatDoor

/- The model's l3Sum: whether a text is a sum as it is written, of these names alone. -/
namespace Go.Proofs.YtchemhjcknkbgaaGreatDoor
open Go Go.RowKit Go.PlainAid
set_option linter.unusedSimpArgs false
set_option linter.unusedVariables false

theorem OwnNd.nds' {B : Nat} {w : World} {v : Value} {l : List Nd} (h : OwnNd B w v l) : ∃ a c, v = .slice a l.length c ∧ IsNds w.heap.size w a l.length l := by
  have h0 := h
  obtain ⟨h1, h2⟩ := h
  rcases h2 with ⟨hv, hn⟩ | ⟨g, cap, cur, hv, h3, h4, h5⟩
  · exact ⟨none, 0, by rw [hv, hn], rfl, .inl hn⟩
  · subst hv
    refine ⟨_, cap, rfl, rfl, .inr ⟨g, 0, rfl, (World.ownsRow.lt h0 g rfl).2, fun i hi => ?_⟩⟩
    obtain ⟨e1, e2, e3⟩ := ndCells_at l i hi
    rw [Nat.zero_add]
    exact ⟨(World.ownsRow.cellAt h0 (i * 3) (by omega)).trans e1, (World.ownsRow.cellAt h0 (i * 3 + 1) (by omega)).trans e2, (World.ownsRow.cellAt h0 (i * 3 + 1 + 1) (by omega)).trans e3⟩
theorem sum_read {s : ByteArray} {l : List Nd} (h : getM s = some l) (hp : putM l = s) : Summy l := by
  refine ⟨s, ?_⟩
  unfold exprM
  rw [h]
  simp only
  rw [if_neg]
  intro he
  have hn := (putM_empty l).1 he
  rw [putM_sumM, hn] at hp
  simp only at hp
  rw [← hp, getM_no] at h
  cases h

set_option maxHeartbeats 1600000 in
set_option maxRecDepth 100000 in
theorem l3Sum_any (B : Nat) (a : Option Addr) (n c : Nat) (names : List ByteArray) (s : ByteArray) (w : World) (hB : B ≤ w.heap.size) (hn : n ≤ 1048576) (hls : ∀ y ∈ names, y.size ≤ 1048576) (hs : s.size ≤ 1048576) (hz : IsStrs B w a n names) :
    Calls Tryz.prog 157 #[.slice a n c, .string s] w fun e w' => e = .returned (.bool (sumOk names s)) ∧ Below w.heap.size w w' := by
  have HZ := hidOf hz
  have HG := hidOf (l1Get_any s w hs)
  have HLS := hidOf hls
  obtain ⟨D, hD⟩ : ∃ D, sumOk names s = D := ⟨_, rfl⟩
  have HD := hidOf hD
  rw [hD]
  clear hz hD hls
  cases hg : getM s with
  | none =>
    have hDf : D = false := by rw [← HD.out]; unfold sumOk; rw [hg]
    subst hDf
    go_enter Tryz.func157, Tryz.ntmps157
    go_wp2_with fail
    refine HG.out.mono ?_
    rintro e w1 ⟨v, b, rfl, h1, _, hb1⟩
    obtain ⟨rfl, rfl⟩ := h1 hg
    go_wp2_with fail
    go_ret
    exact ⟨rfl, hb1⟩
  | some l =>
    have hl24 := getM_len hg
    have hnm := getM_names hg
    have HPS : Hid (putM l = s → Summy l) := fun h => sum_read hg h
    have hDv : D = (decide (putM l = s) && (codeM names l).isSome) := by rw [← HD.out]; unfold sumOk; rw [hg]
    have HDV := hidOf hDv
    have HG2 : Hid (Calls Tryz.prog 67 #[.string s] w fun e w' => ∃ a1 c1, e = .returned (.tuple #[.slice a1 l.length c1, .bool true]) ∧ IsNds w'.heap.size w' a1 l.length l ∧ Below w.heap.size w w') := by
      refine HG.out.mono ?_
      rintro e w1 ⟨v, b, rfl, _, h2, hb1⟩
      obtain ⟨rfl, ho⟩ := h2 l hg
      obtain ⟨a1, c1, rfl, hi⟩ := ho.nds'
      exact ⟨a1, c1, rfl, hi, hb1⟩
    obtain ⟨m, hm⟩ : ∃ m, l.length = m := ⟨_, rfl⟩
    rw [hm] at HG2 hl24
    have HSM : Hid (∀ x ∈ l, x.2.2.size ≤ 1048576) := fun x hx => by have := hnm x hx; omega
    clear hg hDv HG hnm hm
    go_enter Tryz.func157, Tryz.ntmps157
    go_wp2_with fail
    refine HG2.out.mono ?_
    rintro e w1 ⟨a1, c1, rfl, hi1, hb1⟩
    have HI1 := hidOf hi1
    have HB1 := hidOf hb1
    have hs1 := hb1.size
    have HZ1 := hidOf (HZ.out.below (hb1.mono hB))
    have HP := hidOf (l1Put_any w1.heap.size a1 m c1 l w1 (by omega) (Nat.le_refl _) HSM.out hi1)
    obtain ⟨P, hP⟩ : ∃ P, putM l = P := ⟨_, rfl⟩
    rw [hP] at HP HPS HDV
    clear hi1 hb1 hP HG2
    by_cases hps : P = s
    · subst hps
      have HSU := hidOf (HPS.out rfl)
      rw [show decide (P = P) = true by simp, Bool.true_and] at HDV
      go_wp2_with (go_at_call 196; refine HP.out.mono ?_; rintro e w2 ⟨rfl, hb2⟩; have HB2 : Hid (Below w1.heap.size w1 w2) := hb2; clear hb2)
      have hi2 := (HI1.out.below HB2.out).mono HB2.out.size
      have hz2 := (HZ1.out.below (HB2.out.mono (by omega))).mono (show B ≤ w2.heap.size by have := HB2.out.size; omega)
      have HL2 := hidOf (l2Of_any w2.heap.size a1 m c1 l a n c names w2 (Nat.le_refl _) HSU.out hi2 hz2 hn HLS.out)
      have HBF : Hid (Below w.heap.size w w2) := HB1.out.trans (HB2.out.mono hs1)
      clear hi2 hz2
      cases hc : codeM names l with
      | none =>
        rw [hc] at HL2 HDV
        have hDf : D = false := HDV.out
        subst hDf
        refine HL2.out.mono ?_
        rintro e w3 ⟨rfl, hb3⟩
        go_wp2_with fail
        go_ret
        exact ⟨rfl, HBF.out.trans (hb3.mono HBF.out.size)⟩
      | some st =>
        rw [hc] at HL2 HDV
        have hDt : D = true := HDV.out
        subst hDt
        refine HL2.out.mono ?_
        rintro e w3 ⟨⟨v', rfl, _⟩, hb3⟩
        go_wp2_with fail
        go_ret
        exact ⟨rfl, HBF.out.trans (hb3.mono HBF.out.size)⟩
    · have hne := list_ne hps
      have hDf : D = false := by rw [HDV.out]; simp [hps]
      subst hDf
      clear hps
      go_wp2_with (go_at_call 196; refine HP.out.mono ?_; rintro e w2 ⟨rfl, hb2⟩; have HB2 : Hid (Below w1.heap.size w1 w2) := hb2; clear hb2)
      go_ret
      exact ⟨rfl, HB1.out.trans (HB2.out.mono hs1)⟩
end Go.Proofs.YtchemhjcknkbgaaGreatDoor

/- The model's l3Move and l3Act: what is wrong with a move, with an act. -/
namespace Go.Proofs.YtchemhjcknkbgaaGreatDoor
open Go Go.RowKit Go.PlainAid
set_option linter.unusedSimpArgs false
set_option linter.unusedVariables false

theorem below_any {a w w' : World} (h : Below a.heap.size a w) (k : Below w.heap.size w w') : Below a.heap.size a w' := h.trans (k.mono h.size)
theorem below_two {B : Nat} {w : World} {o o' : Obj} (hB : B ≤ w.heap.size) : Below B w ((w.alloc o).alloc o') := ((Below.refl _ _).alloc hB _).alloc (by simp; omega) _
theorem ins_small {x : Bk} {N : Nat} (h : wsum wtPt x.ins ≤ N) : ∀ y ∈ insM x, y.size ≤ N := by
  intro y hy
  obtain ⟨p, hp, rfl⟩ := List.mem_map.1 hy
  have h1 := wsum_mem (f := wtPt) hp
  have h2 : p.name.size ≤ wtPt p := by unfold wtPt; omega
  omega
theorem outs_small {x : Bk} {N : Nat} (h : wsum wtPt x.outs ≤ N) : ∀ y ∈ outsM x, y.size ≤ N := by
  intro y hy
  obtain ⟨p, hp, rfl⟩ := List.mem_map.1 hy
  have h1 := wsum_mem (f := wtPt) hp
  have h2 : p.name.size ≤ wtPt p := by unfold wtPt; omega
  omega
theorem states_small {x : Bk} {N : Nat} (h : wsum wtSt x.states ≤ N) : ∀ y ∈ statesM x, y.size ≤ N := by
  intro y hy
  obtain ⟨p, hp, rfl⟩ := List.mem_map.1 hy
  have h1 := wsum_mem (f := wtSt) hp
  have h2 : p.name.size ≤ wtSt p := by unfold wtSt; omega
  omega
theorem names_small {x : Bk} {N : Nat} (h : wtBk x ≤ N) : ∀ y ∈ namesM x, y.size ≤ N := by
  obtain ⟨p0, p1, p2, p3, p4, p5, p6, p7, p8, p9⟩ := wtBk_parts h
  intro y hy
  unfold namesM at hy
  rcases mem_addM.1 hy with hy | hy
  · rcases mem_addM.1 hy with hy | hy
    · exact valsM_small p2 y hy
    · exact valsM_small p4 y hy
  · exact vars_small p6 y hy
theorem names_len {x : Bk} {N : Nat} (h : wtBk x ≤ N) : (namesM x).length ≤ N := by
  obtain ⟨p0, p1, p2, p3, p4, p5, p6, p7, p8, p9⟩ := wtBk_parts h
  have h1 := addM_len (valsM x.ins) (valsM x.outs)
  have h2 := addM_len (addM (valsM x.ins) (valsM x.outs)) (varsM x)
  have h3 := valsM_le x.ins
  have h4 := valsM_le x.outs
  have h5 : (varsM x).length = x.vars.length := by simp [varsM]
  unfold namesM
  omega
/-- the place of a name in a list of its own -/
theorem findOwn_any (l : List ByteArray) (s : ByteArray) (hl : l.length ≤ 1048576) (hls : ∀ y ∈ l, y.size ≤ 1048576) (hs : s.size ≤ 1048576) (B : Nat) (W : World) (a : Option Addr) (n c : Nat) (h : OwnS B W (.slice a n c) l) :
    Calls Tryz.prog 34 #[.slice a n c, .string s] W fun e w' => e = .returned (.int .i64 (findM l s)) ∧ w' = W := by
  obtain ⟨a', c', e, hc, hz, _⟩ := h.form
  cases e
  exact l1Find_any W.heap.size a _ c l s W hl hs hls hz
theorem sumOwn_any (l : List ByteArray) (s : ByteArray) (hl : l.length ≤ 1048576) (hls : ∀ y ∈ l, y.size ≤ 1048576) (hs : s.size ≤ 1048576) (B : Nat) (W : World) (a : Option Addr) (n c : Nat) (h : OwnS B W (.slice a n c) l) :
    Calls Tryz.prog 157 #[.slice a n c, .string s] W fun e w' => e = .returned (.bool (sumOk l s)) ∧ Below W.heap.size W w' := by
  obtain ⟨a', c', e, hc, hz, _⟩ := h.form
  cases e
  exact l3Sum_any W.heap.size a _ c l s W (Nat.le_refl _) hl hls hs hz

set_option maxHeartbeats 3200000 in
set_option maxRecDepth 100000 in
theorem l3Move_any (B : Nat) (v : BkV) (x : Bk) (m : Mo) (w : World) (hB : B ≤ w.heap.size) (hwt : wtBk x ≤ 1048576) (hms : wtMo m ≤ 1048576) (hx : IsBk B w v x) :
    Calls Tryz.prog 114 #[v.val x.name, .agg #[.string m.event, .string m.cond, .string m.to]] w fun e w' => e = .returned (.int .i64 (moveM x (namesM x) m)) ∧ Below w.heap.size w w' := by
  obtain ⟨p0, p1, p2, p3, p4, p5, p6, p7, p8, p9⟩ := wtBk_parts hwt
  have li := hx.ins.1
  have lt := hx.states.1
  have hil : (insM x).length ≤ 1048576 := by simp [insM]; omega
  have htl : (statesM x).length ≤ 1048576 := by simp [statesM]; omega
  have HX := hidOf hx
  obtain ⟨me, mc, mt⟩ := m
  unfold wtMo at hms
  simp only at hms ⊢
  have HP : Hid (∀ W, Below w.heap.size w W → Calls Tryz.prog 155 #[.slice v.ai v.ni v.ci] W fun e w' => ∃ u, e = .returned u ∧ OwnS W.heap.size w' u (insM x) ∧ Below W.heap.size W w') := fun W hb => l3Ports_any B v.ai v.ni v.ci x.ins W (by have := hb.size; omega) (by omega) (HX.out.below (hb.mono hB)).ins
  have HS : Hid (∀ W, Below w.heap.size w W → Calls Tryz.prog 97 #[v.val x.name] W fun e w' => ∃ u, e = .returned u ∧ OwnS W.heap.size w' u (statesM x) ∧ Below W.heap.size W w') := fun W hb => l3States_any B v x W (by have := hb.size; omega) (by omega) (HX.out.below (hb.mono hB))
  have HN : Hid (∀ W, Below w.heap.size w W → Calls Tryz.prog 33 #[v.val x.name] W fun e w' => ∃ u, e = .returned u ∧ OwnS W.heap.size w' u (namesM x) ∧ Below W.heap.size W w') := fun W hb => l3Names_any B v x W (by have := hb.size; omega) hwt (HX.out.below (hb.mono hB))
  have HFI := hidOf (findOwn_any (insM x) me hil (ins_small p2) (by omega))
  have HFS := hidOf (findOwn_any (statesM x) mt htl (states_small p8) (by omega))
  have HSU := hidOf (sumOwn_any (namesM x) mc (names_len hwt) (names_small hwt) (by omega))
  unfold moveM
  obtain ⟨LI, hLI⟩ : ∃ l, insM x = l := ⟨_, rfl⟩
  obtain ⟨LS, hLS⟩ : ∃ l, statesM x = l := ⟨_, rfl⟩
  obtain ⟨LN, hLN⟩ : ∃ l, namesM x = l := ⟨_, rfl⟩
  rw [hLI] at HP HFI ⊢
  rw [hLS] at HS HFS ⊢
  rw [hLN] at HN HSU ⊢
  simp only
  obtain ⟨I, hI⟩ : ∃ i, findM LI me = i := ⟨_, rfl⟩
  obtain ⟨F, hF⟩ : ∃ i, findM LS mt = i := ⟨_, rfl⟩
  obtain ⟨SK, hSK⟩ : ∃ i, sumOk LN mc = i := ⟨_, rfl⟩
  rw [hI] at HFI ⊢
  rw [hF] at HFS ⊢
  rw [hSK] at HSU ⊢
  clear hI hF hSK hLI hLS hLN hil htl li lt p0 p1 p2 p3 p4 p5 p6 p7 p8 p9 hwt hms hx HX
  obtain ⟨ai, ni, ci, ao, no, co, av, nv, cv, at_, nt, ct⟩ := v
  obtain ⟨xn, xi, xo, xv, xs⟩ := x
  simp only [BkV.val] at HS HN ⊢
  have HB0 : Hid (Below w.heap.size w ((w.alloc (.cells #[.string xn, .slice ai ni ci, .slice ao no co, .slice av nv cv, .slice at_ nt ct] 34)).alloc (.cells #[.string me, .string mc, .string mt] 69))) := below_two (Nat.le_refl _)
  obtain ⟨E, hE⟩ : ∃ E, empB me = E := ⟨_, rfl⟩
  rw [hE]
  obtain ⟨R, hR⟩ : ∃ R, (if E = false ∧ I < 0 then (3 : Int) else if F < 0 then 2 else if SK = true then 0 else 4) = R := ⟨_, rfl⟩
  have HR := hidOf hR
  rw [hR]
  clear hR
  unfold empB at hE
  cases he : me.toList.isEmpty with
  | false =>
    have HE : Hid (E = false) := by show E = false; rw [← hE, he]
    clear hE
    go_enter Tryz.func114, Tryz.ntmps114
    go_wp2_with fail
    go_region_held3 (fun w' => w'.cell? ⟨w.heap.size, 0, none⟩ = some (.string xn) ∧ w'.cell? ⟨w.heap.size, 1, none⟩ = some (.slice ai ni ci) ∧ w'.cell? ⟨w.heap.size, 2, none⟩ = some (.slice ao no co) ∧ w'.cell? ⟨w.heap.size, 3, none⟩ = some (.slice av nv cv) ∧ w'.cell? ⟨w.heap.size, 4, none⟩ = some (.slice at_ nt ct) ∧ w'.cell? ⟨w.heap.size + 1, 0, none⟩ = some (.string me) ∧ w'.cell? ⟨w.heap.size + 1, 1, none⟩ = some (.string mc) ∧ w'.cell? ⟨w.heap.size + 1, 2, none⟩ = some (.string mt)) (simp [go_sem, *])
      (first
       | (go_at_call 155; refine (HP.out _ (by first | exact HB0.out | exact below_drew1 HB0.out)).mono ?_; rintro e w1 ⟨u1, rfl, o1, b1⟩; obtain ⟨a1, c1, e1, _⟩ := o1.form; subst e1; have HB1 : Hid (Below w.heap.size w w1) := HB0.out.trans ((undrew b1).mono HB0.out.size); have hs1 : w.heap.size + 1 < w1.heap.size := (by have := b1.size; simp at this; omega); have ht1 : w.heap.size < w1.heap.size := (by omega); have HO1 := hidOf o1; obtain ⟨hc1, hf1⟩ := bcell (undrew b1); clear o1 b1 hf1)
       | (go_at_call 34; refine (HFI.out _ _ _ _ _ HO1.out).mono ?_; rintro e w2 ⟨rfl, rfl⟩))
    by_cases hI0 : I < 0
    · go_wp2_with fail
      go_ret
      exact ⟨ret_int (by rw [← HR.out, if_pos ⟨HE.out, by omega⟩]), HB1.out⟩
    go_wp2_with fail
    go_region_held3 (fun w' => w'.cell? ⟨w.heap.size, 0, none⟩ = some (.string xn) ∧ w'.cell? ⟨w.heap.size, 1, none⟩ = some (.slice ai ni ci) ∧ w'.cell? ⟨w.heap.size, 2, none⟩ = some (.slice ao no co) ∧ w'.cell? ⟨w.heap.size, 3, none⟩ = some (.slice av nv cv) ∧ w'.cell? ⟨w.heap.size, 4, none⟩ = some (.slice at_ nt ct) ∧ w'.cell? ⟨w.heap.size + 1, 0, none⟩ = some (.string me) ∧ w'.cell? ⟨w.heap.size + 1, 1, none⟩ = some (.string mc) ∧ w'.cell? ⟨w.heap.size + 1, 2, none⟩ = some (.string mt)) (simp [go_sem, *])
      (first
       | (go_at_call 97; refine (HS.out _ (by first | exact HB1.out | exact below_drew1 HB1.out)).mono ?_; rintro e w3 ⟨u3, rfl, o3, b3⟩; obtain ⟨a3, c3, e3, _⟩ := o3.form; subst e3; have HB3 : Hid (Below w.heap.size w w3) := HB1.out.trans ((undrew b3).mono HB1.out.size); have hs3 : w.heap.size + 1 < w3.heap.size := (by have := b3.size; simp at this; omega); have ht3 : w.heap.size < w3.heap.size := (by omega); have HO3 := hidOf o3; obtain ⟨hc3, hf3⟩ := bcell (undrew b3); clear o3 b3 hf3)
       | (go_at_call 34; refine (HFS.out _ _ _ _ _ HO3.out).mono ?_; rintro e w4 ⟨rfl, rfl⟩))
    by_cases hF0 : F < 0
    · go_wp2_with fail
      go_ret
      exact ⟨ret_int (by rw [← HR.out, if_neg (fun h => by have := h.2; omega), if_pos (by omega)]), HB3.out⟩
    go_wp2_with fail
    go_region_held3 (fun w' => w'.cell? ⟨w.heap.size, 0, none⟩ = some (.string xn) ∧ w'.cell? ⟨w.heap.size, 1, none⟩ = some (.slice ai ni ci) ∧ w'.cell? ⟨w.heap.size, 2, none⟩ = some (.slice ao no co) ∧ w'.cell? ⟨w.heap.size, 3, none⟩ = some (.slice av nv cv) ∧ w'.cell? ⟨w.heap.size, 4, none⟩ = some (.slice at_ nt ct) ∧ w'.cell? ⟨w.heap.size + 1, 0, none⟩ = some (.string me) ∧ w'.cell? ⟨w.heap.size + 1, 1, none⟩ = some (.string mc) ∧ w'.cell? ⟨w.heap.size + 1, 2, none⟩ = some (.string mt)) (simp [go_sem, *])
      (first
       | (go_at_call 33; refine (HN.out _ (by first | exact HB3.out | exact below_drew1 HB3.out)).mono ?_; rintro e w5 ⟨u5, rfl, o5, b5⟩; obtain ⟨a5, c5, e5, _⟩ := o5.form; subst e5; have HB5 : Hid (Below w.heap.size w w5) := HB3.out.trans ((undrew b5).mono HB3.out.size); have hs5 : w.heap.size + 1 < w5.heap.size := (by have := b5.size; simp at this; omega); have ht5 : w.heap.size < w5.heap.size := (by omega); have HO5 := hidOf o5; obtain ⟨hc5, hf5⟩ := bcell (undrew b5); clear o5 b5 hf5)
       | (go_at_call 157; refine (HSU.out _ _ _ _ _ HO5.out).mono ?_; rintro e w6 ⟨rfl, b6⟩; have HB6 : Hid (Below w.heap.size w w6) := HB5.out.trans (b6.mono HB5.out.size); obtain ⟨hc6, hf6⟩ := bcell b6; clear b6 hf6))
    cases SK with
    | false =>
      go_wp2_with fail
      go_ret
      exact ⟨ret_int (by rw [← HR.out, if_neg (fun h => by have := h.2; omega), if_neg (by omega)]; simp), HB6.out⟩
    | true =>
      go_wp2_with fail
      go_ret
      exact ⟨ret_int (by rw [← HR.out, if_neg (fun h => by have := h.2; omega), if_neg (by omega)]; simp), HB6.out⟩
  | true =>
    have HE : Hid (E = true) := by show E = true; rw [← hE, he]
    have HI0 : Hid (¬ (E = false ∧ I < 0)) := fun h => by have := h.1; rw [HE.out] at this; cases this
    clear hE
    have hsz0 : w.heap.size + 1 < ((w.alloc (.cells #[.string xn, .slice ai ni ci, .slice ao no co, .slice av nv cv, .slice at_ nt ct] 34)).alloc (.cells #[.string me, .string mc, .string mt] 69)).heap.size := by simp
    go_enter Tryz.func114, Tryz.ntmps114
    go_wp2_with fail
    go_quiet (fail)
    go_wp2_with fail
    obtain ⟨W1, hW1⟩ : ∃ W1, ((w.alloc (.cells #[.string xn, .slice ai ni ci, .slice ao no co, .slice av nv cv, .slice at_ nt ct] 34)).alloc (.cells #[.string me, .string mc, .string mt] 69)).drewN nq = W1 := ⟨_, rfl⟩
    have HBq : Hid (Below w.heap.size w W1) := by rw [← hW1]; exact drewN HB0.out nq
    have hq1 : w.heap.size + 1 < W1.heap.size := by rw [← hW1]; simp [World.drewN]
    have hq2 : w.heap.size < W1.heap.size := by omega
    have k0 : W1.cell? ⟨w.heap.size, 0, none⟩ = some (.string xn) := by rw [← hW1]; simp [go_sem]
    have k1 : W1.cell? ⟨w.heap.size, 1, none⟩ = some (.slice ai ni ci) := by rw [← hW1]; simp [go_sem]
    have k2 : W1.cell? ⟨w.heap.size, 2, none⟩ = some (.slice ao no co) := by rw [← hW1]; simp [go_sem]
    have k3 : W1.cell? ⟨w.heap.size, 3, none⟩ = some (.slice av nv cv) := by rw [← hW1]; simp [go_sem]
    have k4 : W1.cell? ⟨w.heap.size, 4, none⟩ = some (.slice at_ nt ct) := by rw [← hW1]; simp [go_sem]
    have k5 : W1.cell? ⟨w.heap.size + 1, 0, none⟩ = some (.string me) := by rw [← hW1]; simp [go_sem]
    have k6 : W1.cell? ⟨w.heap.size + 1, 1, none⟩ = some (.string mc) := by rw [← hW1]; simp [go_sem]
    have k7 : W1.cell? ⟨w.heap.size + 1, 2, none⟩ = some (.string mt) := by rw [← hW1]; simp [go_sem]
    rw [hW1]
    clear hW1 hsz0 HB0
    go_region_held3 (fun w' => w'.cell? ⟨w.heap.size, 0, none⟩ = some (.string xn) ∧ w'.cell? ⟨w.heap.size, 1, none⟩ = some (.slice ai ni ci) ∧ w'.cell? ⟨w.heap.size, 2, none⟩ = some (.slice ao no co) ∧ w'.cell? ⟨w.heap.size, 3, none⟩ = some (.slice av nv cv) ∧ w'.cell? ⟨w.heap.size, 4, none⟩ = some (.slice at_ nt ct) ∧ w'.cell? ⟨w.heap.size + 1, 0, none⟩ = some (.string me) ∧ w'.cell? ⟨w.heap.size + 1, 1, none⟩ = some (.string mc) ∧ w'.cell? ⟨w.heap.size + 1, 2, none⟩ = some (.string mt)) (simp [go_sem, *])
      (first
       | (go_at_call 97; refine (HS.out _ (by first | exact HBq.out | exact below_drew1 HBq.out)).mono ?_; rintro e w3 ⟨u3, rfl, o3, b3⟩; obtain ⟨a3, c3, e3, _⟩ := o3.form; subst e3; have HB3 : Hid (Below w.heap.size w w3) := HBq.out.trans ((undrew b3).mono HBq.out.size); have hs3 : w.heap.size + 1 < w3.heap.size := (by have := b3.size; simp at this; omega); have ht3 : w.heap.size < w3.heap.size := (by omega); have HO3 := hidOf o3; obtain ⟨hc3, hf3⟩ := bcell (undrew b3); clear o3 b3 hf3)
       | (go_at_call 34; refine (HFS.out _ _ _ _ _ HO3.out).mono ?_; rintro e w4 ⟨rfl, rfl⟩))
    by_cases hF0 : F < 0
    · go_wp2_with fail
      go_ret
      exact ⟨ret_int (by rw [← HR.out, if_neg HI0.out, if_pos (by omega)]), HB3.out⟩
    go_wp2_with fail
    go_region_held3 (fun w' => w'.cell? ⟨w.heap.size, 0, none⟩ = some (.string xn) ∧ w'.cell? ⟨w.heap.size, 1, none⟩ = some (.slice ai ni ci) ∧ w'.cell? ⟨w.heap.size, 2, none⟩ = some (.slice ao no co) ∧ w'.cell? ⟨w.heap.size, 3, none⟩ = some (.slice av nv cv) ∧ w'.cell? ⟨w.heap.size, 4, none⟩ = some (.slice at_ nt ct) ∧ w'.cell? ⟨w.heap.size + 1, 0, none⟩ = some (.string me) ∧ w'.cell? ⟨w.heap.size + 1, 1, none⟩ = some (.string mc) ∧ w'.cell? ⟨w.heap.size + 1, 2, none⟩ = some (.string mt)) (simp [go_sem, *])
      (first
       | (go_at_call 33; refine (HN.out _ (by first | exact HB3.out | exact below_drew1 HB3.out)).mono ?_; rintro e w5 ⟨u5, rfl, o5, b5⟩; obtain ⟨a5, c5, e5, _⟩ := o5.form; subst e5; have HB5 : Hid (Below w.heap.size w w5) := HB3.out.trans ((undrew b5).mono HB3.out.size); have hs5 : w.heap.size + 1 < w5.heap.size := (by have := b5.size; simp at this; omega); have ht5 : w.heap.size < w5.heap.size := (by omega); have HO5 := hidOf o5; obtain ⟨hc5, hf5⟩ := bcell (undrew b5); clear o5 b5 hf5)
       | (go_at_call 157; refine (HSU.out _ _ _ _ _ HO5.out).mono ?_; rintro e w6 ⟨rfl, b6⟩; have HB6 : Hid (Below w.heap.size w w6) := HB5.out.trans (b6.mono HB5.out.size); obtain ⟨hc6, hf6⟩ := bcell b6; clear b6 hf6))
    cases SK with
    | false =>
      go_wp2_with fail
      go_ret
      exact ⟨ret_int (by rw [← HR.out, if_neg HI0.out, if_neg (by omega)]; simp), HB6.out⟩
    | true =>
      go_wp2_with fail
      go_ret
      exact ⟨ret_int (by rw [← HR.out, if_neg HI0.out, if_neg (by omega)]; simp), HB6.out⟩
end Go.Proofs.YtchemhjcknkbgaaGreatDoor
