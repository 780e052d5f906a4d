/- The model's l3Names. -/
import Derived.Test.YtnkeibahaiibpaaGreatDoorBunY34
import Derived.Test.YtnkeibahaiibpaaGreatDoorBunY33
import Derived.Test.YtnkeibahaiibpaaGreatDoorBunY25
namespace Go.Proofs.YtnkeibahaiibpaaGreatDoor
open Go Go.RowKit Go.PlainAid
set_option linter.unusedSimpArgs false
set_option linter.unusedVariables false

theorem wtBk_parts {b : Bk} {N : Nat} (h : wtBk b ≤ N) : b.name.size ≤ N ∧ b.ins.length ≤ N ∧ wsum wtPt b.ins ≤ N ∧ b.outs.length ≤ N ∧ wsum wtPt b.outs ≤ N ∧ b.vars.length ≤ N ∧ wsum wtVr b.vars ≤ N ∧ b.states.length ≤ N ∧ wsum wtSt b.states ≤ N ∧ wsum wtPt b.ins + wsum wtPt b.outs + b.vars.length ≤ N := by
  unfold wtBk at h
  omega
theorem valsM_le (ps : List Pt) : (valsM ps).length ≤ wsum wtPt ps := by
  have := valsM_len ps ps.length (Nat.le_refl _)
  rwa [List.take_length] at this
theorem vars_small {b : Bk} {N : Nat} (h : wsum wtVr b.vars ≤ N) : ∀ y ∈ varsM b, y.size ≤ N := by
  intro y hy
  obtain ⟨v, hv, rfl⟩ := List.mem_map.1 hy
  have := wsum_mem (f := wtVr) hv
  have e : wtVr v = v.name.size := rfl
  omega
theorem OwnS.keep {B : Nat} {v : Value} {l : List ByteArray} {w w' : World} (h : OwnS B w v l) (hb : Below w.heap.size w w') : OwnS B w' v l := own_of_block h (fun q hq => hb.block q (World.ownsRow.lt h q hq).2)
theorem OwnS.low {B B' : Nat} {v : Value} {l : List ByteArray} {w : World} (h : OwnS B w v l) (hB : B' ≤ B) : OwnS B' w v l := ownsRow_mono h hB

set_option maxHeartbeats 1600000 in
set_option maxRecDepth 100000 in
theorem l3Names_any (B : Nat) (v : BkV) (x : Bk) (w : World) (hB : B ≤ w.heap.size) (hwt : wtBk x ≤ 1048576) (hx : IsBk B w v x) :
    Calls Tryz.prog 59 #[v.val x.name] w fun e w' => ∃ u, e = .returned u ∧ OwnS w.heap.size w' u (namesM x) ∧ Below w.heap.size w w' := by
  obtain ⟨p0, p1, p2, p3, p4, p5, p6, p7, p8, p9⟩ := wtBk_parts hwt
  have li := hx.ins.1
  have lo := hx.outs.1
  have lv := hx.vars.1
  have HX := hidOf hx
  have hvi := valsM_le x.ins
  have hvo := valsM_le x.outs
  have hsi := valsM_small p2
  have hso := valsM_small p4
  have hsv := vars_small p6
  have hvl : (varsM x).length = x.vars.length := by simp [varsM]
  have HI : Hid (∀ W, Below w.heap.size w W → Calls Tryz.prog 111 #[.slice v.ai v.ni v.ci] W fun e w' => ∃ u, e = .returned u ∧ OwnS W.heap.size w' u (valsM x.ins) ∧ Below W.heap.size W w') := fun W hb => l3Vals_any B v.ai v.ni v.ci x.ins W (by have := hb.size; omega) (by omega) p2 (HX.out.below (hb.mono hB)).ins
  have HO : Hid (∀ W, Below w.heap.size w W → Calls Tryz.prog 111 #[.slice v.ao v.no v.co] W fun e w' => ∃ u, e = .returned u ∧ OwnS W.heap.size w' u (valsM x.outs) ∧ Below W.heap.size W w') := fun W hb => l3Vals_any B v.ao v.no v.co x.outs W (by have := hb.size; omega) (by omega) p4 (HX.out.below (hb.mono hB)).outs
  have HV : Hid (∀ W, Below w.heap.size w W → Calls Tryz.prog 112 #[v.val x.name] W fun e w' => ∃ u, e = .returned u ∧ OwnS W.heap.size w' u (varsM x) ∧ Below W.heap.size W w') := fun W hb => l3Vars_any B v x W (by have := hb.size; omega) (by omega) (HX.out.below (hb.mono hB))
  have HAD1 : Hid (∀ W u1 u2 B1 B2, B1 ≤ W.heap.size → OwnS B1 W u1 (valsM x.ins) → OwnS B2 W u2 (valsM x.outs) → (∀ q, u2.ownBlock = some q → some q ≠ u1.ownBlock) → ∀ a2 n2 c2, u2 = .slice a2 n2 c2 → Calls Tryz.prog 110 #[u1, .slice a2 n2 c2] W fun e w' => ∃ v', e = .returned v' ∧ OwnS B1 w' v' (addM (valsM x.ins) (valsM x.outs)) ∧ Gr u1 W w' v') := by
    intro W u1 u2 B1 B2 hB1 h1 h2 hne a2 n2 c2 e2
    obtain ⟨a, c, e, hc, hz, hown⟩ := h2.form
    rw [e2] at e
    cases e
    exact l3Add_any B1 u1 (valsM x.ins) a2 _ c2 (valsM x.outs) W hB1 h1 hz (fun q o eq _ => hne q (hown q o eq)) (by omega) hsi hso
  have HAD2 : Hid (∀ W u1 u2 B1 B2, B1 ≤ W.heap.size → OwnS B1 W u1 (addM (valsM x.ins) (valsM x.outs)) → OwnS B2 W u2 (varsM x) → (∀ q, u2.ownBlock = some q → some q ≠ u1.ownBlock) → ∀ a2 n2 c2, u2 = .slice a2 n2 c2 → Calls Tryz.prog 110 #[u1, .slice a2 n2 c2] W fun e w' => ∃ v', e = .returned v' ∧ OwnS B1 w' v' (namesM x) ∧ Gr u1 W w' v') := by
    intro W u1 u2 B1 B2 hB1 h1 h2 hne a2 n2 c2 e2
    obtain ⟨a, c, e, hc, hz, hown⟩ := h2.form
    rw [e2] at e
    cases e
    have hl := addM_len (valsM x.ins) (valsM x.outs)
    refine l3Add_any B1 u1 (addM (valsM x.ins) (valsM x.outs)) a2 _ c2 (varsM x) W hB1 h1 hz (fun q o eq _ => hne q (hown q o eq)) (by omega) (fun y hy => ?_) hsv
    rcases mem_addM.1 hy with h | h
    · exact hsi y h
    · exact hso y h
  obtain ⟨VI, hVI⟩ : ∃ l, valsM x.ins = l := ⟨_, rfl⟩
  obtain ⟨VO, hVO⟩ : ∃ l, valsM x.outs = l := ⟨_, rfl⟩
  obtain ⟨VV, hVV⟩ : ∃ l, varsM x = l := ⟨_, rfl⟩
  obtain ⟨NM, hNM⟩ : ∃ l, namesM x = l := ⟨_, rfl⟩
  rw [hVI, hVO] at HAD1
  rw [hVI, hVO, hVV, hNM] at HAD2
  rw [hVI] at HI
  rw [hVO] at HO
  rw [hVV] at HV
  rw [hNM]
  clear hVI hVO hVV hNM hsi hso hsv hvi hvo hvl li lo lv p0 p1 p2 p3 p4 p5 p6 p7 p8 p9 hwt hx HX
  obtain ⟨ai, ni, ci, ao, no, co, av, nv, cv, at_, nt, ct⟩ := v
  obtain ⟨xn, xi, xo, xv, xs⟩ := x
  simp only [BkV.val] at HV ⊢
  have hb0 : Below w.heap.size w (w.alloc (.cells #[.string xn, .slice ai ni ci, .slice ao no co, .slice av nv cv, .slice at_ nt ct] 33)) := (Below.refl _ _).alloc (Nat.le_refl _) _
  have HB0 := hidOf hb0
  clear hb0
  go_enter Tryz.func59, Tryz.ntmps59
  go_wp2_with fail
  go_region_held3 (fun w' => w'.cell? ⟨w.heap.size, 0, none⟩ = some (.string xn) ∧ w'.cell? ⟨w.heap.size, 1, none⟩ = some (.slice ai ni ci) ∧ w'.cell? ⟨w.heap.size, 2, none⟩ = some (.slice ao no co) ∧ w'.cell? ⟨w.heap.size, 3, none⟩ = some (.slice av nv cv) ∧ w'.cell? ⟨w.heap.size, 4, none⟩ = some (.slice at_ nt ct)) (simp [go_sem, *])
    (first
     | (go_at_call_of 111 ai; refine (HI.out _ (by first | exact HB0.out | exact below_drew1 HB0.out)).mono ?_; rintro e w1 ⟨u1, rfl, o1, b1⟩; have hB1 := HB0.out.trans ((undrew b1).mono HB0.out.size); have HB1 := hidOf hB1; have hs1 : w.heap.size < w1.heap.size := (by have := b1.size; simp at this; omega); have HO1 : Hid (OwnS (w.heap.size + 1) w1 u1 VI) := (by show OwnS _ _ _ _; simpa using o1); obtain ⟨hc1, hf1⟩ := bcell (undrew b1); clear o1 b1 hB1 hf1)
     | (go_at_call_of 111 ao; refine (HO.out _ HB1.out).mono ?_; rintro e w2 ⟨u2, rfl, o2, b2⟩; obtain ⟨a2, c2, e2, _⟩ := o2.form; subst e2; have hB2 := HB1.out.trans (b2.mono HB1.out.size); have HB2 := hidOf hB2; have hs2 : w.heap.size < w2.heap.size := (by have := b2.size; omega); have HO2 := hidOf o2; have HO12 := hidOf (HO1.out.keep b2); have HLT1 : Hid (∀ q, u1.ownBlock = some q → q < w1.heap.size) := (fun q hq => (World.ownsRow.lt HO1.out q hq).2); obtain ⟨hc2, hf2⟩ := bcell b2; clear o2 b2 hB2 hf2)
     | (go_at_call_of 110 a2; refine (HAD1.out _ u1 _ (w.heap.size + 1) w1.heap.size (by omega) HO12.out HO2.out (fun q hq e => by have h1 := (World.ownsRow.lt HO2.out q hq).1; have h2 := HLT1.out q e.symm; omega) a2 _ c2 rfl).mono ?_; rintro e w3 ⟨u3, rfl, o3, g3⟩; have hc3 : ∀ o, w3.cell? ⟨w.heap.size, o, none⟩ = w2.cell? ⟨w.heap.size, o, none⟩ := (fun o => World.cell?_of_block (g3.block w.heap.size hs2 (fun e => by have := (World.ownsRow.lt HO12.out w.heap.size e.symm).1; omega))); have HB3 : Hid (Below w.heap.size w w3) := HB2.out.trans (g3.below (by omega) (fun k hk => by have := (World.ownsRow.lt HO12.out k hk).1; omega)); have hs3 : w.heap.size < w3.heap.size := (by have := g3.size; omega); have HO3 := hidOf o3; clear o3 g3)
     | (go_at_call 112; refine (HV.out _ HB3.out).mono ?_; rintro e w4 ⟨u4, rfl, o4, b4⟩; obtain ⟨a4, c4, e4, _⟩ := o4.form; subst e4; have HB4 : Hid (Below w.heap.size w w4) := HB3.out.trans (b4.mono HB3.out.size); have hs4 : w.heap.size < w4.heap.size := (by have := b4.size; omega); have HO4 := hidOf o4; have HO34 := hidOf (HO3.out.keep b4); have HLT3 : Hid (∀ q, u3.ownBlock = some q → q < w3.heap.size) := (fun q hq => (World.ownsRow.lt HO3.out q hq).2); obtain ⟨hc4, hf4⟩ := bcell b4; clear o4 b4 hf4)
     | (go_at_call_of 110 a4; refine (HAD2.out _ u3 _ (w.heap.size + 1) w3.heap.size (by omega) HO34.out HO4.out (fun q hq e => by have h1 := (World.ownsRow.lt HO4.out q hq).1; have h2 := HLT3.out q e.symm; omega) a4 _ c4 rfl).mono ?_; rintro e w5 ⟨u5, rfl, o5, g5⟩; have hc5 : ∀ o, w5.cell? ⟨w.heap.size, o, none⟩ = w4.cell? ⟨w.heap.size, o, none⟩ := (fun o => World.cell?_of_block (g5.block w.heap.size hs4 (fun e => by have := (World.ownsRow.lt HO34.out w.heap.size e.symm).1; omega))); have HB5 : Hid (Below w.heap.size w w5) := HB4.out.trans (g5.below (by omega) (fun k hk => by have := (World.ownsRow.lt HO34.out k hk).1; omega)); have HO5 := hidOf o5; clear o5 g5))
  all_goals
    go_wp2_with fail
    go_ret
    exact ⟨_, rfl, HO5.out.low (by omega), HB5.out⟩
end Go.Proofs.YtnkeibahaiibpaaGreatDoor

/- The model's l3Sum: whether a text is a sum as it is written, of these names alone. -/
namespace Go.Proofs.YtnkeibahaiibpaaGreatDoor
open Go Go.RowKit Go.PlainAid
set_option linter.unusedSimpArgs false
set_option linter.unusedVariables false

theorem OwnNd.nds' {B : Nat} {w : World} {v : Value} {l : List Nd} (h : OwnNd B w v l) : ∃ a c, v = .slice a l.length c ∧ IsNds w.heap.size w a l.length l := by
  have h0 := h
  obtain ⟨h1, h2⟩ := h
  rcases h2 with ⟨hv, hn⟩ | ⟨g, cap, cur, hv, h3, h4, h5⟩
  · exact ⟨none, 0, by rw [hv, hn], rfl, .inl hn⟩
  · subst hv
    refine ⟨_, cap, rfl, rfl, .inr ⟨g, 0, rfl, (World.ownsRow.lt h0 g rfl).2, fun i hi => ?_⟩⟩
    obtain ⟨e1, e2, e3⟩ := ndCells_at l i hi
    rw [Nat.zero_add]
    exact ⟨(World.ownsRow.cellAt h0 (i * 3) (by omega)).trans e1, (World.ownsRow.cellAt h0 (i * 3 + 1) (by omega)).trans e2, (World.ownsRow.cellAt h0 (i * 3 + 1 + 1) (by omega)).trans e3⟩
theorem sum_read {s : ByteArray} {l : List Nd} (h : getM s = some l) (hp : putM l = s) : Summy l := by
  refine ⟨s, ?_⟩
  unfold exprM
  rw [h]
  simp only
  rw [if_neg]
  intro he
  have hn := (putM_empty l).1 he
  rw [putM_sumM, hn] at hp
  simp only at hp
  rw [← hp, getM_no] at h
  cases h

set_option maxHeartbeats 1600000 in
set_option maxRecDepth 100000 in
theorem l3Sum_any (B : Nat) (a : Option Addr) (n c : Nat) (names : List ByteArray) (s : ByteArray) (w : World) (hB : B ≤ w.heap.size) (hn : n ≤ 1048576) (hls : ∀ y ∈ names, y.size ≤ 1048576) (hs : s.size ≤ 1048576) (hz : IsStrs B w a n names) :
    Calls Tryz.prog 183 #[.slice a n c, .string s] w fun e w' => e = .returned (.bool (sumOk names s)) ∧ Below w.heap.size w w' := by
  have HZ := hidOf hz
  have HG := hidOf (l1Get_any s w hs)
  have HLS := hidOf hls
  obtain ⟨D, hD⟩ : ∃ D, sumOk names s = D := ⟨_, rfl⟩
  have HD := hidOf hD
  rw [hD]
  clear hz hD hls
  cases hg : getM s with
  | none =>
    have hDf : D = false := by rw [← HD.out]; unfold sumOk; rw [hg]
    subst hDf
    go_enter Tryz.func183, Tryz.ntmps183
    go_wp2_with fail
    refine HG.out.mono ?_
    rintro e w1 ⟨v, b, rfl, h1, _, hb1⟩
    obtain ⟨rfl, rfl⟩ := h1 hg
    go_wp2_with fail
    go_ret
    exact ⟨rfl, hb1⟩
  | some l =>
    have hl24 := getM_len hg
    have hnm := getM_names hg
    have HPS : Hid (putM l = s → Summy l) := fun h => sum_read hg h
    have hDv : D = (decide (putM l = s) && (codeM names l).isSome) := by rw [← HD.out]; unfold sumOk; rw [hg]
    have HDV := hidOf hDv
    have HG2 : Hid (Calls Tryz.prog 195 #[.string s] w fun e w' => ∃ a1 c1, e = .returned (.tuple #[.slice a1 l.length c1, .bool true]) ∧ IsNds w'.heap.size w' a1 l.length l ∧ Below w.heap.size w w') := by
      refine HG.out.mono ?_
      rintro e w1 ⟨v, b, rfl, _, h2, hb1⟩
      obtain ⟨rfl, ho⟩ := h2 l hg
      obtain ⟨a1, c1, rfl, hi⟩ := ho.nds'
      exact ⟨a1, c1, rfl, hi, hb1⟩
    obtain ⟨m, hm⟩ : ∃ m, l.length = m := ⟨_, rfl⟩
    rw [hm] at HG2 hl24
    have HSM : Hid (∀ x ∈ l, x.2.2.size ≤ 1048576) := fun x hx => by have := hnm x hx; omega
    clear hg hDv HG hnm hm
    go_enter Tryz.func183, Tryz.ntmps183
    go_wp2_with fail
    refine HG2.out.mono ?_
    rintro e w1 ⟨a1, c1, rfl, hi1, hb1⟩
    have HI1 := hidOf hi1
    have HB1 := hidOf hb1
    have hs1 := hb1.size
    have HZ1 := hidOf (HZ.out.below (hb1.mono hB))
    have HP := hidOf (l1Put_any w1.heap.size a1 m c1 l w1 (by omega) (Nat.le_refl _) HSM.out hi1)
    obtain ⟨P, hP⟩ : ∃ P, putM l = P := ⟨_, rfl⟩
    rw [hP] at HP HPS HDV
    clear hi1 hb1 hP HG2
    by_cases hps : P = s
    · subst hps
      have HSU := hidOf (HPS.out rfl)
      rw [show decide (P = P) = true by simp, Bool.true_and] at HDV
      go_wp2_with (go_at_call 204; refine HP.out.mono ?_; rintro e w2 ⟨rfl, hb2⟩; have HB2 : Hid (Below w1.heap.size w1 w2) := hb2; clear hb2)
      have hi2 := (HI1.out.below HB2.out).mono HB2.out.size
      have hz2 := (HZ1.out.below (HB2.out.mono (by omega))).mono (show B ≤ w2.heap.size by have := HB2.out.size; omega)
      have HL2 := hidOf (l2Of_any w2.heap.size a1 m c1 l a n c names w2 (Nat.le_refl _) HSU.out hi2 hz2 hn HLS.out)
      have HBF : Hid (Below w.heap.size w w2) := HB1.out.trans (HB2.out.mono hs1)
      clear hi2 hz2
      cases hc : codeM names l with
      | none =>
        rw [hc] at HL2 HDV
        have hDf : D = false := HDV.out
        subst hDf
        refine HL2.out.mono ?_
        rintro e w3 ⟨rfl, hb3⟩
        go_wp2_with fail
        go_ret
        exact ⟨rfl, HBF.out.trans (hb3.mono HBF.out.size)⟩
      | some st =>
        rw [hc] at HL2 HDV
        have hDt : D = true := HDV.out
        subst hDt
        refine HL2.out.mono ?_
        rintro e w3 ⟨⟨v', rfl, _⟩, hb3⟩
        go_wp2_with fail
        go_ret
        exact ⟨rfl, HBF.out.trans (hb3.mono HBF.out.size)⟩
    · have hne := list_ne hps
      have hDf : D = false := by rw [HDV.out]; simp [hps]
      subst hDf
      clear hps
      go_wp2_with (go_at_call 204; refine HP.out.mono ?_; rintro e w2 ⟨rfl, hb2⟩; have HB2 : Hid (Below w1.heap.size w1 w2) := hb2; clear hb2)
      go_ret
      exact ⟨rfl, HB1.out.trans (HB2.out.mono hs1)⟩
end Go.Proofs.YtnkeibahaiibpaaGreatDoor

/- The program's areNames, and small functions beside it. -/
namespace Go.Proofs.YtnkeibahaiibpaaGreatDoor
open Go Go.RowKit Go.PlainAid
set_option linter.unusedSimpArgs false
set_option linter.unusedVariables false

theorem codeIf_any (b : Bool) (n : Int) (w : World) : Calls Tryz.prog 48 #[.bool b, .int .i64 n] w fun e w' => e = .returned (.int .i64 (if b then n else 0)) ∧ w' = w := by
  cases b
  all_goals
    go_enter Tryz.func48, Tryz.ntmps48
    go_wp2
    go_ret
    exact ⟨rfl, rfl⟩

set_option maxHeartbeats 800000 in
theorem containsS_any (B : Nat) (a : Option Addr) (n c : Nat) (l : List ByteArray) (x : ByteArray) (w : World) (hn : n ≤ 1048576) (hz : IsStrs B w a n l) :
    Calls Tryz.prog 154 #[.slice a n c, .string x] w fun e w' => e = .returned (.bool (decide (0 ≤ findM l x))) ∧ w' = w := by
  have HI := hidOf (index_any B a n c l x w hn hz)
  obtain ⟨F, hF⟩ : ∃ F, findM l x = F := ⟨_, rfl⟩
  rw [hF] at HI ⊢
  clear hF hz
  go_enter Tryz.func154, Tryz.ntmps154
  go_wp2_with (go_at_call 173; refine HI.out.mono ?_; rintro e w' ⟨rfl, hw'⟩; rw [hw']; clear hw' w')
  go_ret
  exact ⟨ret_bool (by simp), rfl⟩

theorem IsStrs.take {B : Nat} {w : World} {a : Option Addr} {n : Nat} {l : List ByteArray} (h : IsStrs B w a n l) {k : Nat} (hk : k ≤ n) : IsStrs B w a k (l.take k) := by
  obtain ⟨h1, h2⟩ := h
  refine ⟨by simp; omega, ?_⟩
  rcases h2 with h2 | ⟨b, off, rfl, hlt, hc⟩
  · exact .inl (by omega)
  · exact .inr ⟨b, off, rfl, hlt, fun i hi => by simp at hi; rw [List.getElem_take]; exact hc i (by omega)⟩

set_option maxHeartbeats 1600000 in
set_option maxRecDepth 100000 in
theorem areNames_any (B : Nat) (a : Option Addr) (n c : Nat) (l : List ByteArray) (w : World) (hB : B ≤ w.heap.size) (hn : n ≤ 1048576) (hnc : n ≤ c) (hcm : c ≤ maxLen) (hs : ∀ y ∈ l, y.size ≤ 1048576) (hz : IsStrs B w a n l) :
    Calls Tryz.prog 94 #[.slice a n c] w fun e w' => e = .returned (.bool (decide (AreNames l))) ∧ Below w.heap.size w w' := by
  have hlen := hz.1
  have HZ := hidOf hz
  have HS := hidOf hs
  obtain ⟨D, hD⟩ : ∃ D, decide (AreNames l) = D := ⟨_, rfl⟩
  have HD := hidOf hD
  rw [hD]
  clear hz hD hs
  unfold maxLen at hcm
  go_enter Tryz.func94, Tryz.ntmps94
  go_wp2_with fail
  go_loopw [7] (fun i wr => ∃ k : Nat, k ≤ n ∧ i = .int .i64 k ∧ Hid (∀ j, (h : j < l.length) → j < k → nmB l[j] = true ∧ findM (l.take j) l[j] < 0) ∧ Below w.heap.size w wr) (fun i _ => n - (intOf i).toNat)
  case atStart => exact ⟨0, Nat.zero_le _, rfl, fun j _ h => absurd h (Nat.not_lt_zero _), Below.refl _ _⟩
  case round =>
    obtain ⟨k, hk, rfl, HK, hbel⟩ := hrel
    by_cases hlt : k < n
    · have HT := hidOf ((HZ.out.below (hbel.mono hB)).take (show k ≤ n by omega))
      rcases HZ.out.2 with h0 | ⟨b, off, rfl, hb, hc⟩
      · omega
      have hbr : b < wr.heap.size := by have := hbel.size; omega
      have c0 := (hbel.cell (p := ⟨b, off + k, none⟩) (by simp; omega)).trans (hc k (by omega))
      have hxs := HS.out (l[k]'(by omega)) (List.getElem_mem _)
      obtain ⟨x, hx⟩ : ∃ x, l[k]'(by omega) = x := ⟨_, rfl⟩
      have HX := hidOf hx
      rw [hx] at c0 hxs
      have HN := hidOf (fun W => implNameOk_any x W (by unfold maxLen; omega))
      have HC := hidOf (containsS_any B (some ⟨b, off, none⟩) k c (l.take k) x wr (by omega) HT.out)
      obtain ⟨F, hF⟩ : ∃ F, nmB x = F := ⟨_, rfl⟩
      have HF := hidOf hF
      obtain ⟨M, hM⟩ : ∃ M, decide (0 ≤ findM (l.take k) x) = M := ⟨_, rfl⟩
      have HM := hidOf hM
      rw [hF] at HN
      rw [hM] at HC
      have q1 : (k : Int) ≤ c := by omega
      have q2 : k ≤ c := by omega
      clear hc hx hF hM HT
      cases F with
      | false =>
        have hDf : D = false := by
          rw [← HD.out]
          apply decide_eq_false
          intro hp
          have := hp.1 x (by rw [← HX.out]; exact List.getElem_mem _)
          rw [HF.out] at this
          cases this
        subst hDf
        go_wp2_with (go_at_call 91; refine (HN.out _).mono ?_; rintro e w' ⟨rfl, hw'⟩; rw [hw']; clear hw' w')
        go_ret
        exact ⟨rfl, hbel⟩
      | true =>
        cases M with
        | true =>
          have hDf : D = false := by
            rw [← HD.out]
            apply decide_eq_false
            intro hp
            have h1 := of_decide_eq_true HM.out
            have h2 : ¬ findM (l.take k) x < 0 := by omega
            rw [findM_neg] at h2
            have h3 : x ∈ l.take k := Classical.byContradiction h2
            obtain ⟨j, hj, e⟩ := List.getElem_of_mem h3
            simp at hj
            rw [List.getElem_take] at e
            have := List.pairwise_iff_getElem.1 hp.2 j k (by omega) (by omega) (by omega)
            exact this (e.trans HX.out.symm)
          subst hDf
          go_wp2_with (first
            | (go_at_call 91; refine (HN.out _).mono ?_; rintro e w' ⟨rfl, hw'⟩; rw [hw']; clear hw' w')
            | (go_at_call 154; refine HC.out.mono ?_; rintro e w' ⟨rfl, hw'⟩; rw [hw']; clear hw' w'))
          go_ret
          exact ⟨rfl, hbel⟩
        | false =>
          have h1 : findM (l.take k) x < 0 := by have := of_decide_eq_false HM.out; omega
          have H1 := hidOf h1
          clear h1
          go_wp2_with (first
            | (go_at_call 91; refine (HN.out _).mono ?_; rintro e w' ⟨rfl, hw'⟩; rw [hw']; clear hw' w')
            | (go_at_call 154; refine HC.out.mono ?_; rintro e w' ⟨rfl, hw'⟩; rw [hw']; clear hw' w'))
          go_roundw
          case rel =>
            refine ⟨k + 1, by omega, by go_num, fun j hj hjk => ?_, hbel⟩
            by_cases e : j = k
            · subst e; rw [HX.out]; exact ⟨HF.out, H1.out⟩
            · exact HK.out j hj (by omega)
          case measure => simp [intOf]; omega
    · have hDt : D = true := by
        rw [← HD.out]
        apply decide_eq_true
        refine ⟨fun x hx => ?_, List.pairwise_iff_getElem.2 fun p q hp hq hpq e => ?_⟩
        · obtain ⟨j, hj, rfl⟩ := List.getElem_of_mem hx
          exact (HK.out j hj (by omega)).1
        · have h1 := (HK.out q hq (by omega)).2
          rw [findM_neg] at h1
          apply h1
          rw [← e]
          exact List.mem_take_iff_getElem.2 ⟨p, by omega, rfl⟩
      subst hDt
      go_wp2_with fail
      go_ret
      exact ⟨rfl, hbel⟩
end Go.Proofs.YtnkeibahaiibpaaGreatDoor
