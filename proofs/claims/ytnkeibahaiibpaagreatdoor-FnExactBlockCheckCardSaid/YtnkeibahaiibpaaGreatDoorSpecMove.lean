/- The model's l3Move and l3Act: what is wrong with a move, with an act. -/
import Derived.Test.YtnkeibahaiibpaaGreatDoorBunY35
import Derived.Test.YtnkeibahaiibpaaGreatDoorBunY7
namespace Go.Proofs.YtnkeibahaiibpaaGreatDoor
open Go Go.RowKit Go.PlainAid
set_option linter.unusedSimpArgs false
set_option linter.unusedVariables false

theorem below_any {a w w' : World} (h : Below a.heap.size a w) (k : Below w.heap.size w w') : Below a.heap.size a w' := h.trans (k.mono h.size)
theorem below_two {B : Nat} {w : World} {o o' : Obj} (hB : B ≤ w.heap.size) : Below B w ((w.alloc o).alloc o') := ((Below.refl _ _).alloc hB _).alloc (by simp; omega) _
theorem ins_small {x : Bk} {N : Nat} (h : wsum wtPt x.ins ≤ N) : ∀ y ∈ insM x, y.size ≤ N := by
  intro y hy
  obtain ⟨p, hp, rfl⟩ := List.mem_map.1 hy
  have h1 := wsum_mem (f := wtPt) hp
  have h2 : p.name.size ≤ wtPt p := by unfold wtPt; omega
  omega
theorem outs_small {x : Bk} {N : Nat} (h : wsum wtPt x.outs ≤ N) : ∀ y ∈ outsM x, y.size ≤ N := by
  intro y hy
  obtain ⟨p, hp, rfl⟩ := List.mem_map.1 hy
  have h1 := wsum_mem (f := wtPt) hp
  have h2 : p.name.size ≤ wtPt p := by unfold wtPt; omega
  omega
theorem states_small {x : Bk} {N : Nat} (h : wsum wtSt x.states ≤ N) : ∀ y ∈ statesM x, y.size ≤ N := by
  intro y hy
  obtain ⟨p, hp, rfl⟩ := List.mem_map.1 hy
  have h1 := wsum_mem (f := wtSt) hp
  have h2 : p.name.size ≤ wtSt p := by unfold wtSt; omega
  omega
theorem names_small {x : Bk} {N : Nat} (h : wtBk x ≤ N) : ∀ y ∈ namesM x, y.size ≤ N := by
  obtain ⟨p0, p1, p2, p3, p4, p5, p6, p7, p8, p9⟩ := wtBk_parts h
  intro y hy
  unfold namesM at hy
  rcases mem_addM.1 hy with hy | hy
  · rcases mem_addM.1 hy with hy | hy
    · exact valsM_small p2 y hy
    · exact valsM_small p4 y hy
  · exact vars_small p6 y hy
theorem names_len {x : Bk} {N : Nat} (h : wtBk x ≤ N) : (namesM x).length ≤ N := by
  obtain ⟨p0, p1, p2, p3, p4, p5, p6, p7, p8, p9⟩ := wtBk_parts h
  have h1 := addM_len (valsM x.ins) (valsM x.outs)
  have h2 := addM_len (addM (valsM x.ins) (valsM x.outs)) (varsM x)
  have h3 := valsM_le x.ins
  have h4 := valsM_le x.outs
  have h5 : (varsM x).length = x.vars.length := by simp [varsM]
  unfold namesM
  omega
/-- the place of a name in a list of its own -/
theorem findOwn_any (l : List ByteArray) (s : ByteArray) (hl : l.length ≤ 1048576) (hls : ∀ y ∈ l, y.size ≤ 1048576) (hs : s.size ≤ 1048576) (B : Nat) (W : World) (a : Option Addr) (n c : Nat) (h : OwnS B W (.slice a n c) l) :
    Calls Tryz.prog 64 #[.slice a n c, .string s] W fun e w' => e = .returned (.int .i64 (findM l s)) ∧ w' = W := by
  obtain ⟨a', c', e, hc, hz, _⟩ := h.form
  cases e
  exact l1Find_any W.heap.size a _ c l s W hl hs hls hz
theorem sumOwn_any (l : List ByteArray) (s : ByteArray) (hl : l.length ≤ 1048576) (hls : ∀ y ∈ l, y.size ≤ 1048576) (hs : s.size ≤ 1048576) (B : Nat) (W : World) (a : Option Addr) (n c : Nat) (h : OwnS B W (.slice a n c) l) :
    Calls Tryz.prog 183 #[.slice a n c, .string s] W fun e w' => e = .returned (.bool (sumOk l s)) ∧ Below W.heap.size W w' := by
  obtain ⟨a', c', e, hc, hz, _⟩ := h.form
  cases e
  exact l3Sum_any W.heap.size a _ c l s W (Nat.le_refl _) hl hls hs hz

set_option maxHeartbeats 3200000 in
set_option maxRecDepth 100000 in
theorem l3Move_any (B : Nat) (v : BkV) (x : Bk) (m : Mo) (w : World) (hB : B ≤ w.heap.size) (hwt : wtBk x ≤ 1048576) (hms : wtMo m ≤ 1048576) (hx : IsBk B w v x) :
    Calls Tryz.prog 141 #[v.val x.name, .agg #[.string m.event, .string m.cond, .string m.to]] w fun e w' => e = .returned (.int .i64 (moveM x (namesM x) m)) ∧ Below w.heap.size w w' := by
  obtain ⟨p0, p1, p2, p3, p4, p5, p6, p7, p8, p9⟩ := wtBk_parts hwt
  have li := hx.ins.1
  have lt := hx.states.1
  have hil : (insM x).length ≤ 1048576 := by simp [insM]; omega
  have htl : (statesM x).length ≤ 1048576 := by simp [statesM]; omega
  have HX := hidOf hx
  obtain ⟨me, mc, mt⟩ := m
  unfold wtMo at hms
  simp only at hms ⊢
  have HP : Hid (∀ W, Below w.heap.size w W → Calls Tryz.prog 65 #[.slice v.ai v.ni v.ci] W fun e w' => ∃ u, e = .returned u ∧ OwnS W.heap.size w' u (insM x) ∧ Below W.heap.size W w') := fun W hb => l3Ports_any B v.ai v.ni v.ci x.ins W (by have := hb.size; omega) (by omega) (HX.out.below (hb.mono hB)).ins
  have HS : Hid (∀ W, Below w.heap.size w W → Calls Tryz.prog 116 #[v.val x.name] W fun e w' => ∃ u, e = .returned u ∧ OwnS W.heap.size w' u (statesM x) ∧ Below W.heap.size W w') := fun W hb => l3States_any B v x W (by have := hb.size; omega) (by omega) (HX.out.below (hb.mono hB))
  have HN : Hid (∀ W, Below w.heap.size w W → Calls Tryz.prog 59 #[v.val x.name] W fun e w' => ∃ u, e = .returned u ∧ OwnS W.heap.size w' u (namesM x) ∧ Below W.heap.size W w') := fun W hb => l3Names_any B v x W (by have := hb.size; omega) hwt (HX.out.below (hb.mono hB))
  have HFI := hidOf (findOwn_any (insM x) me hil (ins_small p2) (by omega))
  have HFS := hidOf (findOwn_any (statesM x) mt htl (states_small p8) (by omega))
  have HSU := hidOf (sumOwn_any (namesM x) mc (names_len hwt) (names_small hwt) (by omega))
  unfold moveM
  obtain ⟨LI, hLI⟩ : ∃ l, insM x = l := ⟨_, rfl⟩
  obtain ⟨LS, hLS⟩ : ∃ l, statesM x = l := ⟨_, rfl⟩
  obtain ⟨LN, hLN⟩ : ∃ l, namesM x = l := ⟨_, rfl⟩
  rw [hLI] at HP HFI ⊢
  rw [hLS] at HS HFS ⊢
  rw [hLN] at HN HSU ⊢
  simp only
  obtain ⟨I, hI⟩ : ∃ i, findM LI me = i := ⟨_, rfl⟩
  obtain ⟨F, hF⟩ : ∃ i, findM LS mt = i := ⟨_, rfl⟩
  obtain ⟨SK, hSK⟩ : ∃ i, sumOk LN mc = i := ⟨_, rfl⟩
  rw [hI] at HFI ⊢
  rw [hF] at HFS ⊢
  rw [hSK] at HSU ⊢
  clear hI hF hSK hLI hLS hLN hil htl li lt p0 p1 p2 p3 p4 p5 p6 p7 p8 p9 hwt hms hx HX
  obtain ⟨ai, ni, ci, ao, no, co, av, nv, cv, at_, nt, ct⟩ := v
  obtain ⟨xn, xi, xo, xv, xs⟩ := x
  simp only [BkV.val] at HS HN ⊢
  have HB0 : Hid (Below w.heap.size w ((w.alloc (.cells #[.string xn, .slice ai ni ci, .slice ao no co, .slice av nv cv, .slice at_ nt ct] 33)).alloc (.cells #[.string me, .string mc, .string mt] 135))) := below_two (Nat.le_refl _)
  obtain ⟨E, hE⟩ : ∃ E, empB me = E := ⟨_, rfl⟩
  rw [hE]
  obtain ⟨R, hR⟩ : ∃ R, (if E = false ∧ I < 0 then (3 : Int) else if F < 0 then 2 else if SK = true then 0 else 4) = R := ⟨_, rfl⟩
  have HR := hidOf hR
  rw [hR]
  clear hR
  unfold empB at hE
  cases he : me.toList.isEmpty with
  | false =>
    have HE : Hid (E = false) := by show E = false; rw [← hE, he]
    clear hE
    go_enter Tryz.func141, Tryz.ntmps141
    go_wp2_with fail
    go_region_held3 (fun w' => w'.cell? ⟨w.heap.size, 0, none⟩ = some (.string xn) ∧ w'.cell? ⟨w.heap.size, 1, none⟩ = some (.slice ai ni ci) ∧ w'.cell? ⟨w.heap.size, 2, none⟩ = some (.slice ao no co) ∧ w'.cell? ⟨w.heap.size, 3, none⟩ = some (.slice av nv cv) ∧ w'.cell? ⟨w.heap.size, 4, none⟩ = some (.slice at_ nt ct) ∧ w'.cell? ⟨w.heap.size + 1, 0, none⟩ = some (.string me) ∧ w'.cell? ⟨w.heap.size + 1, 1, none⟩ = some (.string mc) ∧ w'.cell? ⟨w.heap.size + 1, 2, none⟩ = some (.string mt)) (simp [go_sem, *])
      (first
       | (go_at_call 65; refine (HP.out _ (by first | exact HB0.out | exact below_drew1 HB0.out)).mono ?_; rintro e w1 ⟨u1, rfl, o1, b1⟩; obtain ⟨a1, c1, e1, _⟩ := o1.form; subst e1; have HB1 : Hid (Below w.heap.size w w1) := HB0.out.trans ((undrew b1).mono HB0.out.size); have hs1 : w.heap.size + 1 < w1.heap.size := (by have := b1.size; simp at this; omega); have ht1 : w.heap.size < w1.heap.size := (by omega); have HO1 := hidOf o1; obtain ⟨hc1, hf1⟩ := bcell (undrew b1); clear o1 b1 hf1)
       | (go_at_call 64; refine (HFI.out _ _ _ _ _ HO1.out).mono ?_; rintro e w2 ⟨rfl, rfl⟩))
    by_cases hI0 : I < 0
    · go_wp2_with fail
      go_ret
      exact ⟨ret_int (by rw [← HR.out, if_pos ⟨HE.out, by omega⟩]), HB1.out⟩
    go_wp2_with fail
    go_region_held3 (fun w' => w'.cell? ⟨w.heap.size, 0, none⟩ = some (.string xn) ∧ w'.cell? ⟨w.heap.size, 1, none⟩ = some (.slice ai ni ci) ∧ w'.cell? ⟨w.heap.size, 2, none⟩ = some (.slice ao no co) ∧ w'.cell? ⟨w.heap.size, 3, none⟩ = some (.slice av nv cv) ∧ w'.cell? ⟨w.heap.size, 4, none⟩ = some (.slice at_ nt ct) ∧ w'.cell? ⟨w.heap.size + 1, 0, none⟩ = some (.string me) ∧ w'.cell? ⟨w.heap.size + 1, 1, none⟩ = some (.string mc) ∧ w'.cell? ⟨w.heap.size + 1, 2, none⟩ = some (.string mt)) (simp [go_sem, *])
      (first
       | (go_at_call 116; refine (HS.out _ (by first | exact HB1.out | exact below_drew1 HB1.out)).mono ?_; rintro e w3 ⟨u3, rfl, o3, b3⟩; obtain ⟨a3, c3, e3, _⟩ := o3.form; subst e3; have HB3 : Hid (Below w.heap.size w w3) := HB1.out.trans ((undrew b3).mono HB1.out.size); have hs3 : w.heap.size + 1 < w3.heap.size := (by have := b3.size; simp at this; omega); have ht3 : w.heap.size < w3.heap.size := (by omega); have HO3 := hidOf o3; obtain ⟨hc3, hf3⟩ := bcell (undrew b3); clear o3 b3 hf3)
       | (go_at_call 64; refine (HFS.out _ _ _ _ _ HO3.out).mono ?_; rintro e w4 ⟨rfl, rfl⟩))
    by_cases hF0 : F < 0
    · go_wp2_with fail
      go_ret
      exact ⟨ret_int (by rw [← HR.out, if_neg (fun h => by have := h.2; omega), if_pos (by omega)]), HB3.out⟩
    go_wp2_with fail
    go_region_held3 (fun w' => w'.cell? ⟨w.heap.size, 0, none⟩ = some (.string xn) ∧ w'.cell? ⟨w.heap.size, 1, none⟩ = some (.slice ai ni ci) ∧ w'.cell? ⟨w.heap.size, 2, none⟩ = some (.slice ao no co) ∧ w'.cell? ⟨w.heap.size, 3, none⟩ = some (.slice av nv cv) ∧ w'.cell? ⟨w.heap.size, 4, none⟩ = some (.slice at_ nt ct) ∧ w'.cell? ⟨w.heap.size + 1, 0, none⟩ = some (.string me) ∧ w'.cell? ⟨w.heap.size + 1, 1, none⟩ = some (.string mc) ∧ w'.cell? ⟨w.heap.size + 1, 2, none⟩ = some (.string mt)) (simp [go_sem, *])
      (first
       | (go_at_call 59; refine (HN.out _ (by first | exact HB3.out | exact below_drew1 HB3.out)).mono ?_; rintro e w5 ⟨u5, rfl, o5, b5⟩; obtain ⟨a5, c5, e5, _⟩ := o5.form; subst e5; have HB5 : Hid (Below w.heap.size w w5) := HB3.out.trans ((undrew b5).mono HB3.out.size); have hs5 : w.heap.size + 1 < w5.heap.size := (by have := b5.size; simp at this; omega); have ht5 : w.heap.size < w5.heap.size := (by omega); have HO5 := hidOf o5; obtain ⟨hc5, hf5⟩ := bcell (undrew b5); clear o5 b5 hf5)
       | (go_at_call 183; refine (HSU.out _ _ _ _ _ HO5.out).mono ?_; rintro e w6 ⟨rfl, b6⟩; have HB6 : Hid (Below w.heap.size w w6) := HB5.out.trans (b6.mono HB5.out.size); obtain ⟨hc6, hf6⟩ := bcell b6; clear b6 hf6))
    cases SK with
    | false =>
      go_wp2_with fail
      go_ret
      exact ⟨ret_int (by rw [← HR.out, if_neg (fun h => by have := h.2; omega), if_neg (by omega)]; simp), HB6.out⟩
    | true =>
      go_wp2_with fail
      go_ret
      exact ⟨ret_int (by rw [← HR.out, if_neg (fun h => by have := h.2; omega), if_neg (by omega)]; simp), HB6.out⟩
  | true =>
    have HE : Hid (E = true) := by show E = true; rw [← hE, he]
    have HI0 : Hid (¬ (E = false ∧ I < 0)) := fun h => by have := h.1; rw [HE.out] at this; cases this
    clear hE
    have hsz0 : w.heap.size + 1 < ((w.alloc (.cells #[.string xn, .slice ai ni ci, .slice ao no co, .slice av nv cv, .slice at_ nt ct] 33)).alloc (.cells #[.string me, .string mc, .string mt] 135)).heap.size := by simp
    go_enter Tryz.func141, Tryz.ntmps141
    go_wp2_with fail
    go_quiet (fail)
    go_wp2_with fail
    obtain ⟨W1, hW1⟩ : ∃ W1, ((w.alloc (.cells #[.string xn, .slice ai ni ci, .slice ao no co, .slice av nv cv, .slice at_ nt ct] 33)).alloc (.cells #[.string me, .string mc, .string mt] 135)).drewN nq = W1 := ⟨_, rfl⟩
    have HBq : Hid (Below w.heap.size w W1) := by rw [← hW1]; exact drewN HB0.out nq
    have hq1 : w.heap.size + 1 < W1.heap.size := by rw [← hW1]; simp [World.drewN]
    have hq2 : w.heap.size < W1.heap.size := by omega
    have k0 : W1.cell? ⟨w.heap.size, 0, none⟩ = some (.string xn) := by rw [← hW1]; simp [go_sem]
    have k1 : W1.cell? ⟨w.heap.size, 1, none⟩ = some (.slice ai ni ci) := by rw [← hW1]; simp [go_sem]
    have k2 : W1.cell? ⟨w.heap.size, 2, none⟩ = some (.slice ao no co) := by rw [← hW1]; simp [go_sem]
    have k3 : W1.cell? ⟨w.heap.size, 3, none⟩ = some (.slice av nv cv) := by rw [← hW1]; simp [go_sem]
    have k4 : W1.cell? ⟨w.heap.size, 4, none⟩ = some (.slice at_ nt ct) := by rw [← hW1]; simp [go_sem]
    have k5 : W1.cell? ⟨w.heap.size + 1, 0, none⟩ = some (.string me) := by rw [← hW1]; simp [go_sem]
    have k6 : W1.cell? ⟨w.heap.size + 1, 1, none⟩ = some (.string mc) := by rw [← hW1]; simp [go_sem]
    have k7 : W1.cell? ⟨w.heap.size + 1, 2, none⟩ = some (.string mt) := by rw [← hW1]; simp [go_sem]
    rw [hW1]
    clear hW1 hsz0 HB0
    go_region_held3 (fun w' => w'.cell? ⟨w.heap.size, 0, none⟩ = some (.string xn) ∧ w'.cell? ⟨w.heap.size, 1, none⟩ = some (.slice ai ni ci) ∧ w'.cell? ⟨w.heap.size, 2, none⟩ = some (.slice ao no co) ∧ w'.cell? ⟨w.heap.size, 3, none⟩ = some (.slice av nv cv) ∧ w'.cell? ⟨w.heap.size, 4, none⟩ = some (.slice at_ nt ct) ∧ w'.cell? ⟨w.heap.size + 1, 0, none⟩ = some (.string me) ∧ w'.cell? ⟨w.heap.size + 1, 1, none⟩ = some (.string mc) ∧ w'.cell? ⟨w.heap.size + 1, 2, none⟩ = some (.string mt)) (simp [go_sem, *])
      (first
       | (go_at_call 116; refine (HS.out _ (by first | exact HBq.out | exact below_drew1 HBq.out)).mono ?_; rintro e w3 ⟨u3, rfl, o3, b3⟩; obtain ⟨a3, c3, e3, _⟩ := o3.form; subst e3; have HB3 : Hid (Below w.heap.size w w3) := HBq.out.trans ((undrew b3).mono HBq.out.size); have hs3 : w.heap.size + 1 < w3.heap.size := (by have := b3.size; simp at this; omega); have ht3 : w.heap.size < w3.heap.size := (by omega); have HO3 := hidOf o3; obtain ⟨hc3, hf3⟩ := bcell (undrew b3); clear o3 b3 hf3)
       | (go_at_call 64; refine (HFS.out _ _ _ _ _ HO3.out).mono ?_; rintro e w4 ⟨rfl, rfl⟩))
    by_cases hF0 : F < 0
    · go_wp2_with fail
      go_ret
      exact ⟨ret_int (by rw [← HR.out, if_neg HI0.out, if_pos (by omega)]), HB3.out⟩
    go_wp2_with fail
    go_region_held3 (fun w' => w'.cell? ⟨w.heap.size, 0, none⟩ = some (.string xn) ∧ w'.cell? ⟨w.heap.size, 1, none⟩ = some (.slice ai ni ci) ∧ w'.cell? ⟨w.heap.size, 2, none⟩ = some (.slice ao no co) ∧ w'.cell? ⟨w.heap.size, 3, none⟩ = some (.slice av nv cv) ∧ w'.cell? ⟨w.heap.size, 4, none⟩ = some (.slice at_ nt ct) ∧ w'.cell? ⟨w.heap.size + 1, 0, none⟩ = some (.string me) ∧ w'.cell? ⟨w.heap.size + 1, 1, none⟩ = some (.string mc) ∧ w'.cell? ⟨w.heap.size + 1, 2, none⟩ = some (.string mt)) (simp [go_sem, *])
      (first
       | (go_at_call 59; refine (HN.out _ (by first | exact HB3.out | exact below_drew1 HB3.out)).mono ?_; rintro e w5 ⟨u5, rfl, o5, b5⟩; obtain ⟨a5, c5, e5, _⟩ := o5.form; subst e5; have HB5 : Hid (Below w.heap.size w w5) := HB3.out.trans ((undrew b5).mono HB3.out.size); have hs5 : w.heap.size + 1 < w5.heap.size := (by have := b5.size; simp at this; omega); have ht5 : w.heap.size < w5.heap.size := (by omega); have HO5 := hidOf o5; obtain ⟨hc5, hf5⟩ := bcell (undrew b5); clear o5 b5 hf5)
       | (go_at_call 183; refine (HSU.out _ _ _ _ _ HO5.out).mono ?_; rintro e w6 ⟨rfl, b6⟩; have HB6 : Hid (Below w.heap.size w w6) := HB5.out.trans (b6.mono HB5.out.size); obtain ⟨hc6, hf6⟩ := bcell b6; clear b6 hf6))
    cases SK with
    | false =>
      go_wp2_with fail
      go_ret
      exact ⟨ret_int (by rw [← HR.out, if_neg HI0.out, if_neg (by omega)]; simp), HB6.out⟩
    | true =>
      go_wp2_with fail
      go_ret
      exact ⟨ret_int (by rw [← HR.out, if_neg HI0.out, if_neg (by omega)]; simp), HB6.out⟩
end Go.Proofs.YtnkeibahaiibpaaGreatDoor
