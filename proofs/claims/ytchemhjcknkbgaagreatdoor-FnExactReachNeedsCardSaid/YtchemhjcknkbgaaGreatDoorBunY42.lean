/- Where a port, a state of that name stands; whether ports, and vars, are fine. -/
import Derived.Test.YtchemhjcknkbgaaGreatDoorIdxFunc
import Derived.Test.YtchemhjcknkbgaaGreatDoorBunY34
import Derived.Test.YtchemhjcknkbgaaGreatDoorBunY36
namespace Go.Proofs.YtchemhjcknkbgaaGreatDoor
open Go Go.RowKit Go.PlainAid
set_option linter.unusedSimpArgs false
set_option linter.unusedVariables false

theorem own_cap {B : Nat} {w : World} {a : Option Addr} {n c : Nat} {l : List ByteArray} (h : OwnS B w (.slice a n c) l) : c ≤ maxLen := by
  rcases h.2 with ⟨hv, h0⟩ | ⟨g, cap, cur, hv, _, _, _, hm, _⟩
  · cases hv; unfold maxLen; omega
  · cases hv; exact hm

theorem portAt1_any (y0 nm : ByteArray) (a' : Option Addr) (n' c' : Nat) (g : Nat) (W : World) (hg : g < W.heap.size) (hc : W.cell? ⟨g, 0, none⟩ = some (.string nm)) :
    Calls Tryz.prog 190 #[.agg #[.string y0, .slice a' n' c'], .pointer (some ⟨g, 0, none⟩)] W fun e w' => e = .returned (.bool (decide (y0 = nm))) ∧ Below W.heap.size W w' := by
  by_cases h : y0 = nm
  · subst h
    rw [decide_eq_true rfl]
    go_enter Tryz.func190, Tryz.ntmps190
    go_wp2_with fail
    go_ret
    exact ⟨ret_bool (by simp), by go_grown⟩
  · rw [decide_eq_false h]
    have hne := list_ne h
    clear h
    go_enter Tryz.func190, Tryz.ntmps190
    go_wp2_with fail
    go_ret
    exact ⟨ret_bool (by simp [hne]), by go_grown⟩
set_option maxHeartbeats 800000 in
theorem portAt_any (B : Nat) (a : Option Addr) (n c : Nat) (l : List Pt) (nm : ByteArray) (w : World) (hB : B ≤ w.heap.size) (hn : n ≤ 1048576) (hz : IsArr 2 QPt B w a n l) :
    Calls Tryz.prog 146 #[.slice a n c, .string nm] w fun e w' => e = .returned (.int .i64 (findM (l.map Pt.name) nm)) ∧ Below w.heap.size w w' := by
  have hb0 : Below w.heap.size w (w.alloc (.cells #[.string nm] 9)) := (Below.refl _ _).alloc (Nat.le_refl _) _
  have HI := hidOf (idx_portAt1 B a n c l (fun y => decide (y.name = nm)) (.pointer (some ⟨w.heap.size, 0, none⟩)) (w.alloc (.cells #[.string nm] 9)) (by simp; omega) hn (hz.below (QPt.lift (hb0.mono hB)) (hb0.mono hB))
    (fun W x a' n' c' hb _ _ _ _ => portAt1_any x.name nm a' n' c' w.heap.size W (by have := hb.size; simp at this; omega) ((hb.cell (p := ⟨w.heap.size, 0, none⟩) (by simp)).trans (by simp))))
  rw [idxM_find Pt.name nm l] at HI
  clear hz
  obtain ⟨D, hD⟩ : ∃ D, findM (l.map Pt.name) nm = D := ⟨_, rfl⟩
  rw [hD] at HI ⊢
  clear hD
  go_enter Tryz.func146, Tryz.ntmps146
  go_wp2_with fail
  refine HI.out.mono ?_
  rintro e w1 ⟨rfl, hb1⟩
  have HB1 := hidOf (below_boxed hb1)
  clear hb1
  go_wp2_with fail
  go_ret
  exact ⟨rfl, HB1.out⟩

theorem stateAt1_any (y0 nm : ByteArray) (a' : Option Addr) (n' c' : Nat) (a'' : Option Addr) (n'' c'' : Nat) (g : Nat) (W : World) (hg : g < W.heap.size) (hc : W.cell? ⟨g, 0, none⟩ = some (.string nm)) :
    Calls Tryz.prog 180 #[.agg #[.string y0, .slice a' n' c', .slice a'' n'' c''], .pointer (some ⟨g, 0, none⟩)] W fun e w' => e = .returned (.bool (decide (y0 = nm))) ∧ Below W.heap.size W w' := by
  by_cases h : y0 = nm
  · subst h
    rw [decide_eq_true rfl]
    go_enter Tryz.func180, Tryz.ntmps180
    go_wp2_with fail
    go_ret
    exact ⟨ret_bool (by simp), by go_grown⟩
  · rw [decide_eq_false h]
    have hne := list_ne h
    clear h
    go_enter Tryz.func180, Tryz.ntmps180
    go_wp2_with fail
    go_ret
    exact ⟨ret_bool (by simp [hne]), by go_grown⟩
set_option maxHeartbeats 800000 in
theorem stateAt_any (B : Nat) (a : Option Addr) (n c : Nat) (l : List St) (nm : ByteArray) (w : World) (hB : B ≤ w.heap.size) (hn : n ≤ 1048576) (hz : IsArr 3 QSt B w a n l) :
    Calls Tryz.prog 131 #[.slice a n c, .string nm] w fun e w' => e = .returned (.int .i64 (findM (l.map St.name) nm)) ∧ Below w.heap.size w w' := by
  have hb0 : Below w.heap.size w (w.alloc (.cells #[.string nm] 9)) := (Below.refl _ _).alloc (Nat.le_refl _) _
  have HI := hidOf (idx_stateAt1 B a n c l (fun y => decide (y.name = nm)) (.pointer (some ⟨w.heap.size, 0, none⟩)) (w.alloc (.cells #[.string nm] 9)) (by simp; omega) hn (hz.below (QSt.lift (hb0.mono hB)) (hb0.mono hB))
    (fun W x a' n' c' a'' n'' c'' hb _  => stateAt1_any x.name nm a' n' c' a'' n'' c'' w.heap.size W (by have := hb.size; simp at this; omega) ((hb.cell (p := ⟨w.heap.size, 0, none⟩) (by simp)).trans (by simp))))
  rw [idxM_find St.name nm l] at HI
  clear hz
  obtain ⟨D, hD⟩ : ∃ D, findM (l.map St.name) nm = D := ⟨_, rfl⟩
  rw [hD] at HI ⊢
  clear hD
  go_enter Tryz.func131, Tryz.ntmps131
  go_wp2_with fail
  refine HI.out.mono ?_
  rintro e w1 ⟨rfl, hb1⟩
  have HB1 := hidOf (below_boxed hb1)
  clear hb1
  go_wp2_with fail
  go_ret
  exact ⟨rfl, HB1.out⟩

set_option maxHeartbeats 800000 in
theorem areFinePorts1_any (B : Nat) (x : Pt) (a : Option Addr) (n c : Nat) (W : World) (hB : B ≤ W.heap.size) (hnc : n ≤ c) (hc : c ≤ maxLen) (hw : wtPt x ≤ 1048576) (hz : IsStrs B W a n x.vals) :
    Calls Tryz.prog 168 #[.agg #[.string x.name, .slice a n c]] W fun e w' => e = .returned (.bool (!decide (PortOk x))) ∧ Below W.heap.size W w' := by
  have hl := hz.1
  have hwl : x.vals.length ≤ 1048576 := by unfold wtPt at hw; omega
  have hws : ∀ y ∈ x.vals, y.size ≤ 1048576 := fun y hy => by have := wsum_mem (f := wtS) hy; unfold wtPt at hw; have e : wtS y = y.size := rfl; omega
  have HA : Hid (∀ o, Calls Tryz.prog 124 #[.slice a n c] (W.alloc o) fun e w' => e = .returned (.bool (decide (AreNames x.vals))) ∧ Below (W.alloc o).heap.size (W.alloc o) w') := fun o => areNames_any B a n c x.vals (W.alloc o) (by simp; omega) (by omega) hnc hc hws (hz.below ((Below.refl _ _).alloc hB _))
  obtain ⟨P, hP⟩ : ∃ P, (!decide (PortOk x)) = P := ⟨_, rfl⟩
  have HP := hidOf hP
  rw [hP]
  obtain ⟨N, hN⟩ : ∃ N, decide (AreNames x.vals) = N := ⟨_, rfl⟩
  rw [hN] at HA
  have HN := hidOf hN
  unfold maxLen at hc
  clear hP hN hz hws hw
  obtain ⟨xn, xv⟩ := x
  simp only at hl hwl HA HN ⊢
  by_cases h3 : n ≤ 3
  · go_enter Tryz.func168, Tryz.ntmps168
    go_wp2_with fail
    refine (HA.out _).mono ?_
    rintro e w1 ⟨rfl, hb1⟩
    have HB1 := hidOf (below_boxed hb1)
    clear hb1
    go_wp2_with fail
    go_ret
    refine ⟨ret_bool ?_, HB1.out⟩
    rw [← HP.out]
    cases N with
    | true => rw [decide_eq_true (p := PortOk _) ⟨by simp only; omega, of_decide_eq_true HN.out⟩]; simp <;> omega
    | false => rw [decide_eq_false (p := PortOk _) (fun h => of_decide_eq_false HN.out h.2)]; simp
  · go_enter Tryz.func168, Tryz.ntmps168
    go_wp2_with fail
    go_ret
    refine ⟨ret_bool ?_, by go_grown⟩
    rw [← HP.out, decide_eq_false (p := PortOk _) (fun h => by have := h.1; simp only at this; omega)]
    simp [h3]
set_option maxHeartbeats 1600000 in
set_option maxRecDepth 100000 in
theorem areFinePorts_any (B : Nat) (a : Option Addr) (n c : Nat) (l : List Pt) (w : World) (hB : B ≤ w.heap.size) (hn : n ≤ 1048576) (hw : wsum wtPt l ≤ 1048576) (hz : IsArr 2 QPt B w a n l) :
    Calls Tryz.prog 122 #[.slice a n c] w fun e w' => e = .returned (.bool (decide (PortsOk l))) ∧ Below w.heap.size w w' := by
  have hl := hz.1
  have HZ := hidOf hz
  have HL := hidOf (listOfPort_any B a n c l w hB hn hz)
  have hns : ∀ y ∈ l.map Pt.name, y.size ≤ 1048576 := by
    intro y hy
    obtain ⟨p, hp, rfl⟩ := List.mem_map.1 hy
    have h1 := wsum_mem (f := wtPt) hp
    have h2 : p.name.size ≤ wtPt p := by unfold wtPt; omega
    omega
  have HA : Hid (∀ W B' a n c, OwnS B' W (.slice a n c) (l.map Pt.name) → c ≤ maxLen → Calls Tryz.prog 124 #[.slice a n c] W fun e w' => e = .returned (.bool (decide (AreNames (l.map Pt.name)))) ∧ Below W.heap.size W w') := fun W B' a n c h hcm => by
    obtain ⟨a', c', e, hc, hz', _⟩ := h.form
    cases e
    exact areNames_any W.heap.size a _ c _ W (Nat.le_refl _) (by simp; omega) hc hcm hns hz'
  have HF : Hid (∀ W, Below w.heap.size w W → Calls Tryz.prog 167 #[.slice a n c, .func (Fn.func 168) #[] #[]] W fun e w' => e = .returned (.bool (l.any fun x => !decide (PortOk x))) ∧ Below W.heap.size W w') := fun W hb =>
    has_areFinePorts1 B a n c l (fun x => !decide (PortOk x)) W (by have := hb.size; omega) hn (HZ.out.below (QPt.lift (hb.mono hB)) (hb.mono hB))
      (fun W' x a' n' c' hb' hx h1 h2 h3 => areFinePorts1_any B x a' n' c' W' (by have := hb.size; have := hb'.size; omega) h1 h2 (by have := wsum_mem (f := wtPt) hx; omega) h3)
  obtain ⟨P, hP⟩ : ∃ P, decide (PortsOk l) = P := ⟨_, rfl⟩
  have HP := hidOf hP
  rw [hP]
  obtain ⟨N, hN⟩ : ∃ N, decide (AreNames (l.map Pt.name)) = N := ⟨_, rfl⟩
  obtain ⟨G, hG⟩ : ∃ G, (l.any fun x => !decide (PortOk x)) = G := ⟨_, rfl⟩
  rw [hN] at HA
  rw [hG] at HF
  have HN := hidOf hN
  have HG := hidOf hG
  have HLL := hidOf hl
  obtain ⟨LN, hLN⟩ : ∃ L, l.map Pt.name = L := ⟨_, rfl⟩
  rw [hLN] at HA HL
  clear hP hN hG hz hns hw HZ hl hLN
  by_cases h3 : n ≤ 3
  · go_enter Tryz.func122, Tryz.ntmps122
    go_wp2_with fail
    refine HL.out.mono ?_
    rintro e w1 ⟨u1, rfl, o1, b1⟩
    obtain ⟨a1, c1, e1, _⟩ := o1.form
    subst e1
    have hcm := own_cap o1
    have HB1 := hidOf b1
    have HO1 := hidOf o1
    clear o1 b1
    go_wp2_with fail
    refine (HA.out _ _ _ _ _ HO1.out hcm).mono ?_
    rintro e w2 ⟨rfl, b2⟩
    have HB2 : Hid (Below w.heap.size w w2) := HB1.out.trans (b2.mono HB1.out.size)
    clear b2
    cases N with
    | false =>
      go_wp2_with fail
      go_ret
      exact ⟨ret_bool (by rw [← HP.out]; symm; exact decide_eq_false fun h => of_decide_eq_false HN.out h.2.1), HB2.out⟩
    | true =>
      go_wp2_with fail
      refine (HF.out _ HB2.out).mono ?_
      rintro e w3 ⟨rfl, b3⟩
      have HB3 : Hid (Below w.heap.size w w3) := HB2.out.trans (b3.mono HB2.out.size)
      clear b3
      go_wp2_with fail
      go_ret
      refine ⟨ret_bool ?_, HB3.out⟩
      rw [← HP.out]
      cases G with
      | true =>
        symm
        refine decide_eq_false fun h => ?_
        have := HG.out
        rw [List.any_eq_true] at this
        obtain ⟨x, hx, hp⟩ := this
        simp at hp
        exact hp (h.2.2 x hx)
      | false =>
        symm
        refine decide_eq_true ⟨by have := HLL.out; omega, of_decide_eq_true HN.out, fun x hx => ?_⟩
        have := HG.out
        rw [List.any_eq_false] at this
        simpa using this x hx
  · go_enter Tryz.func122, Tryz.ntmps122
    go_wp2_with fail
    go_ret
    exact ⟨by have : P = false := by rw [← HP.out]; exact decide_eq_false fun h => by have := h.1; have := HLL.out; omega
              simp [this], by go_grown⟩
theorem areFineVars1_any (x : Vr) (W : World) :
    Calls Tryz.prog 170 #[.agg #[.string x.name, .int .i64 x.num]] W fun e w' => e = .returned (.bool (!decide (VarOk x))) ∧ Below W.heap.size W w' := by
  obtain ⟨xn, xm⟩ := x
  simp only
  by_cases h1 : xm < -999999
  · rw [decide_eq_false (p := VarOk _) (fun h => by have := h.1; simp only at this; omega)]
    go_enter Tryz.func170, Tryz.ntmps170
    go_wp2_with fail
    go_ret
    exact ⟨ret_bool (by simp), by go_grown⟩
  · by_cases h2 : xm ≤ 999999
    · rw [decide_eq_true (p := VarOk _) ⟨by simp only; omega, h2⟩]
      have h3 : ¬ 999999 < xm := by omega
      go_enter Tryz.func170, Tryz.ntmps170
      go_wp2_with fail
      go_ret
      exact ⟨ret_bool (by simp <;> omega), by go_grown⟩
    · rw [decide_eq_false (p := VarOk _) (fun h => h2 h.2)]
      have h3 : 999999 < xm := by omega
      go_enter Tryz.func170, Tryz.ntmps170
      go_wp2_with fail
      go_ret
      exact ⟨ret_bool (by simp <;> omega), by go_grown⟩
set_option maxHeartbeats 1600000 in
set_option maxRecDepth 100000 in
theorem areFineVars_any (B : Nat) (a : Option Addr) (n c : Nat) (l : List Vr) (w : World) (hB : B ≤ w.heap.size) (hn : n ≤ 1048576) (hw : wsum wtVr l ≤ 1048576) (hz : IsArr 2 QVr B w a n l) :
    Calls Tryz.prog 123 #[.slice a n c] w fun e w' => e = .returned (.bool (decide (VarsOk l))) ∧ Below w.heap.size w w' := by
  have hl := hz.1
  have HZ := hidOf hz
  have HL := hidOf (listOfVar_any B a n c l w hB hn hz)
  have hns : ∀ y ∈ l.map Vr.name, y.size ≤ 1048576 := by
    intro y hy
    obtain ⟨p, hp, rfl⟩ := List.mem_map.1 hy
    have h1 := wsum_mem (f := wtVr) hp
    have h2 : p.name.size ≤ wtVr p := by unfold wtVr; omega
    omega
  have HA : Hid (∀ W B' a n c, OwnS B' W (.slice a n c) (l.map Vr.name) → c ≤ maxLen → Calls Tryz.prog 124 #[.slice a n c] W fun e w' => e = .returned (.bool (decide (AreNames (l.map Vr.name)))) ∧ Below W.heap.size W w') := fun W B' a n c h hcm => by
    obtain ⟨a', c', e, hc, hz', _⟩ := h.form
    cases e
    exact areNames_any W.heap.size a _ c _ W (Nat.le_refl _) (by simp; omega) hc hcm hns hz'
  have HF : Hid (∀ W, Below w.heap.size w W → Calls Tryz.prog 169 #[.slice a n c, .func (Fn.func 170) #[] #[]] W fun e w' => e = .returned (.bool (l.any fun x => !decide (VarOk x))) ∧ Below W.heap.size W w') := fun W hb =>
    has_areFineVars1 B a n c l (fun x => !decide (VarOk x)) W (by have := hb.size; omega) hn (HZ.out.below (QVr.lift (hb.mono hB)) (hb.mono hB))
      (fun W' x hb' hx => areFineVars1_any x W')
  obtain ⟨P, hP⟩ : ∃ P, decide (VarsOk l) = P := ⟨_, rfl⟩
  have HP := hidOf hP
  rw [hP]
  obtain ⟨N, hN⟩ : ∃ N, decide (AreNames (l.map Vr.name)) = N := ⟨_, rfl⟩
  obtain ⟨G, hG⟩ : ∃ G, (l.any fun x => !decide (VarOk x)) = G := ⟨_, rfl⟩
  rw [hN] at HA
  rw [hG] at HF
  have HN := hidOf hN
  have HG := hidOf hG
  have HLL := hidOf hl
  obtain ⟨LN, hLN⟩ : ∃ L, l.map Vr.name = L := ⟨_, rfl⟩
  rw [hLN] at HA HL
  clear hP hN hG hz hns hw HZ hl hLN
  by_cases h3 : n ≤ 4
  · go_enter Tryz.func123, Tryz.ntmps123
    go_wp2_with fail
    refine HL.out.mono ?_
    rintro e w1 ⟨u1, rfl, o1, b1⟩
    obtain ⟨a1, c1, e1, _⟩ := o1.form
    subst e1
    have hcm := own_cap o1
    have HB1 := hidOf b1
    have HO1 := hidOf o1
    clear o1 b1
    go_wp2_with fail
    refine (HA.out _ _ _ _ _ HO1.out hcm).mono ?_
    rintro e w2 ⟨rfl, b2⟩
    have HB2 : Hid (Below w.heap.size w w2) := HB1.out.trans (b2.mono HB1.out.size)
    clear b2
    cases N with
    | false =>
      go_wp2_with fail
      go_ret
      exact ⟨ret_bool (by rw [← HP.out]; symm; exact decide_eq_false fun h => of_decide_eq_false HN.out h.2.1), HB2.out⟩
    | true =>
      go_wp2_with fail
      refine (HF.out _ HB2.out).mono ?_
      rintro e w3 ⟨rfl, b3⟩
      have HB3 : Hid (Below w.heap.size w w3) := HB2.out.trans (b3.mono HB2.out.size)
      clear b3
      go_wp2_with fail
      go_ret
      refine ⟨ret_bool ?_, HB3.out⟩
      rw [← HP.out]
      cases G with
      | true =>
        symm
        refine decide_eq_false fun h => ?_
        have := HG.out
        rw [List.any_eq_true] at this
        obtain ⟨x, hx, hp⟩ := this
        simp at hp
        exact hp (h.2.2 x hx)
      | false =>
        symm
        refine decide_eq_true ⟨by have := HLL.out; omega, of_decide_eq_true HN.out, fun x hx => ?_⟩
        have := HG.out
        rw [List.any_eq_false] at this
        simpa using this x hx
  · go_enter Tryz.func123, Tryz.ntmps123
    go_wp2_with fail
    go_ret
    exact ⟨by have : P = false := by rw [← HP.out]; exact decide_eq_false fun h => by have := h.1; have := HLL.out; omega
              simp [this], by go_grown⟩
end Go.Proofs.YtchemhjcknkbgaaGreatDoor

/- The program's namesOf: the names of all values of a block. -/
namespace Go.Proofs.YtchemhjcknkbgaaGreatDoor
open Go Go.RowKit Go.PlainAid
set_option linter.unusedSimpArgs false
set_option linter.unusedVariables false

/-- how many values a block has, not too many -/
def FewNames (x : Bk) : Prop := (valsM x.ins).length + (valsM x.outs).length + x.vars.length ≤ 1000
theorem concat_three (B1 B2 B3 : Nat) (l1 l2 l3 : List ByteArray) (w : World) (a1 a2 a3 : Option Addr) (n1 c1 n2 c2 n3 c3 : Nat) (t : TypeId) (o1 : OwnS B1 w (.slice a1 n1 c1) l1) (o2 : OwnS B2 w (.slice a2 n2 c2) l2) (o3 : OwnS B3 w (.slice a3 n3 c3) l3) (hs : l1.length + l2.length + l3.length ≤ 1000) :
    Calls Tryz.prog 84 #[.slice (some ⟨w.heap.size, 0, none⟩) 3 3] (w.alloc (.cells #[.slice a1 n1 c1, .slice a2 n2 c2, .slice a3 n3 c3] t)) fun e w' => ∃ v, e = .returned v ∧ OwnS (w.heap.size + 1) w' v (l1 ++ (l2 ++ l3)) ∧ Below w.heap.size w w' := by
  have hb : Below w.heap.size w (w.alloc (.cells #[.slice a1 n1 c1, .slice a2 n2 c2, .slice a3 n3 c3] t)) := (Below.refl _ _).alloc (Nat.le_refl _) _
  obtain ⟨_, _, e1, _, z1, _⟩ := o1.form
  cases e1
  obtain ⟨_, _, e2, _, z2, _⟩ := o2.form
  cases e2
  obtain ⟨_, _, e3, _, z3, _⟩ := o3.form
  cases e3
  have up : ∀ {a : Option Addr} {n : Nat} {l : List ByteArray}, IsStrs w.heap.size w a n l → IsStrs (w.alloc (.cells #[.slice a1 l1.length c1, .slice a2 l2.length c2, .slice a3 l3.length c3] t)).heap.size (w.alloc (.cells #[.slice a1 l1.length c1, .slice a2 l2.length c2, .slice a3 l3.length c3] t)) a n l := fun h => (h.below hb).mono hb.size
  have := concatS_any w.heap.size 3 3 [l1, l2, l3] (w.alloc (.cells #[.slice a1 l1.length c1, .slice a2 l2.length c2, .slice a3 l3.length c3] t)) (by simp) rfl (by decide) (by simp [lensTo]; omega) (fun k hk => by
    have hk3 : k = 0 ∨ k = 1 ∨ k = 2 := by simp at hk; omega
    rcases hk3 with rfl | rfl | rfl
    · exact ⟨a1, c1, by simp, up z1⟩
    · exact ⟨a2, c2, by simp, up z2⟩
    · exact ⟨a3, c3, by simp, up z3⟩)
  refine this.mono fun e w' ⟨v, h1, h2, h3⟩ => ⟨v, h1, ?_, hb.trans (h3.mono hb.size)⟩
  simpa using h2
set_option maxHeartbeats 3200000 in
set_option maxRecDepth 100000 in
theorem namesOf_any (B : Nat) (v : BkV) (x : Bk) (w : World) (hB : B ≤ w.heap.size) (hwt : wtBk x ≤ 1048576) (hfew : FewNames x) (hx : IsBk B w v x) :
    Calls Tryz.prog 41 #[v.val x.name] w fun e w' => ∃ u, e = .returned u ∧ OwnS w.heap.size w' u (concatM x) ∧ Below w.heap.size w w' := by
  obtain ⟨p0, p1, p2, p3, p4, p5, p6, p7, p8, p9⟩ := wtBk_parts hwt
  have li := hx.ins.1
  have lo := hx.outs.1
  have lv := hx.vars.1
  have HX := hidOf hx
  have HI : Hid (∀ W, Below w.heap.size w W → Calls Tryz.prog 85 #[.slice v.ai v.ni v.ci] W fun e w' => ∃ u, e = .returned u ∧ OwnS W.heap.size w' u (valsM x.ins) ∧ Below W.heap.size W w') := fun W hb => portNames_any B v.ai v.ni v.ci x.ins W (by have := hb.size; omega) (by omega) p2 (HX.out.below (hb.mono hB)).ins
  have HO : Hid (∀ W, Below w.heap.size w W → Calls Tryz.prog 85 #[.slice v.ao v.no v.co] W fun e w' => ∃ u, e = .returned u ∧ OwnS W.heap.size w' u (valsM x.outs) ∧ Below W.heap.size W w') := fun W hb => portNames_any B v.ao v.no v.co x.outs W (by have := hb.size; omega) (by omega) p4 (HX.out.below (hb.mono hB)).outs
  have HV : Hid (∀ W, Below w.heap.size w W → Calls Tryz.prog 86 #[.slice v.av v.nv v.cv, .func (Fn.func 87) #[] #[]] W fun e w' => ∃ u, e = .returned u ∧ OwnS W.heap.size w' u (varsM x) ∧ Below W.heap.size W w') := fun W hb => listOfVar_any B v.av v.nv v.cv x.vars W (by have := hb.size; omega) (by omega) (HX.out.below (hb.mono hB)).vars
  have hvl : (varsM x).length = x.vars.length := by simp [varsM]
  unfold concatM
  unfold FewNames at hfew
  rw [← hvl] at hfew
  obtain ⟨VI, hVI⟩ : ∃ l, valsM x.ins = l := ⟨_, rfl⟩
  obtain ⟨VO, hVO⟩ : ∃ l, valsM x.outs = l := ⟨_, rfl⟩
  obtain ⟨VV, hVV⟩ : ∃ l, varsM x = l := ⟨_, rfl⟩
  rw [hVI] at HI hfew ⊢
  rw [hVO] at HO hfew ⊢
  rw [hVV] at HV hfew ⊢
  have HFEW := hidOf hfew
  clear hVI hVO hVV hvl li lo lv p0 p1 p2 p3 p4 p5 p6 p7 p8 p9 hwt hx HX hfew
  obtain ⟨ai, ni, ci, ao, no, co, av, nv, cv, at_, nt, ct⟩ := v
  obtain ⟨xn, hxn⟩ : ∃ n, x.name = n := ⟨_, rfl⟩
  simp only [BkV.val] at HI HO HV ⊢
  rw [hxn]
  clear hxn
  have HB0 : Hid (Below w.heap.size w (w.alloc (.cells #[.string xn, .slice ai ni ci, .slice ao no co, .slice av nv cv, .slice at_ nt ct] 34))) := (Below.refl _ _).alloc (Nat.le_refl _) _
  go_enter Tryz.func41, Tryz.ntmps41
  go_wp2_with fail
  go_region_held3 (fun w' => w'.cell? ⟨w.heap.size, 1, none⟩ = some (.slice ai ni ci) ∧ w'.cell? ⟨w.heap.size, 2, none⟩ = some (.slice ao no co) ∧ w'.cell? ⟨w.heap.size, 3, none⟩ = some (.slice av nv cv)) (simp [go_sem, *])
    (first
     | (go_at_call_of 85 ai; refine (HI.out _ (by first | exact HB0.out | exact below_drew1 HB0.out)).mono ?_; rintro e w1 ⟨u1, rfl, o1, b1⟩; obtain ⟨a1, c1, e1, _⟩ := o1.form; subst e1; have HB1 : Hid (Below w.heap.size w w1) := HB0.out.trans ((undrew b1).mono HB0.out.size); have hs1 : w.heap.size < w1.heap.size := (by have := b1.size; simp at this; omega); have HO1 := hidOf o1; obtain ⟨hc1, hf1⟩ := bcell (undrew b1); clear o1 b1 hf1)
     | (go_at_call_of 85 ao; refine (HO.out _ HB1.out).mono ?_; rintro e w2 ⟨u2, rfl, o2, b2⟩; obtain ⟨a2, c2, e2, _⟩ := o2.form; subst e2; have HB2 : Hid (Below w.heap.size w w2) := HB1.out.trans (b2.mono HB1.out.size); have hs2 : w.heap.size < w2.heap.size := (by have := b2.size; omega); have HO2 := hidOf o2; have HO12 := hidOf (HO1.out.keep b2); obtain ⟨hc2, hf2⟩ := bcell b2; clear o2 b2 hf2)
     | (go_at_call 86; refine (HV.out _ HB2.out).mono ?_; rintro e w3 ⟨u3, rfl, o3, b3⟩; obtain ⟨a3, c3, e3, _⟩ := o3.form; subst e3; have HB3 : Hid (Below w.heap.size w w3) := HB2.out.trans (b3.mono HB2.out.size); have hs3 : w.heap.size < w3.heap.size := (by have := b3.size; omega); have HO3 := hidOf o3; have HO13 := hidOf (HO12.out.keep b3); have HO23 := hidOf (HO2.out.keep b3); have HCC := hidOf (concat_three _ _ _ _ _ _ w3 _ _ _ _ _ _ _ _ _ 28 HO13.out HO23.out HO3.out HFEW.out); obtain ⟨hc3, hf3⟩ := bcell b3; clear o3 b3 hf3)
     | (go_at_call 84; refine HCC.out.mono ?_; rintro e w4 ⟨u4, rfl, o4, b4⟩; obtain ⟨a4, c4, e4, _⟩ := o4.form; subst e4; have HB4 : Hid (Below w.heap.size w w4) := HB3.out.trans (b4.mono HB3.out.size); have HO4 := hidOf o4; obtain ⟨hc4, hf4⟩ := bcell b4; clear o4 b4 hf4))
  go_wp2_with fail
  go_ret
  exact ⟨.slice a4 (VI ++ (VO ++ VV)).length c4, by simp, OwnS.low (B := w3.heap.size + 1) (B' := w.heap.size) HO4.out (by omega), HB4.out⟩
end Go.Proofs.YtchemhjcknkbgaaGreatDoor

/- The program's hasFineNames: whether nothing is wrong with the names of a block. -/
namespace Go.Proofs.YtchemhjcknkbgaaGreatDoor
open Go Go.RowKit Go.PlainAid
set_option linter.unusedSimpArgs false
set_option linter.unusedVariables false

theorem addM_le (o more : List ByteArray) : (addM o more).length ≤ o.length + more.length := addM_len o more
theorem valsM_nine {ps : List Pt} (h : PortsOk ps) : (valsM ps).length ≤ 9 := by
  have key : ∀ (l : List Pt) (o : List ByteArray), (∀ p ∈ l, p.vals.length ≤ 3) → (l.foldl (fun o p => addM o p.vals) o).length ≤ o.length + 3 * l.length := by
    intro l
    induction l with
    | nil => intro o _; simp
    | cons p r ih =>
      intro o hp
      rw [List.foldl_cons]
      have h1 := ih (addM o p.vals) (fun q hq => hp q (List.mem_cons_of_mem _ hq))
      have h2 := addM_len o p.vals
      have h3 := hp p (List.mem_cons_self ..)
      simp only [List.length_cons]
      omega
  have := key ps [] (fun p hp => (h.2.2 p hp).1)
  unfold valsM
  have := h.1
  simp at *
  omega
theorem few_of {x : Bk} (h1 : PortsOk x.ins) (h2 : PortsOk x.outs) (h3 : VarsOk x.vars) : FewNames x := by
  have := valsM_nine h1
  have := valsM_nine h2
  have := h3.1
  unfold FewNames
  omega
theorem concat_small {x : Bk} {N : Nat} (h : wtBk x ≤ N) : ∀ y ∈ concatM x, y.size ≤ N := by
  obtain ⟨p0, p1, p2, p3, p4, p5, p6, p7, p8, p9⟩ := wtBk_parts h
  intro y hy
  unfold concatM at hy
  rcases List.mem_append.1 hy with hy | hy
  · exact valsM_small p2 y hy
  · rcases List.mem_append.1 hy with hy | hy
    · exact valsM_small p4 y hy
    · exact vars_small p6 y hy
set_option maxHeartbeats 3200000 in
set_option maxRecDepth 100000 in
theorem hasFineNames_any (B : Nat) (v : BkV) (x : Bk) (w : World) (hB : B ≤ w.heap.size) (hwt : wtBk x ≤ 1048576) (hx : IsBk B w v x) :
    Calls Tryz.prog 76 #[v.val x.name] w fun e w' => e = .returned (.bool (decide (NamesOkI x))) ∧ Below w.heap.size w w' := by
  obtain ⟨p0, p1, p2, p3, p4, p5, p6, p7, p8, p9⟩ := wtBk_parts hwt
  have li := hx.ins.1
  have lo := hx.outs.1
  have lv := hx.vars.1
  have lt := hx.states.1
  have HX := hidOf hx
  have HPI : Hid (∀ W, Below w.heap.size w W → Calls Tryz.prog 122 #[.slice v.ai v.ni v.ci] W fun e w' => e = .returned (.bool (decide (PortsOk x.ins))) ∧ Below W.heap.size W w') := fun W hb => areFinePorts_any B v.ai v.ni v.ci x.ins W (by have := hb.size; omega) (by omega) p2 (HX.out.below (hb.mono hB)).ins
  have HPO : Hid (∀ W, Below w.heap.size w W → Calls Tryz.prog 122 #[.slice v.ao v.no v.co] W fun e w' => e = .returned (.bool (decide (PortsOk x.outs))) ∧ Below W.heap.size W w') := fun W hb => areFinePorts_any B v.ao v.no v.co x.outs W (by have := hb.size; omega) (by omega) p4 (HX.out.below (hb.mono hB)).outs
  have HVS : Hid (∀ W, Below w.heap.size w W → Calls Tryz.prog 123 #[.slice v.av v.nv v.cv] W fun e w' => e = .returned (.bool (decide (VarsOk x.vars))) ∧ Below W.heap.size W w') := fun W hb => areFineVars_any B v.av v.nv v.cv x.vars W (by have := hb.size; omega) (by omega) p6 (HX.out.below (hb.mono hB)).vars
  have HLS : Hid (∀ W, Below w.heap.size w W → Calls Tryz.prog 125 #[.slice v.at_ v.nt v.ct, .func (Fn.func 126) #[] #[]] W fun e w' => ∃ u, e = .returned u ∧ OwnS W.heap.size w' u (statesM x) ∧ Below W.heap.size W w') := fun W hb => listOfState_any B v.at_ v.nt v.ct x.states W (by have := hb.size; omega) (by omega) (HX.out.below (hb.mono hB)).states
  have HNM : Hid (FewNames x → ∀ W, Below w.heap.size w W → Calls Tryz.prog 41 #[v.val x.name] W fun e w' => ∃ u, e = .returned u ∧ OwnS W.heap.size w' u (concatM x) ∧ Below W.heap.size W w') := fun hf W hb => namesOf_any B v x W (by have := hb.size; omega) hwt hf (HX.out.below (hb.mono hB))
  have HAN : ∀ (l : List ByteArray), l.length ≤ 1048576 → (∀ y ∈ l, y.size ≤ 1048576) → Hid (∀ W B' a n c, OwnS B' W (.slice a n c) l → Calls Tryz.prog 124 #[.slice a n c] W fun e w' => e = .returned (.bool (decide (AreNames l))) ∧ Below W.heap.size W w') := fun l h1 h2 W B' a n c o => by
    have hcm := own_cap o
    obtain ⟨_, _, e, hc, hz, _⟩ := o.form
    cases e
    exact areNames_any W.heap.size a _ c l W (Nat.le_refl _) h1 hc hcm h2 hz
  have htl : (statesM x).length = x.states.length := by simp [statesM]
  have HAS := HAN (statesM x) (by omega) (states_small p8)
  have HAC : Hid (FewNames x → ∀ W B' a n c, OwnS B' W (.slice a n c) (concatM x) → Calls Tryz.prog 124 #[.slice a n c] W fun e w' => e = .returned (.bool (decide (AreNames (concatM x)))) ∧ Below W.heap.size W w') := fun hf => (HAN (concatM x) (by unfold concatM FewNames at *; simp [varsM]; omega) (concat_small hwt)).out
  have HLN := hidOf (fun W => implNameOk_any x.name W (by unfold maxLen; omega))
  clear HAN
  obtain ⟨R, hR⟩ : ∃ R, decide (NamesOkI x) = R := ⟨_, rfl⟩
  have HR := hidOf hR
  rw [hR]
  obtain ⟨N1, hN1⟩ : ∃ b, nmB x.name = b := ⟨_, rfl⟩
  obtain ⟨P1, hP1⟩ : ∃ b, decide (PortsOk x.ins) = b := ⟨_, rfl⟩
  obtain ⟨P2, hP2⟩ : ∃ b, decide (PortsOk x.outs) = b := ⟨_, rfl⟩
  obtain ⟨V1, hV1⟩ : ∃ b, decide (VarsOk x.vars) = b := ⟨_, rfl⟩
  obtain ⟨S1, hS1⟩ : ∃ b, decide (AreNames (statesM x)) = b := ⟨_, rfl⟩
  obtain ⟨A1, hA1⟩ : ∃ b, decide (AreNames (concatM x)) = b := ⟨_, rfl⟩
  rw [hN1] at HLN; rw [hP1] at HPI; rw [hP2] at HPO; rw [hV1] at HVS; rw [hS1] at HAS; rw [hA1] at HAC
  have KN := hidOf hN1; have KP1 := hidOf hP1; have KP2 := hidOf hP2; have KV := hidOf hV1; have KS := hidOf hS1; have KA := hidOf hA1
  have KSS : Hid (AreNames (x.states.map St.name) ↔ AreNames (statesM x)) := Iff.rfl
  have KLT := hidOf lt
  obtain ⟨LS, hLS⟩ : ∃ L, statesM x = L := ⟨_, rfl⟩
  obtain ⟨LC, hLC⟩ : ∃ L, concatM x = L := ⟨_, rfl⟩
  rw [hLS] at HLS HAS KS KSS
  rw [hLC] at HNM HAC KA
  have KLC := hidOf hLC
  clear hR hN1 hP1 hP2 hV1 hS1 hA1 hLS hLC htl li lo lv lt p0 p1 p2 p3 p4 p5 p6 p7 p8 p9 hwt hx HX
  obtain ⟨ai, ni, ci, ao, no, co, av, nv, cv, at_, nt, ct⟩ := v
  obtain ⟨xn, hxn⟩ : ∃ n, x.name = n := ⟨_, rfl⟩
  simp only [BkV.val] at HPI HPO HVS HLS HNM KLT ⊢
  rw [hxn] at HNM HLN ⊢
  clear hxn
  have BX0 := hidOf (boxAt_new w [.string xn, .slice ai ni ci, .slice ao no co, .slice av nv cv, .slice at_ nt ct] 34)
  have HB0 : Hid (Below w.heap.size w (w.alloc (.cells #[.string xn, .slice ai ni ci, .slice ao no co, .slice av nv cv, .slice at_ nt ct] 34))) := (Below.refl _ _).alloc (Nat.le_refl _) _
  go_enter Tryz.func76, Tryz.ntmps76
  go_wp2_with fail
  refine (HLN.out _).mono ?_
  rintro e w' ⟨rfl, hw'⟩
  rw [hw']
  clear hw' w'
  cases N1 with
  | false =>
    go_wp2_with fail
    go_ret
    exact ⟨ret_bool (by rw [← HR.out]; symm; exact decide_eq_false fun h => by have := h.1.1; rw [KN.out] at this; cases this), HB0.out⟩
  | true =>
  go_wp2_with fail
  refine (HPI.out _ HB0.out).mono ?_
  rintro e w1 ⟨rfl, b1⟩
  have HB1 : Hid (Below w.heap.size w w1) := HB0.out.trans (b1.mono HB0.out.size)
  have BX1 := hidOf (BX0.out.below b1)
  clear b1
  have c0 : w1.cell? ⟨w.heap.size, 0, none⟩ = some (.string xn) := (BX1.out.2 0 _ rfl).1
  have c1 : w1.cell? ⟨w.heap.size, 1, none⟩ = some (.slice ai ni ci) := (BX1.out.2 1 _ rfl).1
  have c2 : w1.cell? ⟨w.heap.size, 2, none⟩ = some (.slice ao no co) := (BX1.out.2 2 _ rfl).1
  have c3 : w1.cell? ⟨w.heap.size, 3, none⟩ = some (.slice av nv cv) := (BX1.out.2 3 _ rfl).1
  have c4 : w1.cell? ⟨w.heap.size, 4, none⟩ = some (.slice at_ nt ct) := (BX1.out.2 4 _ rfl).1
  have sz : w.heap.size < w1.heap.size := BX1.out.1
  cases P1 with
  | false =>
    go_wp2_with fail
    go_ret
    exact ⟨ret_bool (by rw [← HR.out]; symm; exact decide_eq_false fun h => of_decide_eq_false KP1.out h.1.2.1), HB1.out⟩
  | true =>
  go_wp2_with fail
  refine (HPO.out _ HB1.out).mono ?_
  rintro e w2 ⟨rfl, b2⟩
  have HB2 : Hid (Below w.heap.size w w2) := HB1.out.trans (b2.mono HB1.out.size)
  have BX2 := hidOf (BX1.out.below b2)
  clear c0 c1 c2 c3 c4 sz b2
  have c0 : w2.cell? ⟨w.heap.size, 0, none⟩ = some (.string xn) := (BX2.out.2 0 _ rfl).1
  have c1 : w2.cell? ⟨w.heap.size, 1, none⟩ = some (.slice ai ni ci) := (BX2.out.2 1 _ rfl).1
  have c2 : w2.cell? ⟨w.heap.size, 2, none⟩ = some (.slice ao no co) := (BX2.out.2 2 _ rfl).1
  have c3 : w2.cell? ⟨w.heap.size, 3, none⟩ = some (.slice av nv cv) := (BX2.out.2 3 _ rfl).1
  have c4 : w2.cell? ⟨w.heap.size, 4, none⟩ = some (.slice at_ nt ct) := (BX2.out.2 4 _ rfl).1
  have sz : w.heap.size < w2.heap.size := BX2.out.1
  cases P2 with
  | false =>
    go_wp2_with fail
    go_ret
    exact ⟨ret_bool (by rw [← HR.out]; symm; exact decide_eq_false fun h => of_decide_eq_false KP2.out h.1.2.2.1), HB2.out⟩
  | true =>
  go_wp2_with fail
  refine (HVS.out _ HB2.out).mono ?_
  rintro e w3 ⟨rfl, b3⟩
  have HB3 : Hid (Below w.heap.size w w3) := HB2.out.trans (b3.mono HB2.out.size)
  have BX3 := hidOf (BX2.out.below b3)
  clear c0 c1 c2 c3 c4 sz b3
  have c0 : w3.cell? ⟨w.heap.size, 0, none⟩ = some (.string xn) := (BX3.out.2 0 _ rfl).1
  have c1 : w3.cell? ⟨w.heap.size, 1, none⟩ = some (.slice ai ni ci) := (BX3.out.2 1 _ rfl).1
  have c2 : w3.cell? ⟨w.heap.size, 2, none⟩ = some (.slice ao no co) := (BX3.out.2 2 _ rfl).1
  have c3 : w3.cell? ⟨w.heap.size, 3, none⟩ = some (.slice av nv cv) := (BX3.out.2 3 _ rfl).1
  have c4 : w3.cell? ⟨w.heap.size, 4, none⟩ = some (.slice at_ nt ct) := (BX3.out.2 4 _ rfl).1
  have sz : w.heap.size < w3.heap.size := BX3.out.1
  cases V1 with
  | false =>
    go_wp2_with fail
    go_ret
    exact ⟨ret_bool (by rw [← HR.out]; symm; exact decide_eq_false fun h => of_decide_eq_false KV.out h.1.2.2.2.1), HB3.out⟩
  | true =>
  have KF := hidOf (few_of (of_decide_eq_true KP1.out) (of_decide_eq_true KP2.out) (of_decide_eq_true KV.out))
  have HNM2 := hidOf (HNM.out KF.out)
  have HAC2 := hidOf (HAC.out KF.out)
  by_cases h5 : nt ≤ 5
  · go_wp2_with fail
    refine (HLS.out _ HB3.out).mono ?_
    rintro e w4 ⟨u4, rfl, o4, b4⟩
    obtain ⟨a4, c4', e4, _⟩ := o4.form
    subst e4
    have HB4 : Hid (Below w.heap.size w w4) := HB3.out.trans (b4.mono HB3.out.size)
    have BX4 := hidOf (BX3.out.below b4)
    clear c0 c1 c2 c3 c4 sz b4
    have c0 : w4.cell? ⟨w.heap.size, 0, none⟩ = some (.string xn) := (BX4.out.2 0 _ rfl).1
    have c1 : w4.cell? ⟨w.heap.size, 1, none⟩ = some (.slice ai ni ci) := (BX4.out.2 1 _ rfl).1
    have c2 : w4.cell? ⟨w.heap.size, 2, none⟩ = some (.slice ao no co) := (BX4.out.2 2 _ rfl).1
    have c3 : w4.cell? ⟨w.heap.size, 3, none⟩ = some (.slice av nv cv) := (BX4.out.2 3 _ rfl).1
    have c4 : w4.cell? ⟨w.heap.size, 4, none⟩ = some (.slice at_ nt ct) := (BX4.out.2 4 _ rfl).1
    have sz : w.heap.size < w4.heap.size := BX4.out.1
    have O4 := hidOf o4
    clear o4
    go_wp2_with fail
    refine (HAS.out _ _ _ _ _ O4.out).mono ?_
    rintro e w5 ⟨rfl, b5⟩
    have HB5 : Hid (Below w.heap.size w w5) := HB4.out.trans (b5.mono HB4.out.size)
    have BX5 := hidOf (BX4.out.below b5)
    clear c0 c1 c2 c3 c4 sz b5
    have c0 : w5.cell? ⟨w.heap.size, 0, none⟩ = some (.string xn) := (BX5.out.2 0 _ rfl).1
    have c1 : w5.cell? ⟨w.heap.size, 1, none⟩ = some (.slice ai ni ci) := (BX5.out.2 1 _ rfl).1
    have c2 : w5.cell? ⟨w.heap.size, 2, none⟩ = some (.slice ao no co) := (BX5.out.2 2 _ rfl).1
    have c3 : w5.cell? ⟨w.heap.size, 3, none⟩ = some (.slice av nv cv) := (BX5.out.2 3 _ rfl).1
    have c4 : w5.cell? ⟨w.heap.size, 4, none⟩ = some (.slice at_ nt ct) := (BX5.out.2 4 _ rfl).1
    have sz : w.heap.size < w5.heap.size := BX5.out.1
    cases S1 with
    | false =>
      go_wp2_with fail
      go_ret
      exact ⟨ret_bool (by rw [← HR.out]; symm; exact decide_eq_false fun h => of_decide_eq_false KS.out (KSS.out.1 h.1.2.2.2.2.2)), HB5.out⟩
    | true =>
    go_wp2_with fail
    refine (HNM2.out _ HB5.out).mono ?_
    rintro e w6 ⟨u6, rfl, o6, b6⟩
    obtain ⟨a6, c6', e6, _⟩ := o6.form
    subst e6
    have HB6 : Hid (Below w.heap.size w w6) := HB5.out.trans (b6.mono HB5.out.size)
    have BX6 := hidOf (BX5.out.below b6)
    clear c0 c1 c2 c3 c4 sz b6
    have c0 : w6.cell? ⟨w.heap.size, 0, none⟩ = some (.string xn) := (BX6.out.2 0 _ rfl).1
    have c1 : w6.cell? ⟨w.heap.size, 1, none⟩ = some (.slice ai ni ci) := (BX6.out.2 1 _ rfl).1
    have c2 : w6.cell? ⟨w.heap.size, 2, none⟩ = some (.slice ao no co) := (BX6.out.2 2 _ rfl).1
    have c3 : w6.cell? ⟨w.heap.size, 3, none⟩ = some (.slice av nv cv) := (BX6.out.2 3 _ rfl).1
    have c4 : w6.cell? ⟨w.heap.size, 4, none⟩ = some (.slice at_ nt ct) := (BX6.out.2 4 _ rfl).1
    have sz : w.heap.size < w6.heap.size := BX6.out.1
    clear o6
    obtain ⟨NL, hNL⟩ : ∃ n, LC.length = n := ⟨_, rfl⟩
    have KNL := hidOf hNL
    rw [hNL]
    clear hNL
    have hs : Hid (SizesOk x) := ⟨KN.out, of_decide_eq_true KP1.out, of_decide_eq_true KP2.out, of_decide_eq_true KV.out, by have := KLT.out; omega, KSS.out.2 (of_decide_eq_true KS.out)⟩
    by_cases h16 : NL ≤ 16
    · go_wp2_with fail
      refine (HNM2.out _ HB6.out).mono ?_
      rintro e w7 ⟨u7, rfl, o7, b7⟩
      obtain ⟨a7, c7', e7, _⟩ := o7.form
      subst e7
      have HB7 : Hid (Below w.heap.size w w7) := HB6.out.trans (b7.mono HB6.out.size)
      have BX7 := hidOf (BX6.out.below b7)
      clear c0 c1 c2 c3 c4 sz b7
      have c0 : w7.cell? ⟨w.heap.size, 0, none⟩ = some (.string xn) := (BX7.out.2 0 _ rfl).1
      have c1 : w7.cell? ⟨w.heap.size, 1, none⟩ = some (.slice ai ni ci) := (BX7.out.2 1 _ rfl).1
      have c2 : w7.cell? ⟨w.heap.size, 2, none⟩ = some (.slice ao no co) := (BX7.out.2 2 _ rfl).1
      have c3 : w7.cell? ⟨w.heap.size, 3, none⟩ = some (.slice av nv cv) := (BX7.out.2 3 _ rfl).1
      have c4 : w7.cell? ⟨w.heap.size, 4, none⟩ = some (.slice at_ nt ct) := (BX7.out.2 4 _ rfl).1
      have sz : w.heap.size < w7.heap.size := BX7.out.1
      have O7 := hidOf o7
      clear o7
      go_wp2_with fail
      refine (HAC2.out _ _ _ _ _ O7.out).mono ?_
      rintro e w8 ⟨rfl, b8⟩
      have HB8 : Hid (Below w.heap.size w w8) := HB7.out.trans (b8.mono HB7.out.size)
      have BX8 := hidOf (BX7.out.below b8)
      clear c0 c1 c2 c3 c4 sz b8
      have c0 : w8.cell? ⟨w.heap.size, 0, none⟩ = some (.string xn) := (BX8.out.2 0 _ rfl).1
      have c1 : w8.cell? ⟨w.heap.size, 1, none⟩ = some (.slice ai ni ci) := (BX8.out.2 1 _ rfl).1
      have c2 : w8.cell? ⟨w.heap.size, 2, none⟩ = some (.slice ao no co) := (BX8.out.2 2 _ rfl).1
      have c3 : w8.cell? ⟨w.heap.size, 3, none⟩ = some (.slice av nv cv) := (BX8.out.2 3 _ rfl).1
      have c4 : w8.cell? ⟨w.heap.size, 4, none⟩ = some (.slice at_ nt ct) := (BX8.out.2 4 _ rfl).1
      have sz : w.heap.size < w8.heap.size := BX8.out.1
      cases A1 with
      | false =>
        go_wp2_with fail
        go_ret
        exact ⟨ret_bool (by rw [← HR.out]; symm; exact decide_eq_false fun h => by have := h.2.2; rw [KLC.out] at this; exact of_decide_eq_false KA.out this), HB8.out⟩
      | true =>
        go_wp2_with fail
        go_ret
        exact ⟨ret_bool (by rw [← HR.out]; symm; exact decide_eq_true ⟨hs.out, by rw [KLC.out, KNL.out]; exact h16, by rw [KLC.out]; exact of_decide_eq_true KA.out⟩), HB8.out⟩
    · have h16' : ¬ ((NL : Int) ≤ 16) := by omega
      go_wp2_with fail
      go_ret
      exact ⟨by have : R = false := by rw [← HR.out]; exact decide_eq_false fun h => by have := h.2.1; rw [KLC.out, KNL.out] at this; omega
                simp [this], HB6.out⟩
  · have h5' : ¬ ((nt : Int) ≤ 5) := by omega
    go_wp2_with fail
    go_ret
    exact ⟨by have : R = false := by rw [← HR.out]; exact decide_eq_false fun h => by have := h.1.2.2.2.2.1; have := KLT.out; omega
              simp [this], HB3.out⟩
end Go.Proofs.YtchemhjcknkbgaaGreatDoor
