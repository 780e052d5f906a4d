/- The model's l3State: what is wrong with a state. -/
import Derived.Test.YtchemhjcknkbgaaGreatDoorSpecAct
import Derived.Test.YtchemhjcknkbgaaGreatDoorBunY36
namespace Go.Proofs.YtchemhjcknkbgaaGreatDoor
open Go Go.RowKit Go.PlainAid
set_option linter.unusedSimpArgs false
set_option linter.unusedVariables false


set_option maxHeartbeats 3200000 in
set_option maxRecDepth 100000 in
theorem l3State_any (B : Nat) (v : BkV) (x : Bk) (s : St) (ma : Option Addr) (mn mc : Nat) (ra : Option Addr) (rn rc : Nat) (w : World) (hB : B ≤ w.heap.size) (hwt : wtBk x ≤ 1048576) (hst : wtSt s ≤ 1048576) (hx : IsBk B w v x) (hqm : IsArr 3 QMo B w ma mn s.moves) (hqa : IsArr 3 QAc B w ra rn s.acts) :
    Calls Tryz.prog 65 #[v.val x.name, .agg #[.string s.name, .slice ma mn mc, .slice ra rn rc]] w fun e w' => e = .returned (.int .i64 (stateM x (namesM x) s)) ∧ Below w.heap.size w w' := by
  obtain ⟨sn, sm, sr⟩ := s
  unfold stateM
  simp only at hqm hqa ⊢
  have lm := hqm.1
  have lr := hqa.1
  have hsm : wsum wtMo sm ≤ 1048576 := by unfold wtSt at hst; simp only at hst; omega
  have hsr : wsum wtAc sr ≤ 1048576 := by unfold wtSt at hst; simp only at hst; omega
  have hml : sm.length ≤ 1048576 := by unfold wtSt at hst; simp only at hst; omega
  have hrl : sr.length ≤ 1048576 := by unfold wtSt at hst; simp only at hst; omega
  have HMMo : Hid (∀ W, Below w.heap.size w W → ∀ y : Mo, wtMo y ≤ 1048576 → Calls Tryz.prog 114 #[v.val x.name, .agg #[.string y.event, .string y.cond, .string y.to]] W fun e w' => e = .returned (.int .i64 (moveM x (namesM x) y)) ∧ Below W.heap.size W w') := fun W hb y hy => l3Move_any B v x y W (by have := hb.size; omega) hwt hy (hx.below (hb.mono hB))
  have HMAc : Hid (∀ W, Below w.heap.size w W → ∀ y : Ac, wtAc y ≤ 1048576 → Calls Tryz.prog 115 #[v.val x.name, .agg #[.int .i64 y.kind, .string y.name, .string y.sum]] W fun e w' => e = .returned (.int .i64 (actM x (namesM x) y)) ∧ Below W.heap.size W w') := fun W hb y hy => l3Act_any B v x y W (by have := hb.size; omega) hwt hy (hx.below (hb.mono hB))
  have HQM := hidOf hqm
  have HQA := hidOf hqa
  clear hqm hqa hx hst hwt
  obtain ⟨R, hR⟩ : ∃ R, (if 4 < sm.length ∨ 4 < sr.length then (1 : Int) else if firstC (moveM x (namesM x)) sm = 0 then firstC (actM x (namesM x)) sr else firstC (moveM x (namesM x)) sm) = R := ⟨_, rfl⟩
  have HR := hidOf hR
  rw [hR]
  clear hR
  obtain ⟨ai, ni, ci, ao, no, co, av, nv, cv, at_, nt, ct⟩ := v
  obtain ⟨xn, hxn⟩ : ∃ n, x.name = n := ⟨_, rfl⟩
  simp only [BkV.val] at HMMo HMAc ⊢
  rw [hxn] at HMMo HMAc ⊢
  clear hxn
  have hB0 : Below w.heap.size w ((w.alloc (.cells #[.string xn, .slice ai ni ci, .slice ao no co, .slice av nv cv, .slice at_ nt ct] 34)).alloc (.cells #[.string sn, .slice ma mn mc, .slice ra rn rc] 65)) := below_two (Nat.le_refl _)
  by_cases h4 : 4 < mn
  · go_enter Tryz.func65, Tryz.ntmps65
    go_wp2_with fail
    go_ret
    exact ⟨ret_int (by rw [← HR.out, if_pos (by omega)]), by go_grown⟩
  by_cases h5 : 4 < rn
  · go_enter Tryz.func65, Tryz.ntmps65
    go_wp2_with fail
    go_ret
    exact ⟨ret_int (by rw [← HR.out, if_pos (by omega)]), by go_grown⟩
  have BX0 : Hid (BoxAt w.heap.size [.string xn, .slice ai ni ci, .slice ao no co, .slice av nv cv, .slice at_ nt ct] ((w.alloc (.cells #[.string xn, .slice ai ni ci, .slice ao no co, .slice av nv cv, .slice at_ nt ct] 34)).alloc (.cells #[.string sn, .slice ma mn mc, .slice ra rn rc] 65))) := (boxAt_new w [.string xn, .slice ai ni ci, .slice ao no co, .slice av nv cv, .slice at_ nt ct] 34).below ((Below.refl _ _).alloc (Nat.le_refl _) _)
  have BY0 : Hid (BoxAt (w.heap.size + 1) [.string sn, .slice ma mn mc, .slice ra rn rc] ((w.alloc (.cells #[.string xn, .slice ai ni ci, .slice ao no co, .slice av nv cv, .slice at_ nt ct] 34)).alloc (.cells #[.string sn, .slice ma mn mc, .slice ra rn rc] 65))) := by
    have := boxAt_new (w.alloc (.cells #[.string xn, .slice ai ni ci, .slice ao no co, .slice av nv cv, .slice at_ nt ct] 34)) [.string sn, .slice ma mn mc, .slice ra rn rc] 65
    show BoxAt _ _ _
    simpa using this
  have HB0 := hidOf hB0
  clear hB0
  go_enter Tryz.func65, Tryz.ntmps65
  go_wp2_with fail
  obtain ⟨W0, hW0⟩ : ∃ W0, ((w.alloc (.cells #[.string xn, .slice ai ni ci, .slice ao no co, .slice av nv cv, .slice at_ nt ct] 34)).alloc (.cells #[.string sn, .slice ma mn mc, .slice ra rn rc] 65)) = W0 := ⟨_, rfl⟩
  rw [hW0] at HB0 BX0 BY0 ⊢
  clear hW0
  go_loopw [5] (fun i wr => ∃ k : Nat, k ≤ mn ∧ i = .int .i64 k ∧ Hid (∀ j, (h : j < sm.length) → j < k → moveM x (namesM x) sm[j] = 0) ∧ Below W0.heap.size W0 wr) (fun i _ => mn - (intOf i).toNat)
  case atStart => exact ⟨0, Nat.zero_le _, rfl, fun j _ h => absurd h (Nat.not_lt_zero _), Below.refl _ _⟩
  case round =>
    obtain ⟨k, hk, rfl, HK, hbel⟩ := hrel
    have HBw : Hid (Below w.heap.size w wr) := HB0.out.trans (hbel.mono HB0.out.size)
    have BX := hidOf (BX0.out.below hbel)
    have BY := hidOf (BY0.out.below hbel)
    have c0 : wr.cell? ⟨w.heap.size, 0, none⟩ = some (.string xn) := (BX.out.2 0 _ rfl).1
    have c1 : wr.cell? ⟨w.heap.size, 1, none⟩ = some (.slice ai ni ci) := (BX.out.2 1 _ rfl).1
    have c2 : wr.cell? ⟨w.heap.size, 2, none⟩ = some (.slice ao no co) := (BX.out.2 2 _ rfl).1
    have c3 : wr.cell? ⟨w.heap.size, 3, none⟩ = some (.slice av nv cv) := (BX.out.2 3 _ rfl).1
    have c4 : wr.cell? ⟨w.heap.size, 4, none⟩ = some (.slice at_ nt ct) := (BX.out.2 4 _ rfl).1
    have sx : w.heap.size < wr.heap.size := BX.out.1
    have d0 : wr.cell? ⟨w.heap.size + 1, 0, none⟩ = some (.string sn) := (BY.out.2 0 _ rfl).1
    have d1 : wr.cell? ⟨w.heap.size + 1, 1, none⟩ = some (.slice ma mn mc) := (BY.out.2 1 _ rfl).1
    have d2 : wr.cell? ⟨w.heap.size + 1, 2, none⟩ = some (.slice ra rn rc) := (BY.out.2 2 _ rfl).1
    have sy : w.heap.size + 1 < wr.heap.size := BY.out.1
    by_cases hlt : k < mn
    · obtain ⟨b, off, cs, eab, hb, hq, hcell⟩ := IsArr.at (HQM.out.below (QMo.lift (HBw.out.mono hB)) (HBw.out.mono hB)) hlt (show k < sm.length by omega)
      have hbr : b < wr.heap.size := by have := HBw.out.size; omega
      obtain ⟨y, hy⟩ : ∃ y, sm[k]'(by omega) = y := ⟨_, rfl⟩
      have HY := hidOf hy
      have hwy : wtMo y ≤ 1048576 := by have := wsum_mem (f := wtMo) (List.getElem_mem (show k < sm.length by omega)); rw [hy] at this; omega
      rw [hy] at hq
      have HE : Hid (∀ W, Below w.heap.size w W → Calls Tryz.prog 114 #[.agg #[.string xn, .slice ai ni ci, .slice ao no co, .slice av nv cv, .slice at_ nt ct], .agg #[.string y.event, .string y.cond, .string y.to]] W fun e w' => e = .returned (.int .i64 (moveM x (namesM x) y)) ∧ Below W.heap.size W w') := fun W hb => HMMo.out W hb y hwy
      obtain ⟨C, hC⟩ : ∃ C, moveM x (namesM x) y = C := ⟨_, rfl⟩
      rw [hC] at HE
      have HC : Hid (moveM x (namesM x) (sm[k]'(by omega)) = C) := by show _ = _; rw [hy]; exact hC
      clear hC hy HY hwy
      obtain ⟨y0, y1, y2⟩ := y
      unfold QMo at hq
      subst hq
      have e0 : wr.cell? ⟨b, off + k * 3, none⟩ = some (.string y0) := hcell 0 _ rfl
      have e1 : wr.cell? ⟨b, off + k * 3 + 1, none⟩ = some (.string y1) := hcell 1 _ rfl
      have e2 : wr.cell? ⟨b, off + k * 3 + 1 + 1, none⟩ = some (.string y2) := hcell 2 _ rfl
      simp only at HE
      clear hcell
      subst eab
      go_wp2_with fail
      go_region_held3 (fun w' => w'.cell? ⟨w.heap.size, 0, none⟩ = some (.string xn) ∧ w'.cell? ⟨w.heap.size, 1, none⟩ = some (.slice ai ni ci) ∧ w'.cell? ⟨w.heap.size, 2, none⟩ = some (.slice ao no co) ∧ w'.cell? ⟨w.heap.size, 3, none⟩ = some (.slice av nv cv) ∧ w'.cell? ⟨w.heap.size, 4, none⟩ = some (.slice at_ nt ct) ∧ w'.cell? ⟨w.heap.size + 1, 1, none⟩ = some (.slice (some ⟨b, off, none⟩) mn mc) ∧ w'.cell? ⟨b, off + k * 3, none⟩ = some (.string y0) ∧ w'.cell? ⟨b, off + k * 3 + 1, none⟩ = some (.string y1) ∧ w'.cell? ⟨b, off + k * 3 + 1 + 1, none⟩ = some (.string y2)) (simp [go_sem, *])
        (first | (go_at_call 114; refine (HE.out _ (by first | exact HBw.out | exact below_drew1 HBw.out)).mono ?_; rintro e w1 ⟨rfl, b1⟩; replace b1 : Below wr.heap.size wr w1 := undrew b1; have HB1 := hidOf b1; obtain ⟨hc1, hf1⟩ := bcell b1; clear b1 hf1))
      by_cases hC0 : C = 0
      · subst hC0
        go_wp2_with fail
        go_roundw
        case rel =>
          refine ⟨k + 1, by omega, by go_num, ?_, hbel.trans (HB1.out.mono hbel.size)⟩
          intro j hj hjk
          by_cases e : j = k
          · subst e; exact HC.out
          · exact HK.out j hj (by omega)
        case measure => simp [intOf]; omega
      · have hC1 : (C == 0) = false := by simp [hC0]
        go_wp2_with fail
        go_ret
        exact ⟨ret_int (by rw [← HR.out]; rw [if_neg (by omega), if_neg (by rw [firstC_at (by omega) (fun j hj hjk => HK.out j hj hjk) (by rw [HC.out]; exact hC0)]; rw [HC.out]; exact hC0), firstC_at (by omega) (fun j hj hjk => HK.out j hj hjk) (by rw [HC.out]; exact hC0), HC.out]), HBw.out.trans (HB1.out.mono HBw.out.size)⟩
    · have HZMo : Hid (firstC (moveM x (namesM x)) sm = 0) := firstC_zero fun j hj => HK.out j hj (by omega)
      have HBx := hidOf hbel
      clear HK hbel
      go_wp2_with fail
      clear hk
      try clear hlt
      go_loopw [7] (fun i wr => ∃ k : Nat, k ≤ rn ∧ i = .int .i64 k ∧ Hid (∀ j, (h : j < sr.length) → j < k → actM x (namesM x) sr[j] = 0) ∧ Below W0.heap.size W0 wr) (fun i _ => rn - (intOf i).toNat)
      case atStart => exact ⟨0, Nat.zero_le _, rfl, fun j _ h => absurd h (Nat.not_lt_zero _), HBx.out⟩
      case round =>
        obtain ⟨k, hk, rfl, HK, hbel⟩ := hrel
        have HBw : Hid (Below w.heap.size w wr) := HB0.out.trans (hbel.mono HB0.out.size)
        have BX := hidOf (BX0.out.below hbel)
        have BY := hidOf (BY0.out.below hbel)
        have c0 : wr.cell? ⟨w.heap.size, 0, none⟩ = some (.string xn) := (BX.out.2 0 _ rfl).1
        have c1 : wr.cell? ⟨w.heap.size, 1, none⟩ = some (.slice ai ni ci) := (BX.out.2 1 _ rfl).1
        have c2 : wr.cell? ⟨w.heap.size, 2, none⟩ = some (.slice ao no co) := (BX.out.2 2 _ rfl).1
        have c3 : wr.cell? ⟨w.heap.size, 3, none⟩ = some (.slice av nv cv) := (BX.out.2 3 _ rfl).1
        have c4 : wr.cell? ⟨w.heap.size, 4, none⟩ = some (.slice at_ nt ct) := (BX.out.2 4 _ rfl).1
        have sx : w.heap.size < wr.heap.size := BX.out.1
        have d0 : wr.cell? ⟨w.heap.size + 1, 0, none⟩ = some (.string sn) := (BY.out.2 0 _ rfl).1
        have d1 : wr.cell? ⟨w.heap.size + 1, 1, none⟩ = some (.slice ma mn mc) := (BY.out.2 1 _ rfl).1
        have d2 : wr.cell? ⟨w.heap.size + 1, 2, none⟩ = some (.slice ra rn rc) := (BY.out.2 2 _ rfl).1
        have sy : w.heap.size + 1 < wr.heap.size := BY.out.1
        by_cases hlt : k < rn
        · obtain ⟨b, off, cs, eab, hb, hq, hcell⟩ := IsArr.at (HQA.out.below (QAc.lift (HBw.out.mono hB)) (HBw.out.mono hB)) hlt (show k < sr.length by omega)
          have hbr : b < wr.heap.size := by have := HBw.out.size; omega
          obtain ⟨y, hy⟩ : ∃ y, sr[k]'(by omega) = y := ⟨_, rfl⟩
          have HY := hidOf hy
          have hwy : wtAc y ≤ 1048576 := by have := wsum_mem (f := wtAc) (List.getElem_mem (show k < sr.length by omega)); rw [hy] at this; omega
          rw [hy] at hq
          have HE : Hid (∀ W, Below w.heap.size w W → Calls Tryz.prog 115 #[.agg #[.string xn, .slice ai ni ci, .slice ao no co, .slice av nv cv, .slice at_ nt ct], .agg #[.int .i64 y.kind, .string y.name, .string y.sum]] W fun e w' => e = .returned (.int .i64 (actM x (namesM x) y)) ∧ Below W.heap.size W w') := fun W hb => HMAc.out W hb y hwy
          obtain ⟨C, hC⟩ : ∃ C, actM x (namesM x) y = C := ⟨_, rfl⟩
          rw [hC] at HE
          have HC : Hid (actM x (namesM x) (sr[k]'(by omega)) = C) := by show _ = _; rw [hy]; exact hC
          clear hC hy HY hwy
          obtain ⟨y0, y1, y2⟩ := y
          unfold QAc at hq
          subst hq
          have e0 : wr.cell? ⟨b, off + k * 3, none⟩ = some (.int .i64 y0) := hcell 0 _ rfl
          have e1 : wr.cell? ⟨b, off + k * 3 + 1, none⟩ = some (.string y1) := hcell 1 _ rfl
          have e2 : wr.cell? ⟨b, off + k * 3 + 1 + 1, none⟩ = some (.string y2) := hcell 2 _ rfl
          simp only at HE
          clear hcell
          subst eab
          go_wp2_with fail
          go_region_held3 (fun w' => w'.cell? ⟨w.heap.size, 0, none⟩ = some (.string xn) ∧ w'.cell? ⟨w.heap.size, 1, none⟩ = some (.slice ai ni ci) ∧ w'.cell? ⟨w.heap.size, 2, none⟩ = some (.slice ao no co) ∧ w'.cell? ⟨w.heap.size, 3, none⟩ = some (.slice av nv cv) ∧ w'.cell? ⟨w.heap.size, 4, none⟩ = some (.slice at_ nt ct) ∧ w'.cell? ⟨w.heap.size + 1, 2, none⟩ = some (.slice (some ⟨b, off, none⟩) rn rc) ∧ w'.cell? ⟨b, off + k * 3, none⟩ = some (.int .i64 y0) ∧ w'.cell? ⟨b, off + k * 3 + 1, none⟩ = some (.string y1) ∧ w'.cell? ⟨b, off + k * 3 + 1 + 1, none⟩ = some (.string y2)) (simp [go_sem, *])
            (first | (go_at_call 115; refine (HE.out _ (by first | exact HBw.out | exact below_drew1 HBw.out)).mono ?_; rintro e w1 ⟨rfl, b1⟩; replace b1 : Below wr.heap.size wr w1 := undrew b1; have HB1 := hidOf b1; obtain ⟨hc1, hf1⟩ := bcell b1; clear b1 hf1))
          by_cases hC0 : C = 0
          · subst hC0
            go_wp2_with fail
            go_roundw
            case rel =>
              refine ⟨k + 1, by omega, by go_num, ?_, hbel.trans (HB1.out.mono hbel.size)⟩
              intro j hj hjk
              by_cases e : j = k
              · subst e; exact HC.out
              · exact HK.out j hj (by omega)
            case measure => simp [intOf]; omega
          · have hC1 : (C == 0) = false := by simp [hC0]
            go_wp2_with fail
            go_ret
            exact ⟨ret_int (by rw [← HR.out]; rw [if_neg (by omega), if_pos HZMo.out, firstC_at (by omega) (fun j hj hjk => HK.out j hj hjk) (by rw [HC.out]; exact hC0), HC.out]), HBw.out.trans (HB1.out.mono HBw.out.size)⟩
        · have HZAc : Hid (firstC (actM x (namesM x)) sr = 0) := firstC_zero fun j hj => HK.out j hj (by omega)
          go_wp2_with fail
          go_ret
          exact ⟨ret_int (by rw [← HR.out, if_neg (by omega), if_pos HZMo.out, HZAc.out]), HBw.out⟩
end Go.Proofs.YtchemhjcknkbgaaGreatDoor

/- The model's l3Ring: whether moves without an event can go on and on. -/
namespace Go.Proofs.YtchemhjcknkbgaaGreatDoor
open Go Go.RowKit Go.PlainAid
set_option linter.unusedSimpArgs false
set_option linter.unusedVariables false


theorem wk_moves (x : Bk) (f k : Nat) (hk : k < x.states.length) : Wk (edgesM x) (f + 1) k = (x.states[k].moves.any fun m => empB m.event && Wk (edgesM x) f (findM (statesM x) m.to).toNat) := by
  have e : x.states.getD k ⟨noName, [], []⟩ = x.states[k] := by simp [hk]
  show (edgesM x k).any (Wk (edgesM x) f) = _
  rw [show edgesM x k = ((x.states[k].moves.filter fun m => empB m.event).map fun m => (findM (statesM x) m.to).toNat) by unfold edgesM; rw [e], List.any_map, List.any_filter]
  rfl
set_option maxHeartbeats 3200000 in
set_option maxRecDepth 100000 in
theorem l3Ring_any (B : Nat) (v : BkV) (x : Bk) (hwt : wtBk x ≤ 1048576) (hok : ∀ s ∈ x.states, ∀ m ∈ s.moves, 0 ≤ findM (statesM x) m.to) (hml : ∀ s ∈ x.states, s.moves.length ≤ 1048576) :
    ∀ (f deep place : Nat) (w : World), deep + f = x.states.length + 1 → place < x.states.length → B ≤ w.heap.size → IsBk B w v x →
    Calls Tryz.prog 66 #[v.val x.name, .int .i64 place, .int .i64 deep] w fun e w' => e = .returned (.bool (Wk (edgesM x) f place)) ∧ Below w.heap.size w w' := by
  obtain ⟨p0, p1, p2, p3, p4, p5, p6, p7, p8, p9⟩ := wtBk_parts hwt
  have htl : (statesM x).length = x.states.length := by simp [statesM]
  have hss := states_small p8
  intro f
  induction f with
  | zero =>
    intro deep place w hd hp hB hx
    have lt := hx.states.1
    clear hx
    obtain ⟨ai, ni, ci, ao, no, co, av, nv, cv, at_, nt, ct⟩ := v
    simp only [BkV.val] at lt ⊢
    have hgt : (nt : Int) < (deep : Int) := by omega
    go_enter Tryz.func66, Tryz.ntmps66
    go_wp2_with fail
    go_ret
    exact ⟨rfl, by go_grown⟩
  | succ f ih =>
    intro deep place w hd hp hB hx
    have lt := hx.states.1
    have HX := hidOf hx
    have IH : Hid (∀ j W, j < x.states.length → Below w.heap.size w W → Calls Tryz.prog 66 #[v.val x.name, .int .i64 (j : Nat), .int .i64 ((deep : Int) + 1)] W fun e w' => e = .returned (.bool (Wk (edgesM x) f j)) ∧ Below W.heap.size W w') := fun j W hj hb => by
      have := ih (deep + 1) j W (by omega) hj (by have := hb.size; omega) (HX.out.below (hb.mono hB))
      rw [show ((deep + 1 : Nat) : Int) = (deep : Int) + 1 by omega] at this
      exact this
    have HS : Hid (∀ W, Below w.heap.size w W → Calls Tryz.prog 97 #[v.val x.name] W fun e w' => ∃ u, e = .returned u ∧ OwnS W.heap.size w' u (statesM x) ∧ Below W.heap.size W w') := fun W hb => l3States_any B v x W (by have := hb.size; omega) (by omega) (HX.out.below (hb.mono hB))
    obtain ⟨sb, soff, cs, eat, hsb, hq, hcell⟩ := IsArr.at hx.states (k := place) (by omega) hp
    obtain ⟨ma, mn, mc, ra, rn, rc, rfl, q1, q2, q3, q4, q5, q6⟩ := hq
    have lm := q5.1
    have hmm := hml x.states[place] (List.getElem_mem hp)
    have HQ := hidOf q5
    have s1 : w.cell? ⟨sb, soff + place * 3 + 1, none⟩ = some (.slice ma mn mc) := hcell 1 _ rfl
    have HOK : Hid (∀ m ∈ x.states[place].moves, 0 ≤ findM (statesM x) m.to ∧ m.to.size ≤ 1048576) := fun m hm => by
      have hs := List.getElem_mem hp
      have h1 := wsum_mem (f := wtSt) hs
      have h2 := wsum_mem (f := wtMo) hm
      have h3 : wsum wtMo x.states[place].moves ≤ wtSt x.states[place] := by unfold wtSt; omega
      have h4 : m.to.size ≤ wtMo m := by unfold wtMo; omega
      exact ⟨hok _ hs m hm, by omega⟩
    have HFS : Hid (∀ m ∈ x.states[place].moves, ∀ (B : Nat) (W : World) (a : Option Addr) (n c : Nat), OwnS B W (.slice a n c) (statesM x) → Calls Tryz.prog 34 #[.slice a n c, .string m.to] W fun e w' => e = .returned (.int .i64 (findM (statesM x) m.to)) ∧ w' = W) := fun m hm => findOwn_any (statesM x) m.to (by omega) hss (HOK.out m hm).2
    have hfl := hidOf (fun m => findM_lt (statesM x) m)
    obtain ⟨R, hR⟩ : ∃ R, Wk (edgesM x) (f + 1) place = R := ⟨_, rfl⟩
    have HR : Hid ((x.states[place].moves.any fun m => empB m.event && Wk (edgesM x) f (findM (statesM x) m.to).toNat) = R) := by show _ = R; rw [← wk_moves x f place hp]; exact hR
    rw [hR]
    obtain ⟨ml, hmls⟩ : ∃ l, x.states[place].moves = l := ⟨_, rfl⟩
    rw [hmls] at lm hmm HQ HOK HFS HR
    clear hR hmls hx hcell q5 q6 ih hok hml hss
    obtain ⟨ai, ni, ci, ao, no, co, av, nv, cv, at_, nt, ct⟩ := v
    obtain ⟨xn, hxn⟩ : ∃ n, x.name = n := ⟨_, rfl⟩
    simp only [BkV.val] at HS IH lt eat ⊢
    subst eat
    rw [hxn] at HS IH ⊢
    clear hxn
    have HTL := hidOf htl
    have HLT := hidOf lt
    have hgt : ¬ (nt : Int) < (deep : Int) := by omega
    have hpn : (place : Int) < (nt : Int) := by omega
    have hpn' : place < nt := by omega
    have hwd : IntKind.i64.wrap ((deep : Int) + 1) = (deep : Int) + 1 := by rw [IntKind.wrap_i64]; omega
    clear htl lt hd
    have HB0 : Hid (Below w.heap.size w (w.alloc (.cells #[.string xn, .slice ai ni ci, .slice ao no co, .slice av nv cv, .slice (some ⟨sb, soff, none⟩) nt ct] 34))) := (Below.refl _ _).alloc (Nat.le_refl _) _
    have BX0 := hidOf (boxAt_new w [.string xn, .slice ai ni ci, .slice ao no co, .slice av nv cv, .slice (some ⟨sb, soff, none⟩) nt ct] 34)
    have hs0 := (show Below w.heap.size w (w.alloc (.cells #[.string xn, .slice ai ni ci, .slice ao no co, .slice av nv cv, .slice (some ⟨sb, soff, none⟩) nt ct] 34)) from HB0.out).cell (p := ⟨sb, soff + place * 3 + 1, none⟩) (by simp; omega)
    have hsb0 : sb < w.heap.size := by omega
    go_enter Tryz.func66, Tryz.ntmps66
    go_wp2_with fail
    obtain ⟨W0, hW0⟩ : ∃ W0, (w.alloc (.cells #[.string xn, .slice ai ni ci, .slice ao no co, .slice av nv cv, .slice (some ⟨sb, soff, none⟩) nt ct] 34)) = W0 := ⟨_, rfl⟩
    rw [hW0] at HB0 hs0 ⊢
    have BX1 : Hid (BoxAt w.heap.size [.string xn, .slice ai ni ci, .slice ao no co, .slice av nv cv, .slice (some ⟨sb, soff, none⟩) nt ct] W0) := by show BoxAt _ _ W0; rw [← hW0]; exact BX0.out
    clear hW0 BX0
    go_loopw [7] (fun i wr => ∃ k : Nat, k ≤ mn ∧ i = .int .i64 k ∧ Hid (∀ j, (h : j < ml.length) → j < k → (empB ml[j].event && Wk (edgesM x) f (findM (statesM x) ml[j].to).toNat) = false) ∧ Below W0.heap.size W0 wr) (fun i _ => mn - (intOf i).toNat)
    case atStart => exact ⟨0, Nat.zero_le _, rfl, fun j _ h => absurd h (Nat.not_lt_zero _), Below.refl _ _⟩
    case round =>
      obtain ⟨k, hk, rfl, HK, hbel⟩ := hrel
      have HBw : Hid (Below w.heap.size w wr) := HB0.out.trans (hbel.mono HB0.out.size)
      have BX := hidOf (BX1.out.below hbel)
      have c0 : wr.cell? ⟨w.heap.size, 0, none⟩ = some (.string xn) := (BX.out.2 0 _ rfl).1
      have c1 : wr.cell? ⟨w.heap.size, 1, none⟩ = some (.slice ai ni ci) := (BX.out.2 1 _ rfl).1
      have c2 : wr.cell? ⟨w.heap.size, 2, none⟩ = some (.slice ao no co) := (BX.out.2 2 _ rfl).1
      have c3 : wr.cell? ⟨w.heap.size, 3, none⟩ = some (.slice av nv cv) := (BX.out.2 3 _ rfl).1
      have c4 : wr.cell? ⟨w.heap.size, 4, none⟩ = some (.slice (some ⟨sb, soff, none⟩) nt ct) := (BX.out.2 4 _ rfl).1
      have sx : w.heap.size < wr.heap.size := BX.out.1
      have t1 : wr.cell? ⟨sb, soff + place * 3 + 1, none⟩ = some (.slice ma mn mc) := (HBw.out.cell (p := ⟨sb, soff + place * 3 + 1, none⟩) hsb0).trans s1
      have hsr : sb < wr.heap.size := by have := HBw.out.size; omega
      by_cases hlt : k < mn
      · obtain ⟨b, off, cs, eab, hb, hq, hcell⟩ := IsArr.at (HQ.out.below (QMo.lift (HBw.out.mono hB)) (HBw.out.mono hB)) hlt (show k < ml.length by omega)
        have hbr : b < wr.heap.size := by have := HBw.out.size; omega
        have hmem : ml[k]'(by omega) ∈ ml := List.getElem_mem _
        obtain ⟨y, hy⟩ : ∃ y, ml[k]'(by omega) = y := ⟨_, rfl⟩
        rw [hy] at hq hmem
        obtain ⟨F, hF⟩ : ∃ F : Nat, findM (statesM x) y.to = F := ⟨(findM (statesM x) y.to).toNat, by have := (HOK.out y hmem).1; omega⟩
        have hFl : F < x.states.length := by have := (hfl.out y.to).2; have := HTL.out; omega
        have HFY := hidOf (HFS.out y hmem)
        rw [hF] at HFY
        obtain ⟨P, hP⟩ : ∃ P, Wk (edgesM x) f F = P := ⟨_, rfl⟩
        have IHY := hidOf (fun W hb => IH.out F W hFl hb)
        rw [hP] at IHY
        obtain ⟨E, hE⟩ : ∃ E, empB y.event = E := ⟨_, rfl⟩
        have HPE : Hid ((empB (ml[k]'(by omega)).event && Wk (edgesM x) f (findM (statesM x) (ml[k]'(by omega)).to).toNat) = (E && P)) := by
          show _ = _
          rw [hy, hF, hE]
          simp only [Int.toNat_natCast]
          rw [hP]
        have hE2 : y.event.toList.isEmpty = E := hE
        clear hy hF hP hE hmem hFl
        obtain ⟨y0, y1, y2⟩ := y
        unfold QMo at hq
        subst hq
        have e0 : wr.cell? ⟨b, off + k * 3, none⟩ = some (.string y0) := hcell 0 _ rfl
        have e1 : wr.cell? ⟨b, off + k * 3 + 1, none⟩ = some (.string y1) := hcell 1 _ rfl
        have e2 : wr.cell? ⟨b, off + k * 3 + 1 + 1, none⟩ = some (.string y2) := hcell 2 _ rfl
        simp only at HFY hE2
        clear hcell
        subst eab
        have HBm : Hid (Below w.heap.size w (wr.alloc (.cells #[.string y0, .string y1, .string y2] 69))) := HBw.out.alloc HBw.out.size _
        have hbm : Below wr.heap.size wr (wr.alloc (.cells #[.string y0, .string y1, .string y2] 69)) := (Below.refl _ _).alloc (Nat.le_refl _) _
        have HBn := hidOf hbm
        clear hbm
        cases E with
        | false =>
          go_wp2_with fail
          go_quiet (fail)
          go_wp2_with fail
          go_roundw
          case rel =>
            refine ⟨k + 1, by omega, by go_num, ?_, drewN (hbel.trans (HBn.out.mono hbel.size)) _⟩
            intro j hj hjk
            by_cases e : j = k
            · subst e; rw [HPE.out]; rfl
            · exact HK.out j hj (by omega)
          case measure => simp [intOf]; omega
        | true =>
          go_wp2_with fail
          go_region_held3 (fun w' => w'.cell? ⟨w.heap.size, 0, none⟩ = some (.string xn) ∧ w'.cell? ⟨w.heap.size, 1, none⟩ = some (.slice ai ni ci) ∧ w'.cell? ⟨w.heap.size, 2, none⟩ = some (.slice ao no co) ∧ w'.cell? ⟨w.heap.size, 3, none⟩ = some (.slice av nv cv) ∧ w'.cell? ⟨w.heap.size, 4, none⟩ = some (.slice (some ⟨sb, soff, none⟩) nt ct) ∧ w'.cell? ⟨wr.heap.size, 0, none⟩ = some (.string y0) ∧ w'.cell? ⟨wr.heap.size, 1, none⟩ = some (.string y1) ∧ w'.cell? ⟨wr.heap.size, 2, none⟩ = some (.string y2)) (simp [go_sem, *])
            (first
             | (go_at_call 97; refine (HS.out _ (by first | exact HBm.out | exact below_drew1 HBm.out)).mono ?_; rintro e w3 ⟨u3, rfl, o3, b3⟩; obtain ⟨a3, c3', e3, _⟩ := o3.form; subst e3; have HB3 : Hid (Below wr.heap.size wr w3) := HBn.out.trans ((undrew b3).mono HBn.out.size); have hs3 : wr.heap.size < w3.heap.size := (by have := b3.size; simp at this; omega); have ht3 : w.heap.size < w3.heap.size := (by omega); have HO3 := hidOf o3; obtain ⟨hc3, hf3⟩ := bcell (undrew b3); clear o3 b3 hf3)
             | (go_at_call 34; refine (HFY.out _ _ _ _ _ HO3.out).mono ?_; rintro e w' ⟨rfl, hw'⟩; rw [hw']; clear hw' w')
             | (go_at_call 66; refine (IHY.out _ (HBw.out.trans (HB3.out.mono HBw.out.size))).mono ?_; rintro e w4 ⟨rfl, b4⟩; have HB4 : Hid (Below wr.heap.size wr w4) := HB3.out.trans (b4.mono HB3.out.size); obtain ⟨hc4, hf4⟩ := bcell b4; clear b4 hf4))
          cases P with
          | true =>
            go_wp2_with fail
            go_ret
            exact ⟨ret_bool (by rw [← HR.out]; symm; rw [List.any_eq_true]; exact ⟨ml[k]'(by omega), List.getElem_mem _, HPE.out⟩), HBw.out.trans (HB4.out.mono HBw.out.size)⟩
          | false =>
            go_wp2_with fail
            go_roundw
            case rel =>
              refine ⟨k + 1, by omega, by go_num, ?_, hbel.trans (HB4.out.mono hbel.size)⟩
              intro j hj hjk
              by_cases e : j = k
              · subst e; rw [HPE.out]; rfl
              · exact HK.out j hj (by omega)
            case measure => simp [intOf]; omega
      · have HRF : Hid (R = false) := by
          show R = false
          rw [← HR.out, List.any_eq_false]
          intro m hm
          obtain ⟨j, hj, rfl⟩ := List.mem_iff_getElem.1 hm
          simpa using HK.out j hj (by omega)
        go_wp2_with fail
        go_ret
        exact ⟨ret_bool HRF.out.symm, HBw.out⟩
end Go.Proofs.YtchemhjcknkbgaaGreatDoor

/- The model's l3Check and BlockCheck: what is wrong with a block. -/
namespace Go.Proofs.YtchemhjcknkbgaaGreatDoor
open Go Go.RowKit Go.PlainAid
set_option linter.unusedSimpArgs false
set_option linter.unusedVariables false


theorem moves_found {x : Bk} {names : List ByteArray} (h : firstC (stateM x names) x.states = 0) : ∀ s ∈ x.states, ∀ m ∈ s.moves, 0 ≤ findM (statesM x) m.to := by
  intro s hs m hm
  have := (state_moves (firstC_all h s hs)).2.2.1 m hm
  unfold moveM at this
  split at this
  · cases this
  · split at this
    · cases this
    · omega
theorem state_size {x : Bk} {N : Nat} (h : wsum wtSt x.states ≤ N) : ∀ s ∈ x.states, wtSt s ≤ N := fun s hs => by have := wsum_mem (f := wtSt) hs; omega
set_option maxHeartbeats 3200000 in
set_option maxRecDepth 100000 in
theorem l3Check_any (B : Nat) (v : BkV) (x : Bk) (w : World) (hB : B ≤ w.heap.size) (hwt : wtBk x ≤ 1048576) (hx : IsBk B w v x) :
    Calls Tryz.prog 30 #[v.val x.name] w fun e w' => e = .returned (.int .i64 (checkM x)) ∧ Below w.heap.size w w' := by
  obtain ⟨p0, p1, p2, p3, p4, p5, p6, p7, p8, p9⟩ := wtBk_parts hwt
  have lt := hx.states.1
  have HX := hidOf hx
  have HNO : Hid (∀ W, Below w.heap.size w W → Calls Tryz.prog 64 #[v.val x.name] W fun e w' => e = .returned (.bool (decide (NamesOk x))) ∧ Below W.heap.size W w') := fun W hb => l3NamesOk_any B v x W (by have := hb.size; omega) hwt (HX.out.below (hb.mono hB))
  have HSS := hidOf (state_size p8)
  have HST : Hid (∀ W, Below w.heap.size w W → ∀ (s : St) (ma : Option Addr) (mn mc : Nat) (ra : Option Addr) (rn rc : Nat), wtSt s ≤ 1048576 → IsArr 3 QMo B W ma mn s.moves → IsArr 3 QAc B W ra rn s.acts → Calls Tryz.prog 65 #[v.val x.name, .agg #[.string s.name, .slice ma mn mc, .slice ra rn rc]] W fun e w' => e = .returned (.int .i64 (stateM x (namesM x) s)) ∧ Below W.heap.size W w') := fun W hb s ma mn mc ra rn rc hs h1 h2 => l3State_any B v x s ma mn mc ra rn rc W (by have := hb.size; omega) hwt hs (HX.out.below (hb.mono hB)) h1 h2
  have HRG : Hid (firstC (stateM x (namesM x)) x.states = 0 → ∀ W, Below w.heap.size w W → ∀ k : Nat, k < x.states.length → Calls Tryz.prog 66 #[v.val x.name, .int .i64 k, .int .i64 0] W fun e w' => e = .returned (.bool (Wk (edgesM x) (x.states.length + 1) k)) ∧ Below W.heap.size W w') := fun hz W hb k hk =>
    l3Ring_any B v x hwt (moves_found hz) (fun s hs => by have := HSS.out s hs; unfold wtSt at this; omega) (x.states.length + 1) 0 k W (by omega) hk (by have := hb.size; omega) (HX.out.below (hb.mono hB))
  have HQS : Hid (∀ W, Below w.heap.size w W → IsArr 3 QSt B W v.at_ v.nt x.states) := fun W hb => (HX.out.below (hb.mono hB)).states
  unfold checkM
  obtain ⟨R, hR⟩ : ∃ R, (if ¬ NamesOk x then (1 : Int) else if x.states = [] then 2 else if firstC (stateM x (namesM x)) x.states = 0 then (if ringM x then 6 else 0) else firstC (stateM x (namesM x)) x.states) = R := ⟨_, rfl⟩
  have HR := hidOf hR
  rw [hR]
  obtain ⟨NO, hNO⟩ : ∃ b, decide (NamesOk x) = b := ⟨_, rfl⟩
  rw [hNO] at HNO
  have KNO := hidOf hNO
  have hl6 : x.states.length ≤ 1048576 := p7
  clear hR hNO p0 p1 p2 p3 p4 p5 p6 p7 p8 p9 hwt hx HX
  obtain ⟨ai, ni, ci, ao, no, co, av, nv, cv, at_, nt, ct⟩ := v
  obtain ⟨xn, hxn⟩ : ∃ n, x.name = n := ⟨_, rfl⟩
  simp only [BkV.val] at HNO HST HRG HQS lt ⊢
  rw [hxn] at HNO HST HRG ⊢
  clear hxn
  have HLT := hidOf lt
  have hnt : nt ≤ 1048576 := by omega
  have BX0 := hidOf (boxAt_new w [.string xn, .slice ai ni ci, .slice ao no co, .slice av nv cv, .slice at_ nt ct] 34)
  go_enter Tryz.func30, Tryz.ntmps30
  go_wp2_with fail
  refine (HNO.out _ (by go_grown)).mono ?_
  rintro e w1 ⟨rfl, b1⟩
  have HB1 := hidOf (below_boxed b1)
  have BX1 := hidOf (BX0.out.below b1)
  clear b1 BX0
  cases NO with
  | false =>
    go_wp2_with fail
    go_ret
    exact ⟨ret_int (by rw [← HR.out, if_pos (of_decide_eq_false KNO.out)]), HB1.out⟩
  | true =>
  have HNK : Hid (¬ ¬ NamesOk x) := fun h => h (of_decide_eq_true KNO.out)
  have c0 : w1.cell? ⟨w.heap.size, 0, none⟩ = some (.string xn) := (BX1.out.2 0 _ rfl).1
  have c1 : w1.cell? ⟨w.heap.size, 1, none⟩ = some (.slice ai ni ci) := (BX1.out.2 1 _ rfl).1
  have c2 : w1.cell? ⟨w.heap.size, 2, none⟩ = some (.slice ao no co) := (BX1.out.2 2 _ rfl).1
  have c3 : w1.cell? ⟨w.heap.size, 3, none⟩ = some (.slice av nv cv) := (BX1.out.2 3 _ rfl).1
  have c4 : w1.cell? ⟨w.heap.size, 4, none⟩ = some (.slice at_ nt ct) := (BX1.out.2 4 _ rfl).1
  have sx : w.heap.size < w1.heap.size := BX1.out.1
  by_cases h0 : nt = 0
  · have HE0 : Hid (x.states = []) := List.eq_nil_of_length_eq_zero (by omega)
    go_wp2_with fail
    go_ret
    exact ⟨ret_int (by rw [← HR.out, if_neg HNK.out, if_pos HE0.out]), HB1.out⟩
  have h0' : ((nt : Int) == 0) = false := by simp; omega
  have HE0 : Hid (x.states ≠ []) := fun h => by rw [h] at lt; simp at lt; omega
  clear lt
  go_wp2_with fail
  clear c0 c1 c2 c3 c4 sx
  go_loopw [3] (fun i wr => ∃ k : Nat, k ≤ nt ∧ i = .int .i64 k ∧ Hid (∀ j, (h : j < x.states.length) → j < k → stateM x (namesM x) x.states[j] = 0) ∧ Below w1.heap.size w1 wr) (fun i _ => nt - (intOf i).toNat)
  case atStart => exact ⟨0, Nat.zero_le _, rfl, fun j _ h => absurd h (Nat.not_lt_zero _), Below.refl _ _⟩
  case round =>
    obtain ⟨k, hk, rfl, HK, hbel⟩ := hrel
    have HBw : Hid (Below w.heap.size w wr) := HB1.out.trans (hbel.mono HB1.out.size)
    have BX := hidOf (BX1.out.below hbel)
    have c0 : wr.cell? ⟨w.heap.size, 0, none⟩ = some (.string xn) := (BX.out.2 0 _ rfl).1
    have c1 : wr.cell? ⟨w.heap.size, 1, none⟩ = some (.slice ai ni ci) := (BX.out.2 1 _ rfl).1
    have c2 : wr.cell? ⟨w.heap.size, 2, none⟩ = some (.slice ao no co) := (BX.out.2 2 _ rfl).1
    have c3 : wr.cell? ⟨w.heap.size, 3, none⟩ = some (.slice av nv cv) := (BX.out.2 3 _ rfl).1
    have c4 : wr.cell? ⟨w.heap.size, 4, none⟩ = some (.slice at_ nt ct) := (BX.out.2 4 _ rfl).1
    have sx : w.heap.size < wr.heap.size := BX.out.1
    by_cases hlt : k < nt
    · have hkl : k < x.states.length := by have := HLT.out; omega
      obtain ⟨b, off, cs, eab, hb, hq, hcell⟩ := IsArr.at (HQS.out wr HBw.out) hlt hkl
      have hbr : b < wr.heap.size := by have := HBw.out.size; omega
      obtain ⟨y, hy⟩ : ∃ y, x.states[k] = y := ⟨_, rfl⟩
      have hwy : wtSt y ≤ 1048576 := by rw [← hy]; exact HSS.out _ (List.getElem_mem hkl)
      rw [hy] at hq
      obtain ⟨ma, mn, mc, ra, rn, rc, rfl, q1, q2, q3, q4, q5, q6⟩ := hq
      have HE : Hid (∀ W, Below wr.heap.size wr W → Calls Tryz.prog 65 #[.agg #[.string xn, .slice ai ni ci, .slice ao no co, .slice av nv cv, .slice at_ nt ct], .agg #[.string y.name, .slice ma mn mc, .slice ra rn rc]] W fun e w' => e = .returned (.int .i64 (stateM x (namesM x) y)) ∧ Below W.heap.size W w') := fun W hb => HST.out W (HBw.out.trans (hb.mono HBw.out.size)) y ma mn mc ra rn rc hwy (q5.below (QMo.lift (hb.mono (by have := HBw.out.size; omega))) (hb.mono (by have := HBw.out.size; omega))) (q6.below (QAc.lift (hb.mono (by have := HBw.out.size; omega))) (hb.mono (by have := HBw.out.size; omega)))
      obtain ⟨C, hC⟩ : ∃ C, stateM x (namesM x) y = C := ⟨_, rfl⟩
      rw [hC] at HE
      have HC : Hid (stateM x (namesM x) x.states[k] = C) := by show _ = _; rw [hy]; exact hC
      have HKL := hidOf hkl
      clear hC hy hwy q5 q6
      obtain ⟨y0, hy0⟩ : ∃ y0, y.name = y0 := ⟨_, rfl⟩
      rw [hy0] at HE hcell
      clear hy0
      have e0 : wr.cell? ⟨b, off + k * 3, none⟩ = some (.string y0) := hcell 0 _ rfl
      have e1 : wr.cell? ⟨b, off + k * 3 + 1, none⟩ = some (.slice ma mn mc) := hcell 1 _ rfl
      have e2 : wr.cell? ⟨b, off + k * 3 + 1 + 1, none⟩ = some (.slice ra rn rc) := hcell 2 _ rfl
      clear hcell
      subst eab
      go_wp2_with fail
      go_region_held3 (fun w' => w'.cell? ⟨w.heap.size, 0, none⟩ = some (.string xn) ∧ w'.cell? ⟨w.heap.size, 1, none⟩ = some (.slice ai ni ci) ∧ w'.cell? ⟨w.heap.size, 2, none⟩ = some (.slice ao no co) ∧ w'.cell? ⟨w.heap.size, 3, none⟩ = some (.slice av nv cv) ∧ w'.cell? ⟨w.heap.size, 4, none⟩ = some (.slice (some ⟨b, off, none⟩) nt ct) ∧ w'.cell? ⟨b, off + k * 3, none⟩ = some (.string y0) ∧ w'.cell? ⟨b, off + k * 3 + 1, none⟩ = some (.slice ma mn mc) ∧ w'.cell? ⟨b, off + k * 3 + 1 + 1, none⟩ = some (.slice ra rn rc)) (simp [go_sem, *])
        (first | (go_at_call 65; refine (HE.out _ (by first | exact Below.refl _ _ | exact below_drew1 (Below.refl _ _))).mono ?_; rintro e w2 ⟨rfl, b2⟩; replace b2 : Below wr.heap.size wr w2 := undrew b2; have HB2 := hidOf b2; obtain ⟨hc2, hf2⟩ := bcell b2; clear b2 hf2))
      by_cases hC0 : C = 0
      · subst hC0
        go_wp2_with fail
        go_roundw
        case rel =>
          refine ⟨k + 1, by omega, by go_num, ?_, hbel.trans (HB2.out.mono hbel.size)⟩
          intro j hj hjk
          by_cases e : j = k
          · subst e; exact HC.out
          · exact HK.out j hj (by omega)
        case measure => simp [intOf]; omega
      · have hC1 : (C == 0) = false := by simp [hC0]
        go_wp2_with fail
        go_ret
        exact ⟨ret_int (by rw [← HR.out, if_neg HNK.out, if_neg HE0.out, if_neg (by rw [firstC_at HKL.out (fun j hj hjk => HK.out j hj hjk) (by rw [HC.out]; exact hC0), HC.out]; exact hC0), firstC_at HKL.out (fun j hj hjk => HK.out j hj hjk) (by rw [HC.out]; exact hC0), HC.out]), HBw.out.trans (HB2.out.mono HBw.out.size)⟩
    · have HZ : Hid (firstC (stateM x (namesM x)) x.states = 0) := firstC_zero fun j hj => HK.out j hj (by have := HLT.out; omega)
      have HBx := hidOf hbel
      have HRG2 := hidOf (HRG.out HZ.out)
      clear HK hbel
      go_wp2_with fail
      clear hk c0 c1 c2 c3 c4 sx
      try clear hlt
      go_loopw [5] (fun i wr => ∃ k : Nat, k ≤ nt ∧ i = .int .i64 k ∧ Hid (∀ j, j < k → Wk (edgesM x) (x.states.length + 1) j = false) ∧ Below w1.heap.size w1 wr) (fun i _ => nt - (intOf i).toNat)
      case atStart => exact ⟨0, Nat.zero_le _, rfl, fun j h => absurd h (Nat.not_lt_zero _), HBx.out⟩
      case round =>
        obtain ⟨k, hk, rfl, HK, hbel⟩ := hrel
        have HBw : Hid (Below w.heap.size w wr) := HB1.out.trans (hbel.mono HB1.out.size)
        have BX := hidOf (BX1.out.below hbel)
        have c0 : wr.cell? ⟨w.heap.size, 0, none⟩ = some (.string xn) := (BX.out.2 0 _ rfl).1
        have c1 : wr.cell? ⟨w.heap.size, 1, none⟩ = some (.slice ai ni ci) := (BX.out.2 1 _ rfl).1
        have c2 : wr.cell? ⟨w.heap.size, 2, none⟩ = some (.slice ao no co) := (BX.out.2 2 _ rfl).1
        have c3 : wr.cell? ⟨w.heap.size, 3, none⟩ = some (.slice av nv cv) := (BX.out.2 3 _ rfl).1
        have c4 : wr.cell? ⟨w.heap.size, 4, none⟩ = some (.slice at_ nt ct) := (BX.out.2 4 _ rfl).1
        have sx : w.heap.size < wr.heap.size := BX.out.1
        by_cases hlt : k < nt
        · have HKL : Hid (k < x.states.length) := by show k < _; have := HLT.out; omega
          have HE := hidOf (HRG2.out wr HBw.out k HKL.out)
          obtain ⟨P, hP⟩ : ∃ P, Wk (edgesM x) (x.states.length + 1) k = P := ⟨_, rfl⟩
          rw [hP] at HE
          have HP := hidOf hP
          clear hP
          cases P with
          | true =>
            go_wp2_with fail
            refine HE.out.mono ?_
            rintro e w2 ⟨rfl, b2⟩
            have HB2 := hidOf b2
            clear b2
            go_wp2_with fail
            go_ret
            exact ⟨ret_int (by rw [← HR.out, if_neg HNK.out, if_neg HE0.out, if_pos HZ.out, if_pos (by unfold ringM; rw [List.any_eq_true]; exact ⟨k, List.mem_range.2 HKL.out, HP.out⟩)]), HBw.out.trans (HB2.out.mono HBw.out.size)⟩
          | false =>
            go_wp2_with fail
            refine HE.out.mono ?_
            rintro e w2 ⟨rfl, b2⟩
            have HB2 := hidOf b2
            clear b2
            go_wp2_with fail
            go_roundw
            case rel =>
              refine ⟨k + 1, by omega, by go_num, ?_, hbel.trans (HB2.out.mono hbel.size)⟩
              intro j hjk
              have hjk2 : j < k + 1 := hjk
              by_cases e : j = k
              · subst e; exact HP.out
              · exact HK.out j (by omega)
            case measure => simp [intOf]; omega
        · have HNR : Hid (¬ ringM x = true) := by
            show ¬ _
            unfold ringM
            rw [Bool.not_eq_true, List.any_eq_false]
            intro j hj
            rw [HK.out j (by have h1 := List.mem_range.1 hj; have h2 : x.states.length = nt := HLT.out; omega)]
            simp
          go_wp2_with fail
          go_ret
          exact ⟨ret_int (by rw [← HR.out, if_neg HNK.out, if_neg HE0.out, if_pos HZ.out, if_neg HNR.out]), HBw.out⟩
end Go.Proofs.YtchemhjcknkbgaaGreatDoor
