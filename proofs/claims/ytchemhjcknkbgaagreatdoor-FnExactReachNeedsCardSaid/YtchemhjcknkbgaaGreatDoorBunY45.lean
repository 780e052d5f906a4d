/- The program's codes of what is wrong with a state, and with all of them. -/
import Derived.Test.YtchemhjcknkbgaaGreatDoorCodesOf
import Derived.Test.YtchemhjcknkbgaaGreatDoorBunY38
import Derived.Deep.RegionWith
namespace Go.Proofs.YtchemhjcknkbgaaGreatDoor
open Go Go.RowKit Go.PlainAid
set_option linter.unusedSimpArgs false
set_option linter.unusedVariables false


set_option maxHeartbeats 1600000 in
set_option maxRecDepth 100000 in
theorem stateCode1_any (sn : ByteArray) (ma : Option Addr) (mn mc : Nat) (ra : Option Addr) (rn rc : Nat) (gs : Nat) (W : World) (hmn : mn ≤ 1048576) (hrn : rn ≤ 1048576) (bs : BoxAt gs [.string sn, .slice ma mn mc, .slice ra rn rc] W) :
    Calls Tryz.prog 171 #[.pointer (some ⟨gs, 0, none⟩)] W fun e w' => e = .returned (.int .i64 (cfI (decide (4 < mn ∨ 4 < rn)) 1)) ∧ Below W.heap.size W w' := by
  have d0 : W.cell? ⟨gs, 0, none⟩ = some (.string sn) := (bs.2 0 _ rfl).1
  have d1 : W.cell? ⟨gs, 1, none⟩ = some (.slice ma mn mc) := (bs.2 1 _ rfl).1
  have d2 : W.cell? ⟨gs, 2, none⟩ = some (.slice ra rn rc) := (bs.2 2 _ rfl).1
  have ss : gs < W.heap.size := bs.1
  clear bs
  by_cases h4 : 4 < mn
  · have HCI := hidOf (fun W => codeIf_cf true 1 W)
    have HR : Hid (cfI (decide (4 < mn ∨ 4 < rn)) 1 = cfI true 1) := by show _ = _; rw [decide_eq_true (.inl h4)]
    rw [HR.out]
    go_enter Tryz.func171, Tryz.ntmps171
    go_wp2_with fail
    refine (HCI.out _).mono ?_
    rintro e w' ⟨rfl, hw'⟩
    rw [hw']
    clear hw' w'
    go_wp2_with fail
    go_ret
    exact ⟨rfl, Below.refl _ _⟩
  · have HR : Hid (cfI (decide (4 < mn ∨ 4 < rn)) 1 = cfI (decide (4 < (mn : Int)) || decide (4 < (rn : Int))) 1) := by
      show _ = _
      have e : decide (4 < mn ∨ 4 < rn) = (decide (4 < (mn : Int)) || decide (4 < (rn : Int))) := by
        rw [Bool.decide_or, decide_eq_decide.2 (show 4 < mn ↔ 4 < (mn : Int) by omega), decide_eq_decide.2 (show 4 < rn ↔ 4 < (rn : Int) by omega)]
      rw [e]
    have HCI := hidOf (fun W => codeIf_cf (decide (4 < (mn : Int)) || decide (4 < (rn : Int))) 1 W)
    rw [HR.out]
    go_enter Tryz.func171, Tryz.ntmps171
    go_wp2_with fail
    refine (HCI.out _).mono ?_
    rintro e w' ⟨rfl, hw'⟩
    rw [hw']
    clear hw' w'
    go_wp2_with fail
    go_ret
    exact ⟨rfl, Below.refl _ _⟩

set_option maxHeartbeats 1600000 in
set_option maxRecDepth 100000 in
theorem stateCode2_any (B : Nat) (v : BkV) (x : Bk) (na : Option Addr) (nn nc : Nat) (sn : ByteArray) (l : List Mo) (ma : Option Addr) (mn mc : Nat) (ra : Option Addr) (rn rc : Nat) (gs gf : Nat) (W : World) (hwt : wtBk x ≤ 1048576) (hf : FewNames x) (hw : wsum wtMo l ≤ 1048576) (hl : l.length ≤ 1048576) (hF : IsForm B W v x na nn) (hq : IsArr 3 QMo B W ma mn l) (bs : BoxAt gs [.string sn, .slice ma mn mc, .slice ra rn rc] W) (bf : BoxAt gf (formL x.name v na nn nc) W) :
    Calls Tryz.prog 172 #[.pointer (some ⟨gs, 0, none⟩), .pointer (some ⟨gf, 0, none⟩)] W fun e w' => e = .returned (.int .i64 (firstC (moveM x (concatM x)) l)) ∧ Below W.heap.size W w' := by
  have hn := hq.1
  have HFC := hidOf (fcoMove_any B ma mn mc l (formV x.name v na nn nc) (moveM x (concatM x)) W hF.le (by omega) hq (fun W' y hb hy => moveCode_any B v x na nn nc y W' hwt hf (by have := wsum_mem (f := wtMo) hy; omega) (hF.below hb)))
  obtain ⟨R, hR⟩ : ∃ R, firstC (moveM x (concatM x)) l = R := ⟨_, rfl⟩
  rw [hR] at HFC ⊢
  obtain ⟨ai, ni, ci, ao, no, co, av, nv, cv, at_, nt, ct⟩ := v
  unfold formL at bf
  unfold formV at HFC
  simp only at bf HFC
  obtain ⟨xn, hxn⟩ : ∃ n, x.name = n := ⟨_, rfl⟩
  rw [hxn] at bf HFC
  have d0 : W.cell? ⟨gs, 0, none⟩ = some (.string sn) := (bs.2 0 _ rfl).1
  have d1 : W.cell? ⟨gs, 1, none⟩ = some (.slice ma mn mc) := (bs.2 1 _ rfl).1
  have d2 : W.cell? ⟨gs, 2, none⟩ = some (.slice ra rn rc) := (bs.2 2 _ rfl).1
  have ss : gs < W.heap.size := bs.1
  have c0 : W.cell? ⟨gf, 0, none⟩ = some (.string xn) := (bf.2 0 _ rfl).1
  have c1 : W.cell? ⟨gf, 1, none⟩ = some (.slice ai ni ci) := (bf.2 1 _ rfl).1
  have c2 : W.cell? ⟨gf, 2, none⟩ = some (.slice ao no co) := (bf.2 2 _ rfl).1
  have c3 : W.cell? ⟨gf, 3, none⟩ = some (.slice av nv cv) := (bf.2 3 _ rfl).1
  have c4 : W.cell? ⟨gf, 4, none⟩ = some (.slice at_ nt ct) := (bf.2 4 _ rfl).1
  have c5 : W.cell? ⟨gf, 5, none⟩ = some (.slice na nn nc) := (bf.2 5 _ rfl).1
  have sf : gf < W.heap.size := bf.1
  clear hR hxn hF bs bf hwt hf hw hl hq hn
  go_enter Tryz.func172, Tryz.ntmps172
  go_wp2_with fail
  refine HFC.out.mono ?_
  rintro e w1 ⟨rfl, b1⟩
  have HB1 := hidOf b1
  clear b1
  go_wp2_with fail
  go_ret
  exact ⟨rfl, HB1.out⟩

set_option maxHeartbeats 1600000 in
set_option maxRecDepth 100000 in
theorem stateCode3_any (B : Nat) (v : BkV) (x : Bk) (na : Option Addr) (nn nc : Nat) (sn : ByteArray) (l : List Ac) (ma : Option Addr) (mn mc : Nat) (ra : Option Addr) (rn rc : Nat) (gs gf : Nat) (W : World) (hwt : wtBk x ≤ 1048576) (hf : FewNames x) (hw : wsum wtAc l ≤ 1048576) (hl : l.length ≤ 1048576) (hF : IsForm B W v x na nn) (hq : IsArr 3 QAc B W ra rn l) (bs : BoxAt gs [.string sn, .slice ma mn mc, .slice ra rn rc] W) (bf : BoxAt gf (formL x.name v na nn nc) W) :
    Calls Tryz.prog 175 #[.pointer (some ⟨gs, 0, none⟩), .pointer (some ⟨gf, 0, none⟩)] W fun e w' => e = .returned (.int .i64 (firstC (actI x (concatM x)) l)) ∧ Below W.heap.size W w' := by
  have hn := hq.1
  have HFC := hidOf (fcoAct_any B ra rn rc l (formV x.name v na nn nc) (actI x (concatM x)) W hF.le (by omega) hq (fun W' y hb hy => actCode_any B v x na nn nc y W' hwt hf (by have := wsum_mem (f := wtAc) hy; omega) (hF.below hb)))
  obtain ⟨R, hR⟩ : ∃ R, firstC (actI x (concatM x)) l = R := ⟨_, rfl⟩
  rw [hR] at HFC ⊢
  obtain ⟨ai, ni, ci, ao, no, co, av, nv, cv, at_, nt, ct⟩ := v
  unfold formL at bf
  unfold formV at HFC
  simp only at bf HFC
  obtain ⟨xn, hxn⟩ : ∃ n, x.name = n := ⟨_, rfl⟩
  rw [hxn] at bf HFC
  have d0 : W.cell? ⟨gs, 0, none⟩ = some (.string sn) := (bs.2 0 _ rfl).1
  have d1 : W.cell? ⟨gs, 1, none⟩ = some (.slice ma mn mc) := (bs.2 1 _ rfl).1
  have d2 : W.cell? ⟨gs, 2, none⟩ = some (.slice ra rn rc) := (bs.2 2 _ rfl).1
  have ss : gs < W.heap.size := bs.1
  have c0 : W.cell? ⟨gf, 0, none⟩ = some (.string xn) := (bf.2 0 _ rfl).1
  have c1 : W.cell? ⟨gf, 1, none⟩ = some (.slice ai ni ci) := (bf.2 1 _ rfl).1
  have c2 : W.cell? ⟨gf, 2, none⟩ = some (.slice ao no co) := (bf.2 2 _ rfl).1
  have c3 : W.cell? ⟨gf, 3, none⟩ = some (.slice av nv cv) := (bf.2 3 _ rfl).1
  have c4 : W.cell? ⟨gf, 4, none⟩ = some (.slice at_ nt ct) := (bf.2 4 _ rfl).1
  have c5 : W.cell? ⟨gf, 5, none⟩ = some (.slice na nn nc) := (bf.2 5 _ rfl).1
  have sf : gf < W.heap.size := bf.1
  clear hR hxn hF bs bf hwt hf hw hl hq hn
  go_enter Tryz.func175, Tryz.ntmps175
  go_wp2_with fail
  refine HFC.out.mono ?_
  rintro e w1 ⟨rfl, b1⟩
  have HB1 := hidOf b1
  clear b1
  go_wp2_with fail
  go_ret
  exact ⟨rfl, HB1.out⟩

set_option maxHeartbeats 1600000 in
set_option maxRecDepth 100000 in
theorem stateCode_any (B : Nat) (v : BkV) (x : Bk) (na : Option Addr) (nn nc : Nat) (s : St) (ma : Option Addr) (mn mc : Nat) (ra : Option Addr) (rn rc : Nat) (w : World) (hwt : wtBk x ≤ 1048576) (hf : FewNames x) (hst : wtSt s ≤ 1048576) (hF : IsForm B w v x na nn) (hqm : IsArr 3 QMo B w ma mn s.moves) (hqa : IsArr 3 QAc B w ra rn s.acts) :
    Calls Tryz.prog 128 #[formV x.name v na nn nc, .agg #[.string s.name, .slice ma mn mc, .slice ra rn rc]] w fun e w' => e = .returned (.int .i64 (stateI x (concatM x) s)) ∧ Below w.heap.size w w' := by
  obtain ⟨sn, sm, sr⟩ := s
  simp only at hqm hqa ⊢
  have lm := hqm.1
  have lr := hqa.1
  have hsm : wsum wtMo sm ≤ 1048576 := by unfold wtSt at hst; simp only at hst; omega
  have hsr : wsum wtAc sr ≤ 1048576 := by unfold wtSt at hst; simp only at hst; omega
  have hml : sm.length ≤ 1048576 := by unfold wtSt at hst; simp only at hst; omega
  have hrl : sr.length ≤ 1048576 := by unfold wtSt at hst; simp only at hst; omega
  obtain ⟨WB, hWB⟩ : ∃ W, (w.alloc (.cells (formL x.name v na nn nc).toArray 131)).alloc (.cells #[.string sn, .slice ma mn mc, .slice ra rn rc] 65) = W := ⟨_, rfl⟩
  have hbW : Below w.heap.size w WB := by rw [← hWB]; exact below_two (Nat.le_refl _)
  have hsW : WB.heap.size = w.heap.size + 2 := by rw [← hWB]; simp
  have hfm : IsForm B WB v x na nn := hF.below hbW
  have bf : BoxAt w.heap.size (formL x.name v na nn nc) WB := by rw [← hWB]; exact (boxAt_new w (formL x.name v na nn nc) 131).below ((Below.refl _ _).alloc (Nat.le_refl _) _)
  have bm : BoxAt (w.heap.size + 1) [.string sn, .slice ma mn mc, .slice ra rn rc] WB := by rw [← hWB]; exact boxAt_next w _ [.string sn, .slice ma mn mc, .slice ra rn rc] 65
  obtain ⟨c1, hc1⟩ : ∃ c : Int, cfI (decide (4 < mn ∨ 4 < rn)) 1 = c := ⟨_, rfl⟩
  obtain ⟨c2, hc2⟩ : ∃ c : Int, firstC (moveM x (concatM x)) sm = c := ⟨_, rfl⟩
  obtain ⟨c3, hc3⟩ : ∃ c : Int, firstC (actI x (concatM x)) sr = c := ⟨_, rfl⟩
  have hres : stateI x (concatM x) ⟨sn, sm, sr⟩ = firstN [c1, c2, c3] := by
    unfold stateI firstN
    simp only
    rw [hc2, hc3, ← hc1]
    simp only [firstC, id]
    unfold cfI
    by_cases h1 : 4 < mn ∨ 4 < rn
    · rw [if_pos (by rw [lm, lr]; exact h1), decide_eq_true h1]; rfl
    · rw [if_neg (by rw [lm, lr]; exact h1), decide_eq_false h1]
      simp only [Bool.false_eq_true, if_false, if_true]
      by_cases h2 : c2 = 0
      · rw [if_pos h2, if_pos h2]
        by_cases h3 : c3 = 0
        · rw [if_pos h3, h3]
        · rw [if_neg h3]
      · rw [if_neg h2, if_neg h2]
  have HFC : Hid (∀ t, Calls Tryz.prog 73 #[.slice (some ⟨w.heap.size + 2, 0, none⟩) 3 3] (WB.alloc (.cells #[.func (Fn.func 171) #[] #[.pointer (some ⟨w.heap.size + 1, 0, none⟩)], .func (Fn.func 172) #[] #[.pointer (some ⟨w.heap.size + 1, 0, none⟩), .pointer (some ⟨w.heap.size, 0, none⟩)], .func (Fn.func 175) #[] #[.pointer (some ⟨w.heap.size + 1, 0, none⟩), .pointer (some ⟨w.heap.size, 0, none⟩)]] t)) fun e w' => e = .returned (.int .i64 (firstN [c1, c2, c3])) ∧ Below w.heap.size w w') := by
    intro t
    have hba : ∀ o, Below WB.heap.size WB (WB.alloc o) := fun o => (Below.refl _ _).alloc (Nat.le_refl _) _
    refine (firstCode_any (w.heap.size + 2) 3 3 [(171, [.pointer (some ⟨w.heap.size + 1, 0, none⟩)]), (172, [.pointer (some ⟨w.heap.size + 1, 0, none⟩), .pointer (some ⟨w.heap.size, 0, none⟩)]), (175, [.pointer (some ⟨w.heap.size + 1, 0, none⟩), .pointer (some ⟨w.heap.size, 0, none⟩)])] [c1, c2, c3] _ (by simp; omega) rfl rfl (by decide) ?_ ?_ ?_).mono fun e w' ⟨h1, h2⟩ => ⟨h1, hbW.trans (((hba _).trans (h2.mono (hba _).size)).mono hbW.size)⟩
    · intro k hk
      have hk3 : k = 0 ∨ k = 1 ∨ k = 2 := by simp at hk; omega
      rcases hk3 with rfl | rfl | rfl <;> (rw [← hsW]; simp)
    · intro k hk
      have hk3 : k = 0 ∨ k = 1 ∨ k = 2 := by simp at hk; omega
      rcases hk3 with rfl | rfl | rfl
      · exact fun args u => by kernel_rfl
      · exact fun args u => by kernel_rfl
      · exact fun args u => by kernel_rfl
    · intro k hk hkc _ W hb
      have hbb := (hba _).trans (hb.mono (hba _).size)
      have hbw := hbW.trans (hbb.mono hbW.size)
      have hk3 : k = 0 ∨ k = 1 ∨ k = 2 := by simp at hk; omega
      rcases hk3 with rfl | rfl | rfl
      · have := stateCode1_any sn ma mn mc ra rn rc (w.heap.size + 1) W (by omega) (by omega) (bm.below hbb)
        rw [hc1] at this
        exact this
      · have := stateCode2_any B v x na nn nc sn sm ma mn mc ra rn rc (w.heap.size + 1) w.heap.size W hwt hf hsm hml (hfm.below hbb) (hqm.below (QMo.lift (hbw.mono hF.le)) (hbw.mono hF.le)) (bm.below hbb) (bf.below hbb)
        rw [hc2] at this
        exact this
      · have := stateCode3_any B v x na nn nc sn sr ma mn mc ra rn rc (w.heap.size + 1) w.heap.size W hwt hf hsr hrl (hfm.below hbb) (hqa.below (QAc.lift (hbw.mono hF.le)) (hbw.mono hF.le)) (bm.below hbb) (bf.below hbb)
        rw [hc3] at this
        exact this
  rw [hres]
  obtain ⟨R, hR⟩ : ∃ R, firstN [c1, c2, c3] = R := ⟨_, rfl⟩
  rw [hR] at HFC ⊢
  rw [← hWB] at HFC
  clear hres hR hc1 hc2 hc3 hfm bf bm hF hbW hsW hWB hqm hqa
  obtain ⟨ai, ni, ci, ao, no, co, av, nv, cv, at_, nt, ct⟩ := v
  unfold formV
  unfold formL at HFC
  simp only at HFC ⊢
  obtain ⟨xn, hxn⟩ : ∃ n, x.name = n := ⟨_, rfl⟩
  rw [hxn] at HFC ⊢
  clear hxn
  go_enter Tryz.func128, Tryz.ntmps128
  go_wp2_with fail
  refine (HFC.out _).mono ?_
  rintro e w1 ⟨rfl, b1⟩
  have HB1 := hidOf b1
  clear b1
  go_wp2_with fail
  go_ret
  exact ⟨rfl, HB1.out⟩
set_option maxHeartbeats 1600000 in
set_option maxRecDepth 100000 in
theorem statesCode_any (B : Nat) (v : BkV) (x : Bk) (na : Option Addr) (nn nc : Nat) (w : World) (hwt : wtBk x ≤ 1048576) (hf : FewNames x) (hF : IsForm B w v x na nn) :
    Calls Tryz.prog 79 #[formV x.name v na nn nc] w fun e w' => e = .returned (.int .i64 (firstC (stateI x (concatM x)) x.states)) ∧ Below w.heap.size w w' := by
  obtain ⟨p0, p1, p2, p3, p4, p5, p6, p7, p8, p9⟩ := wtBk_parts hwt
  have lt := hF.blk.states.1
  have HFC : Hid (∀ o, Calls Tryz.prog 127 #[.slice v.at_ v.nt v.ct, .func (Fn.func 128) #[formV x.name v na nn nc] #[]] (w.alloc o) fun e w' => e = .returned (.int .i64 (firstC (stateI x (concatM x)) x.states)) ∧ Below (w.alloc o).heap.size (w.alloc o) w') := fun o => by
    have hb : Below w.heap.size w (w.alloc o) := (Below.refl _ _).alloc (Nat.le_refl _) _
    have hF2 := hF.below hb
    exact fcoState_any B v.at_ v.nt v.ct x.states (formV x.name v na nn nc) (stateI x (concatM x)) (w.alloc o) hF2.le (by omega) hF2.blk.states (fun W y ma mn mc ra rn rc hb' hy h1 h2 => stateCode_any B v x na nn nc y ma mn mc ra rn rc W hwt hf (by have := wsum_mem (f := wtSt) hy; omega) (hF2.below hb') h1 h2)
  obtain ⟨R, hR⟩ : ∃ R, firstC (stateI x (concatM x)) x.states = R := ⟨_, rfl⟩
  rw [hR] at HFC ⊢
  clear hR hF lt p0 p1 p2 p3 p4 p5 p6 p7 p8 p9 hwt hf
  obtain ⟨ai, ni, ci, ao, no, co, av, nv, cv, at_, nt, ct⟩ := v
  unfold formV at HFC ⊢
  simp only at HFC ⊢
  obtain ⟨xn, hxn⟩ : ∃ n, x.name = n := ⟨_, rfl⟩
  rw [hxn] at HFC ⊢
  clear hxn
  go_enter Tryz.func79, Tryz.ntmps79
  go_wp2_with fail
  refine (HFC.out _).mono ?_
  rintro e w1 ⟨rfl, b1⟩
  have HB1 := hidOf (below_boxed b1)
  clear b1
  go_wp2_with fail
  go_ret
  exact ⟨rfl, HB1.out⟩
end Go.Proofs.YtchemhjcknkbgaaGreatDoor

/- The program's hasRing, its function literal; slices.Contains at bools. -/
namespace Go.Proofs.YtchemhjcknkbgaaGreatDoor
open Go Go.RowKit Go.PlainAid
set_option linter.unusedSimpArgs false
set_option linter.unusedVariables false

set_option maxHeartbeats 800000 in
theorem containsB_any (g n c : Nat) (L : List Bool) (w : World) (hn : L.length = n) (hn5 : n ≤ 1048576) (hb : BoxAt g (L.map Value.bool) w) :
    Calls Tryz.prog 132 #[.slice (some ⟨g, 0, none⟩) n c, .bool false] w fun e w' => e = .returned (.bool (L.any fun x => !x)) ∧ w' = w := by
  have HI : Hid (Calls Tryz.prog 181 #[.slice (some ⟨g, 0, none⟩) n c, .bool false] w fun e w' => e = .returned (.int .i64 (idxM (fun x => !x) L)) ∧ w' = w) := by
    have HL := hidOf hn
    have HB := hidOf hb
    have hg := hb.1
    clear hb hn
    obtain ⟨D, hD⟩ : ∃ D, idxM (fun x => !x) L = D := ⟨_, rfl⟩
    have HD := hidOf hD
    show Calls _ _ _ _ _
    rw [hD]
    clear hD
    go_enter Tryz.func181, Tryz.ntmps181
    go_wp2
    go_loop [8] (fun i => ∃ k : Nat, k ≤ n ∧ i = .int .i64 k ∧ Hid (∀ j, (h : j < L.length) → j < k → (!L[j]) = false)) (fun i => n - (intOf i).toNat)
    case atStart => exact ⟨0, Nat.zero_le _, rfl, fun j _ h => absurd h (Nat.not_lt_zero _)⟩
    case round =>
      obtain ⟨k, hk, rfl, HK⟩ := hrel
      by_cases hlt : k < n
      · have hkl : k < L.length := by have := HL.out; omega
        obtain ⟨x, hx⟩ : ∃ x, L[k] = x := ⟨_, rfl⟩
        have c0 : w.cell? ⟨g, k, none⟩ = some (.bool x) := (HB.out.2 k _ (by rw [List.getElem?_map, List.getElem?_eq_getElem hkl, hx]; rfl)).1
        have HX := hidOf hx
        have HKL := hidOf hkl
        clear hx
        cases x with
        | true =>
          go_wp2_with fail
          go_round
          case rel =>
            refine ⟨k + 1, by omega, by go_num, ?_⟩
            intro j hj hjk
            by_cases e : j = k
            · subst e; rw [HX.out]; rfl
            · exact HK.out j hj (by omega)
          case measure => simp [intOf]; omega
        | false =>
          have hDk : Hid (D = k) := by
            show D = k
            rw [← HD.out]; exact idxM_at HKL.out (congrArg (fun b => !b) HX.out) (fun j hj => HK.out j (by have := HKL.out; omega) hj)
          go_wp2_with fail
          go_ret
          exact ⟨ret_int hDk.out.symm, rfl⟩
      · have hDn : Hid (D = -1) := by
          show D = -1
          rw [← HD.out]; exact idxM_none (fun j hj => HK.out j hj (by have := HL.out; omega))
        go_wp2_with fail
        go_ret
        exact ⟨ret_int hDn.out.symm, rfl⟩
  rw [← idxM_any]
  obtain ⟨D, hD⟩ : ∃ D, idxM (fun x => !x) L = D := ⟨_, rfl⟩
  rw [hD] at HI ⊢
  clear hD hb
  go_enter Tryz.func132, Tryz.ntmps132
  go_wp2_with fail
  refine HI.out.mono ?_
  rintro e w' ⟨rfl, hw'⟩
  rw [hw']
  clear hw' w'
  go_wp2_with fail
  go_ret
  exact ⟨rfl, rfl⟩
set_option maxHeartbeats 1600000 in
set_option maxRecDepth 100000 in
theorem hasRing1_any (B : Nat) (v : BkV) (x : Bk) (m : Mo) (gE gB g0 : Nat) (L : List Bool) (W : World) (hwt : wtBk x ≤ 1048576) (hB : B ≤ W.heap.size) (hx : IsBk B W v x) (hL : L.length = x.states.length) (hok : 0 ≤ findM (statesM x) m.to)
    (be : BoxAt gE [.slice (some ⟨g0, 0, none⟩) x.states.length x.states.length] W) (bl : BoxAt g0 (L.map Value.bool) W) (bb : BoxAt gB [.string x.name, .slice v.ai v.ni v.ci, .slice v.ao v.no v.co, .slice v.av v.nv v.cv, .slice v.at_ v.nt v.ct] W) :
    Calls Tryz.prog 130 #[.agg #[.string m.event, .string m.cond, .string m.to], .pointer (some ⟨gE, 0, none⟩), .pointer (some ⟨gB, 0, none⟩)] W fun e w' => e = .returned (.bool (empB m.event && !L.getD (findM (statesM x) m.to).toNat false)) ∧ Below W.heap.size W w' := by
  obtain ⟨p0, p1, p2, p3, p4, p5, p6, p7, p8, p9⟩ := wtBk_parts hwt
  have lt := hx.states.1
  obtain ⟨me, mc, mt⟩ := m
  simp only at hok ⊢
  obtain ⟨F, hF⟩ : ∃ F : Nat, findM (statesM x) mt = F := ⟨(findM (statesM x) mt).toNat, by omega⟩
  have hFl : F < x.states.length := by
    have h1 := (findM_lt (statesM x) mt).2
    have h2 : (statesM x).length = x.states.length := by simp [statesM]
    omega
  have HS : Hid (∀ W', Below W.heap.size W W' → Calls Tryz.prog 131 #[.slice v.at_ v.nt v.ct, .string mt] W' fun e w' => e = .returned (.int .i64 (F : Nat)) ∧ Below W'.heap.size W' w') := fun W' hb => by
    have h := stateAt_any B v.at_ v.nt v.ct x.states mt W' (by have := hb.size; omega) (by omega) (hx.below (hb.mono hB)).states
    rw [show x.states.map St.name = statesM x from rfl, hF] at h
    exact h
  rw [hF]
  simp only [Int.toNat_natCast]
  obtain ⟨P, hP⟩ : ∃ P, L.getD F false = P := ⟨_, rfl⟩
  have cL : W.cell? ⟨g0, F, none⟩ = some (.bool P) := by
    refine (bl.2 F _ ?_).1
    rw [List.getElem?_map, List.getElem?_eq_getElem (by omega)]
    have : L[F]'(by omega) = P := by rw [← hP]; simp [List.getD_eq_getElem?_getD, show F < L.length by omega]
    rw [this]; rfl
  have hg0 := bl.1
  have cE : W.cell? ⟨gE, 0, none⟩ = some (.slice (some ⟨g0, 0, none⟩) x.states.length x.states.length) := (be.2 0 _ rfl).1
  have hgE := be.1
  have cB : W.cell? ⟨gB, 4, none⟩ = some (.slice v.at_ v.nt v.ct) := (bb.2 4 _ rfl).1
  have hgB := bb.1
  rw [hP]
  obtain ⟨N, hN⟩ : ∃ N, x.states.length = N := ⟨_, rfl⟩
  rw [hN] at cE hFl
  have hFI : (F : Int) < (N : Int) := by omega
  obtain ⟨E, hE⟩ : ∃ E, empB me = E := ⟨_, rfl⟩
  rw [hE]
  unfold empB at hE
  clear hP bl be bb hF hok hx hN lt hL p0 p1 p2 p3 p4 p5 p6 p7 p8 p9 hwt
  obtain ⟨ai, ni, ci, ao, no, co, av, nv, cv, at_, nt, ct⟩ := v
  simp only at HS cB
  have hb0 : Below W.heap.size W (W.alloc (.cells #[.string me, .string mc, .string mt] 69)) := (Below.refl _ _).alloc (Nat.le_refl _) _
  have HB0 := hidOf hb0
  clear hb0
  cases he : me.toList.isEmpty with
  | false =>
    have HE : Hid (E = false) := by show E = false; rw [← hE, he]
    clear hE
    go_enter Tryz.func130, Tryz.ntmps130
    go_wp2_with fail
    go_quiet (fail)
    go_wp2_with fail
    go_ret
    exact ⟨ret_bool (by rw [HE.out]; rfl), drewN HB0.out _⟩
  | true =>
    have HE : Hid (E = true) := by show E = true; rw [← hE, he]
    clear hE
    go_enter Tryz.func130, Tryz.ntmps130
    go_wp2_with fail
    go_region_held3 (fun w' => w'.cell? ⟨W.heap.size, 0, none⟩ = some (.string me) ∧ w'.cell? ⟨W.heap.size, 2, none⟩ = some (.string mt) ∧ w'.cell? ⟨gE, 0, none⟩ = some (.slice (some ⟨g0, 0, none⟩) N N) ∧ w'.cell? ⟨gB, 4, none⟩ = some (.slice at_ nt ct) ∧ w'.cell? ⟨g0, F, none⟩ = some (.bool P)) (simp [go_sem, *])
      (first | (go_at_call 131; refine (HS.out _ (by first | exact HB0.out | exact below_drew1 HB0.out)).mono ?_; rintro e w1 ⟨rfl, b1⟩; have hs1 : W.heap.size < w1.heap.size := (by have := b1.size; simp at this; omega); have HB1 : Hid (Below W.heap.size W w1) := HB0.out.trans ((undrew b1).mono HB0.out.size); have hz1 := bcell HB1.out; obtain ⟨hc1, hf1⟩ := bcell (undrew b1); clear b1 hf1 hz1))
    go_wp2_with fail
    go_ret
    exact ⟨ret_bool (by rw [HE.out]; simp), HB1.out⟩
end Go.Proofs.YtchemhjcknkbgaaGreatDoor

/- The program's hasRing: whether moves without an event can go on and on. -/
namespace Go.Proofs.YtchemhjcknkbgaaGreatDoor
open Go Go.RowKit Go.PlainAid
set_option linter.unusedSimpArgs false
set_option linter.unusedVariables false

theorem infoBool : (Tryz.prog.info? 4).map (fun i => (i.zero, i.size, i.bytes)) = some (some (.bool false), 1, 1) := by kernel_rfl
theorem madeCells_false {n j : Nat} (h : j < n) : (madeCells #[.bool false] n)[j]? = some (.bool false) := by
  rw [← Array.getElem?_toList, toList_madeCells_one, List.getElem?_replicate, if_pos h]
/-- what a round finds of a state -/
theorem ends_one (x : Bk) (L : List Bool) (k : Nat) (hk : k < x.states.length) : ((edgesM x k).all fun j => L.getD j false) = !(x.states[k].moves.any fun m => empB m.event && !L.getD (findM (statesM x) m.to).toNat false) := by
  have e : x.states.getD k ⟨noName, [], []⟩ = x.states[k] := by simp [hk]
  rw [show edgesM x k = ((x.states[k].moves.filter fun m => empB m.event).map fun m => (findM (statesM x) m.to).toNat) by unfold edgesM; rw [e], List.all_map, List.all_filter, List.not_any_eq_all_not]
  congr 1
  funext m
  simp [Function.comp]
structure RingAt (w wr : World) (xs : List Value) (n : Nat) (L : List Bool) : Prop where
  below : Below w.heap.size w wr
  blk : BoxAt w.heap.size xs wr
  ends : BoxAt (w.heap.size + 1) (L.map Value.bool) wr
  var : BoxAt (w.heap.size + 1 + 1) [.slice (some ⟨w.heap.size + 1, 0, none⟩) n n] wr
  len : L.length = n
theorem RingAt.call {w wr w1 : World} {xs : List Value} {n : Nat} {L : List Bool} (h : RingAt w wr xs n L) (hb : Below wr.heap.size wr w1) : RingAt w w1 xs n L :=
  ⟨h.below.trans (hb.mono h.below.size), h.blk.below hb, h.ends.below hb, h.var.below hb, h.len⟩
theorem RingAt.store {w wr : World} {xs : List Value} {n : Nat} {L : List Bool} (h : RingAt w wr xs n L) (i : Nat) (b : Bool) : RingAt w (wr.setCell ⟨w.heap.size + 1, i, none⟩ (.bool b)) xs n (L.set i b) := by
  have hm : Mv (w.heap.size + 1) wr (wr.setCell ⟨w.heap.size + 1, i, none⟩ (.bool b)) := (Mv.refl _ _).cell _ _
  refine ⟨h.below.setCell (by simp) _, h.blk.mv hm (by omega), ?_, h.var.mv hm (by omega), by rw [List.length_set]; exact h.len⟩
  have := h.ends.set i (.bool b)
  rw [← List.map_set] at this
  exact this
theorem RingAt.there {w wr : World} {xs : List Value} {n : Nat} {L : List Bool} (h : RingAt w wr xs n L) {k : Nat} (hk : k < n) : (∃ u, wr.cell? ⟨w.heap.size + 1, k, none⟩ = some u) ∧ wr.frozen? ⟨w.heap.size + 1, k, none⟩ = false := by
  have hl : k < L.length := by rw [h.len]; exact hk
  have := h.ends.2 k (.bool L[k]) (by rw [List.getElem?_map, List.getElem?_eq_getElem hl]; rfl)
  exact ⟨⟨_, this.1⟩, this.2⟩
theorem RingAt.drew {w wr : World} {xs : List Value} {n : Nat} {L : List Bool} (h : RingAt w wr xs n L) : RingAt w wr.drew xs n L := h.call ⟨rfl, rfl, rfl, Nat.le_refl _, fun _ _ => rfl⟩

set_option maxHeartbeats 3200000 in
set_option maxRecDepth 100000 in
theorem hasRing_any (B : Nat) (v : BkV) (x : Bk) (w : World) (hB : B ≤ w.heap.size) (hwt : wtBk x ≤ 1048576) (hx : IsBk B w v x) (hok : ∀ s ∈ x.states, ∀ m ∈ s.moves, 0 ≤ findM (statesM x) m.to) :
    Calls Tryz.prog 81 #[v.val x.name] w fun e w' => e = .returned (.bool ((roundsE (edgesM x) x.states.length x.states.length).any fun b => !b)) ∧ Below w.heap.size w w' := by
  obtain ⟨p0, p1, p2, p3, p4, p5, p6, p7, p8, p9⟩ := wtBk_parts hwt
  have lt := hx.states.1
  have HX := hidOf hx
  have HOK := hidOf hok
  have HRL := hidOf (roundsE_len (edgesM x) x.states.length)
  have HLT := hidOf lt
  obtain ⟨i0, hi, hz0, hz1, hz2⟩ := info_parts infoBool
  have HHR : Hid (∀ W (L : List Bool) k, (hk : k < x.states.length) → RingAt w W [.string x.name, .slice v.ai v.ni v.ci, .slice v.ao v.no v.co, .slice v.av v.nv v.cv, .slice v.at_ v.nt v.ct] v.nt L → ∀ (ma : Option Addr) (mn mc : Nat), IsArr 3 QMo B W ma mn x.states[k].moves → Calls Tryz.prog 129 #[.slice ma mn mc, .func (Fn.func 130) #[] #[.pointer (some ⟨w.heap.size + 1 + 1, 0, none⟩), .pointer (some ⟨w.heap.size, 0, none⟩)]] W fun e w' => e = .returned (.bool (x.states[k].moves.any fun m => empB m.event && !L.getD (findM (statesM x) m.to).toNat false)) ∧ Below W.heap.size W w') := by
    intro W L k hk hr ma mn mc hq
    have hlm := hq.1
    have h1 := wsum_mem (f := wtSt) (List.getElem_mem hk)
    have h2 : x.states[k].moves.length ≤ wtSt x.states[k] := by unfold wtSt; omega
    have hBW : B ≤ W.heap.size := by have := hr.below.size; omega
    refine has_hasRing1 B ma mn mc x.states[k].moves (fun m => empB m.event && !L.getD (findM (statesM x) m.to).toNat false) _ _ W hBW (by omega) hq ?_
    intro W' m hb hm
    have hr' := hr.call hb
    exact hasRing1_any B v x m (w.heap.size + 1 + 1) w.heap.size (w.heap.size + 1) L W' hwt (by have := hb.size; omega) (HX.out.below (hr'.below.mono hB)) (by rw [HLT.out]; exact hr'.len) (HOK.out _ (List.getElem_mem hk) m hm) (by rw [HLT.out]; exact hr'.var) hr'.ends hr'.blk
  have HQS : Hid (∀ W, Below w.heap.size w W → IsArr 3 QSt B W v.at_ v.nt x.states) := fun W hb => (HX.out.below (hb.mono hB)).states
  obtain ⟨N, hN⟩ : ∃ N, x.states.length = N := ⟨_, rfl⟩
  have hntN : v.nt = N := by omega
  have hN6 : N ≤ 1048576 := by omega
  obtain ⟨R, hR⟩ : ∃ R, ((roundsE (edgesM x) x.states.length x.states.length).any fun b => !b) = R := ⟨_, rfl⟩
  have HR := hidOf hR
  rw [hR]
  have HN := hidOf hN
  clear hR hx hok lt p0 p1 p2 p3 p4 p5 p6 p7 p8 p9 hwt HX HOK
  obtain ⟨ai, ni, ci, ao, no, co, av, nv, cv, at_, nt, ct⟩ := v
  simp only [BkV.val] at HHR HQS hntN ⊢
  subst hntN
  obtain ⟨xn, hxn⟩ : ∃ n, x.name = n := ⟨_, rfl⟩
  rw [hxn] at HHR ⊢
  clear hxn
  have hmk : ∀ u : World, (Instr.makeSlice 175 (.int .i64 (nt : Int)) (.int .i64 (nt : Int))).run Tryz.prog u =
      .ok (.slice (some ⟨u.heap.size, 0, none⟩) nt nt) (u.alloc (.cells (madeCells #[.bool false] nt) 4)) := fun u => by
    have h := run_make (P := Tryz.prog) u 175 4 i0 (.bool false) Tryz.underlying175 hi hz0 .i64 .i64 (nt : Int) (nt : Int) (by omega) (Int.le_refl _) (by rw [hz2]; omega) (by omega)
    have e : ((nt : Int)).toNat = nt := by omega
    rw [e] at h
    simpa [hz1, Value.cells] using h
  clear hN
  have HR0 : Hid (RingAt w (((w.alloc (.cells #[.string xn, .slice ai ni ci, .slice ao no co, .slice av nv cv, .slice at_ nt ct] 34)).alloc (.cells (madeCells #[.bool false] nt) 4)).alloc (.cells #[.slice (some ⟨w.heap.size + 1, 0, none⟩) nt nt] 175)) [.string xn, .slice ai ni ci, .slice ao no co, .slice av nv cv, .slice at_ nt ct] nt (roundsE (edgesM x) nt 0)) := by
    have hb1 : Below w.heap.size w (w.alloc (.cells #[.string xn, .slice ai ni ci, .slice ao no co, .slice av nv cv, .slice at_ nt ct] 34)) := (Below.refl _ _).alloc (Nat.le_refl _) _
    have hb2 : ∀ u : World, ∀ o, Below u.heap.size u (u.alloc o) := fun u o => (Below.refl _ _).alloc (Nat.le_refl _) _
    refine ⟨?_, ?_, ?_, ?_, by simp [roundsE]⟩
    · exact (hb1.trans ((hb2 _ _).mono hb1.size)).trans ((hb2 _ _).mono (by simp; omega))
    · exact ((boxAt_new w [.string xn, .slice ai ni ci, .slice ao no co, .slice av nv cv, .slice at_ nt ct] 34).below (hb2 _ _)).below (hb2 _ _)
    · have _ho := open_made (w.alloc (.cells #[.string xn, .slice ai ni ci, .slice ao no co, .slice av nv cv, .slice at_ nt ct] 34)) #[.bool false] nt 4
      have : BoxAt (w.heap.size + 1) ((List.replicate nt false).map Value.bool) ((w.alloc (.cells #[.string xn, .slice ai ni ci, .slice ao no co, .slice av nv cv, .slice at_ nt ct] 34)).alloc (.cells (madeCells #[.bool false] nt) 4)) := by
        refine ⟨by simp, fun j u hu => ?_⟩
        have hj : j < nt := by have := (List.getElem?_eq_some_iff.1 hu).1; simpa using this
        have hu2 : u = .bool false := by rw [List.getElem?_map, List.getElem?_replicate, if_pos hj] at hu; simpa using hu.symm
        subst hu2
        refine ⟨?_, ?_⟩
        · simp [go_sem, madeCells_false hj]
        · simp
      exact this.below (hb2 _ _)
    · have := boxAt_new ((w.alloc (.cells #[.string xn, .slice ai ni ci, .slice ao no co, .slice av nv cv, .slice at_ nt ct] 34)).alloc (.cells (madeCells #[.bool false] nt) 4)) [.slice (some ⟨w.heap.size + 1, 0, none⟩) nt nt] 175
      simpa using this
  go_enter Tryz.func81, Tryz.ntmps81
  go_wp2_with fail
  obtain ⟨W0, hW0⟩ : ∃ W0, (((w.alloc (.cells #[.string xn, .slice ai ni ci, .slice ao no co, .slice av nv cv, .slice at_ nt ct] 34)).alloc (.cells (madeCells #[.bool false] nt) 4)).alloc (.cells #[.slice (some ⟨w.heap.size + 1, 0, none⟩) nt nt] 175)) = W0 := ⟨_, rfl⟩
  rw [hW0] at HR0 ⊢
  clear hW0 hmk
  go_loopw [13] (fun i wr => ∃ r : Nat, r ≤ nt ∧ i = .int .i64 r ∧ Hid (RingAt w wr [.string xn, .slice ai ni ci, .slice ao no co, .slice av nv cv, .slice at_ nt ct] nt (roundsE (edgesM x) nt r))) (fun i _ => nt - (intOf i).toNat)
  case atStart => exact ⟨0, Nat.zero_le _, rfl, HR0⟩
  case round =>
    obtain ⟨r, hr, rfl, HRA⟩ := hrel
    have c0 : wr.cell? ⟨w.heap.size, 0, none⟩ = some (.string xn) := (HRA.out.blk.2 0 _ rfl).1
    have c1 : wr.cell? ⟨w.heap.size, 1, none⟩ = some (.slice ai ni ci) := (HRA.out.blk.2 1 _ rfl).1
    have c2 : wr.cell? ⟨w.heap.size, 2, none⟩ = some (.slice ao no co) := (HRA.out.blk.2 2 _ rfl).1
    have c3 : wr.cell? ⟨w.heap.size, 3, none⟩ = some (.slice av nv cv) := (HRA.out.blk.2 3 _ rfl).1
    have c4 : wr.cell? ⟨w.heap.size, 4, none⟩ = some (.slice at_ nt ct) := (HRA.out.blk.2 4 _ rfl).1
    have sx : w.heap.size < wr.heap.size := HRA.out.blk.1
    by_cases hlt : r < nt
    · go_wp2_with fail
      clear c0 c1 c2 c3 c4 sx
      have HRB : Hid (RingAt w wr [.string xn, .slice ai ni ci, .slice ao no co, .slice av nv cv, .slice at_ nt ct] nt (roundE (edgesM x) (roundsE (edgesM x) nt r) 0)) := HRA.out
      go_loopw [18] (fun i wq => ∃ k : Nat, k ≤ nt ∧ i = .int .i64 k ∧ Hid (RingAt w wq [.string xn, .slice ai ni ci, .slice ao no co, .slice av nv cv, .slice at_ nt ct] nt (roundE (edgesM x) (roundsE (edgesM x) nt r) k))) (fun i _ => nt - (intOf i).toNat)
      case atStart => exact ⟨0, Nat.zero_le _, rfl, HRB⟩
      case round =>
        obtain ⟨k, hk, rfl, HRK⟩ := hrel
        have c0 : wr.cell? ⟨w.heap.size, 0, none⟩ = some (.string xn) := (HRK.out.blk.2 0 _ rfl).1
        have c1 : wr.cell? ⟨w.heap.size, 1, none⟩ = some (.slice ai ni ci) := (HRK.out.blk.2 1 _ rfl).1
        have c2 : wr.cell? ⟨w.heap.size, 2, none⟩ = some (.slice ao no co) := (HRK.out.blk.2 2 _ rfl).1
        have c3 : wr.cell? ⟨w.heap.size, 3, none⟩ = some (.slice av nv cv) := (HRK.out.blk.2 3 _ rfl).1
        have c4 : wr.cell? ⟨w.heap.size, 4, none⟩ = some (.slice at_ nt ct) := (HRK.out.blk.2 4 _ rfl).1
        have sx : w.heap.size < wr.heap.size := HRK.out.blk.1
        have c5 : wr.cell? ⟨w.heap.size + 1 + 1, 0, none⟩ = some (.slice (some ⟨w.heap.size + 1, 0, none⟩) nt nt) := (HRK.out.var.2 0 _ rfl).1
        have sy : w.heap.size + 1 + 1 < wr.heap.size := HRK.out.var.1
        by_cases hlt2 : k < nt
        · have hkl : k < x.states.length := by have := HN.out; omega
          obtain ⟨b, off, cs, eab, hb, hq, hcell⟩ := IsArr.at (HQS.out wr HRK.out.below) hlt2 hkl
          have hbr : b < wr.heap.size := by have := HRK.out.below.size; omega
          obtain ⟨ma, mn, mc, ra, rn, rc, rfl, q1, q2, q3, q4, q5, q6⟩ := hq
          have hbn : ∀ o, Below wr.heap.size wr (wr.alloc o) := fun o => (Below.refl _ _).alloc (Nat.le_refl _) _
          have HBn := hidOf hbn
          have HRN : Hid (∀ o, RingAt w (wr.alloc o) [.string xn, .slice ai ni ci, .slice ao no co, .slice av nv cv, .slice at_ nt ct] nt (roundE (edgesM x) (roundsE (edgesM x) nt r) k)) := fun o => HRK.out.call (HBn.out o)
          have hBw : B ≤ wr.heap.size := by have := HRK.out.below.size; omega
          have HE : Hid (∀ W, Below wr.heap.size wr W → Calls Tryz.prog 129 #[.slice ma mn mc, .func (Fn.func 130) #[] #[.pointer (some ⟨w.heap.size + 1 + 1, 0, none⟩), .pointer (some ⟨w.heap.size, 0, none⟩)]] W fun e w' => e = .returned (.bool (x.states[k].moves.any fun m => empB m.event && !(roundE (edgesM x) (roundsE (edgesM x) nt r) k).getD (findM (statesM x) m.to).toNat false)) ∧ Below W.heap.size W w') := fun W hb => HHR.out W _ k hkl (HRK.out.call hb) ma mn mc (q5.below (QMo.lift (hb.mono hBw)) (hb.mono hBw))
          have HON := hidOf (ends_one x (roundE (edgesM x) (roundsE (edgesM x) nt r) k) k hkl)
          obtain ⟨P, hP⟩ : ∃ P, (x.states[k].moves.any fun m => empB m.event && !(roundE (edgesM x) (roundsE (edgesM x) nt r) k).getD (findM (statesM x) m.to).toNat false) = P := ⟨_, rfl⟩
          rw [hP] at HE HON
          obtain ⟨y0, hy0⟩ : ∃ s, (x.states[k]).name = s := ⟨_, rfl⟩
          rw [hy0] at hcell
          have e0 : wr.cell? ⟨b, off + k * 3, none⟩ = some (.string y0) := hcell 0 _ rfl
          have e1 : wr.cell? ⟨b, off + k * 3 + 1, none⟩ = some (.slice ma mn mc) := hcell 1 _ rfl
          have e2 : wr.cell? ⟨b, off + k * 3 + 1 + 1, none⟩ = some (.slice ra rn rc) := hcell 2 _ rfl
          have hne1 : ¬ (w.heap.size + 1 = wr.heap.size) := by omega
          have hne2 : ¬ (wr.heap.size = w.heap.size + 1) := by omega
          have hklt : (k : Int) < (nt : Int) := by omega
          clear hP hy0 hcell q5 q6 hbn hkl
          subst eab
          go_wp2_with fail
          go_region_held3 (fun w' => w'.cell? ⟨w.heap.size + 1 + 1, 0, none⟩ = some (.slice (some ⟨w.heap.size + 1, 0, none⟩) nt nt) ∧ w'.cell? ⟨wr.heap.size, 1, none⟩ = some (.slice ma mn mc)) (simp [go_sem, *])
            (first | (go_at_call 129; refine (HE.out _ (by first | exact HBn.out _ | exact below_drew1 (HBn.out _))).mono ?_; rintro e w1 ⟨rfl, b1⟩; have HR1 := hidOf ((HRN.out _).call (undrew b1)); have hs1 : wr.heap.size < w1.heap.size := (by have := b1.size; simp at this; omega); have ht1 : w.heap.size + 1 < w1.heap.size := HR1.out.ends.1; obtain ⟨⟨v0, o0⟩, f0⟩ := HR1.out.there hlt2; have k5 : w1.cell? ⟨w.heap.size + 1 + 1, 0, none⟩ = some (.slice (some ⟨w.heap.size + 1, 0, none⟩) nt nt) := (HR1.out.var.2 0 _ rfl).1; obtain ⟨hc1, hf1⟩ := bcell (undrew b1); clear b1 hf1))
          go_wp2_with fail
          go_roundw
          case rel =>
            refine ⟨k + 1, by omega, by go_num, ?_⟩
            show RingAt _ _ _ _ _
            have e : roundE (edgesM x) (roundsE (edgesM x) nt r) (k + 1) = (roundE (edgesM x) (roundsE (edgesM x) nt r) k).set k (!P) := by
              show updE _ _ _ = _
              unfold updE
              rw [HON.out]
            rw [e]
            exact HR1.out.store k (!P)
          case measure => simp [intOf]; omega
        · have HRE : Hid (RingAt w wr [.string xn, .slice ai ni ci, .slice ao no co, .slice av nv cv, .slice at_ nt ct] nt (roundsE (edgesM x) nt (r + 1))) := by
            have hkn : k = nt := by omega
            have := HRK.out
            rw [hkn] at this
            exact this
          go_wp2_with fail
          go_roundw
          case rel => exact ⟨r + 1, by omega, by go_num, HRE⟩
          case measure => simp [intOf]; omega
    · have HRE : Hid (RingAt w wr [.string xn, .slice ai ni ci, .slice ao no co, .slice av nv cv, .slice at_ nt ct] nt (roundsE (edgesM x) nt nt)) := by
        have hrn : r = nt := by omega
        have := HRA.out
        rw [hrn] at this
        exact this
      have c5 : wr.cell? ⟨w.heap.size + 1 + 1, 0, none⟩ = some (.slice (some ⟨w.heap.size + 1, 0, none⟩) nt nt) := (HRE.out.var.2 0 _ rfl).1
      have sy : w.heap.size + 1 + 1 < wr.heap.size := HRE.out.var.1
      have HCB := hidOf (containsB_any (w.heap.size + 1) nt nt (roundsE (edgesM x) nt nt) wr HRE.out.len hN6 HRE.out.ends)
      have HRV : Hid (((roundsE (edgesM x) nt nt).any fun b => !b) = R) := by have := HR.out; rw [HN.out] at this; exact this
      rw [HRV.out] at HCB
      go_wp2_with fail
      refine HCB.out.mono ?_
      rintro e w' ⟨rfl, hw'⟩
      rw [hw']
      clear hw' w'
      go_wp2_with fail
      go_ret
      exact ⟨rfl, HRE.out.below⟩
end Go.Proofs.YtchemhjcknkbgaaGreatDoor

/- The program's BlockCheck: what is wrong with a block. -/
namespace Go.Proofs.YtchemhjcknkbgaaGreatDoor
open Go Go.RowKit Go.PlainAid
set_option linter.unusedSimpArgs false
set_option linter.unusedVariables false

set_option maxHeartbeats 1600000 in
set_option maxRecDepth 100000 in
theorem blockCheck1_any (B : Nat) (v : BkV) (x : Bk) (g : Nat) (W : World) (hB : B ≤ W.heap.size) (hwt : wtBk x ≤ 1048576) (hx : IsBk B W v x) (bb : BoxAt g [.string x.name, .slice v.ai v.ni v.ci, .slice v.ao v.no v.co, .slice v.av v.nv v.cv, .slice v.at_ v.nt v.ct] W) :
    Calls Tryz.prog 74 #[.pointer (some ⟨g, 0, none⟩)] W fun e w' => e = .returned (.int .i64 (cfI (!decide (NamesOkI x)) 1)) ∧ Below W.heap.size W w' := by
  have HH := hidOf (hasFineNames_any B v x W hB hwt hx)
  obtain ⟨P, hP⟩ : ∃ P, decide (NamesOkI x) = P := ⟨_, rfl⟩
  rw [hP] at HH ⊢
  obtain ⟨ai, ni, ci, ao, no, co, av, nv, cv, at_, nt, ct⟩ := v
  obtain ⟨xn, hxn⟩ : ∃ n, x.name = n := ⟨_, rfl⟩
  simp only [BkV.val] at bb HH
  rw [hxn] at bb HH
  have c0 : W.cell? ⟨g, 0, none⟩ = some (.string xn) := (bb.2 0 _ rfl).1
  have c1 : W.cell? ⟨g, 1, none⟩ = some (.slice ai ni ci) := (bb.2 1 _ rfl).1
  have c2 : W.cell? ⟨g, 2, none⟩ = some (.slice ao no co) := (bb.2 2 _ rfl).1
  have c3 : W.cell? ⟨g, 3, none⟩ = some (.slice av nv cv) := (bb.2 3 _ rfl).1
  have c4 : W.cell? ⟨g, 4, none⟩ = some (.slice at_ nt ct) := (bb.2 4 _ rfl).1
  have sb : g < W.heap.size := bb.1
  clear hP hxn hx bb hwt
  have HCI := hidOf (fun W => codeIf_cf (!P) 1 W)
  go_enter Tryz.func74, Tryz.ntmps74
  go_wp2_with fail
  refine HH.out.mono ?_
  rintro e w1 ⟨rfl, b1⟩
  have HB1 := hidOf b1
  clear b1
  go_wp2_with fail
  refine (HCI.out _).mono ?_
  rintro e w' ⟨rfl, hw'⟩
  rw [hw']
  clear hw' w'
  go_wp2_with fail
  go_ret
  exact ⟨rfl, HB1.out⟩

set_option maxHeartbeats 1600000 in
set_option maxRecDepth 100000 in
theorem blockCheck2_any (B : Nat) (v : BkV) (x : Bk) (g : Nat) (W : World) (hB : B ≤ W.heap.size) (hwt : wtBk x ≤ 1048576) (hx : IsBk B W v x) (bb : BoxAt g [.string x.name, .slice v.ai v.ni v.ci, .slice v.ao v.no v.co, .slice v.av v.nv v.cv, .slice v.at_ v.nt v.ct] W) :
    Calls Tryz.prog 77 #[.pointer (some ⟨g, 0, none⟩)] W fun e w' => e = .returned (.int .i64 (cfI (decide (x.states = [])) 2)) ∧ Below W.heap.size W w' := by
  have lt := hx.states.1
  have hne : decide (x.states = []) = decide (v.nt = 0) := by
    rw [decide_eq_decide]
    constructor
    · intro h; rw [h] at lt; simpa using lt.symm
    · intro h; exact List.eq_nil_of_length_eq_zero (by omega)
  rw [hne]
  have hnt : v.nt ≤ 1048576 := by have := (wtBk_parts hwt).2.2.2.2.2.2.2.1; omega
  obtain ⟨ai, ni, ci, ao, no, co, av, nv, cv, at_, nt, ct⟩ := v
  obtain ⟨xn, hxn⟩ : ∃ n, x.name = n := ⟨_, rfl⟩
  simp only [BkV.val] at bb lt hnt ⊢
  rw [hxn] at bb
  have c0 : W.cell? ⟨g, 0, none⟩ = some (.string xn) := (bb.2 0 _ rfl).1
  have c1 : W.cell? ⟨g, 1, none⟩ = some (.slice ai ni ci) := (bb.2 1 _ rfl).1
  have c2 : W.cell? ⟨g, 2, none⟩ = some (.slice ao no co) := (bb.2 2 _ rfl).1
  have c3 : W.cell? ⟨g, 3, none⟩ = some (.slice av nv cv) := (bb.2 3 _ rfl).1
  have c4 : W.cell? ⟨g, 4, none⟩ = some (.slice at_ nt ct) := (bb.2 4 _ rfl).1
  have sb : g < W.heap.size := bb.1
  clear hxn hx bb hwt hne lt
  by_cases h0 : nt = 0
  · subst h0
    have HCI := hidOf (fun W => codeIf_cf true 2 W)
    rw [decide_eq_true rfl]
    go_enter Tryz.func77, Tryz.ntmps77
    go_wp2_with fail
    refine (HCI.out _).mono ?_
    rintro e w' ⟨rfl, hw'⟩
    rw [hw']
    clear hw' w'
    go_wp2_with fail
    go_ret
    exact ⟨rfl, Below.refl _ _⟩
  · have HCI := hidOf (fun W => codeIf_cf false 2 W)
    rw [decide_eq_false h0]
    have h0' : ((nt : Int) == 0) = false := by simp; omega
    go_enter Tryz.func77, Tryz.ntmps77
    go_wp2_with fail
    refine (HCI.out _).mono ?_
    rintro e w' ⟨rfl, hw'⟩
    rw [hw']
    clear hw' w'
    go_wp2_with fail
    go_ret
    exact ⟨rfl, Below.refl _ _⟩

set_option maxHeartbeats 1600000 in
set_option maxRecDepth 100000 in
theorem blockCheck3_any (B : Nat) (v : BkV) (x : Bk) (g : Nat) (W : World) (hB : B ≤ W.heap.size) (hwt : wtBk x ≤ 1048576) (hx : IsBk B W v x) (bb : BoxAt g [.string x.name, .slice v.ai v.ni v.ci, .slice v.ao v.no v.co, .slice v.av v.nv v.cv, .slice v.at_ v.nt v.ct] W) (hw : Tabs W) (hf : FewNames x) :
    Calls Tryz.prog 78 #[.pointer (some ⟨g, 0, none⟩)] W fun e w' => e = .returned (.int .i64 (firstC (stateI x (concatM x)) x.states)) ∧ Below W.heap.size W w' := by
  have HNM : Hid (∀ W', Below W.heap.size W W' → Calls Tryz.prog 41 #[v.val x.name] W' fun e w' => ∃ u, e = .returned u ∧ OwnS W'.heap.size w' u (concatM x) ∧ Below W'.heap.size W' w') := fun W' hb => namesOf_any B v x W' (by have := hb.size; omega) hwt hf (hx.below (hb.mono hB))
  have HST : Hid (∀ W' B' a n c, Below W.heap.size W W' → OwnS B' W' (.slice a n c) (concatM x) → Calls Tryz.prog 79 #[formV x.name v a n c] W' fun e w' => e = .returned (.int .i64 (firstC (stateI x (concatM x)) x.states)) ∧ Below W'.heap.size W' w') := fun W' B' a n c hb o => by
    obtain ⟨_, _, e, _, hz, _⟩ := o.form
    cases e
    have hb' := hx.below (hb.mono hB)
    exact statesCode_any W'.heap.size v x a _ c W' hwt hf ⟨hb'.mono (by have := hb.size; omega), hz, Nat.le_refl _, hw.below hb⟩
  obtain ⟨R, hR⟩ : ∃ R, firstC (stateI x (concatM x)) x.states = R := ⟨_, rfl⟩
  obtain ⟨LC, hLC⟩ : ∃ L, concatM x = L := ⟨_, rfl⟩
  rw [hR] at HST ⊢
  rw [hLC] at HNM HST
  unfold formV at HST
  obtain ⟨ai, ni, ci, ao, no, co, av, nv, cv, at_, nt, ct⟩ := v
  obtain ⟨xn, hxn⟩ : ∃ n, x.name = n := ⟨_, rfl⟩
  simp only [BkV.val] at bb HNM HST
  rw [hxn] at bb HNM HST
  have c0 : W.cell? ⟨g, 0, none⟩ = some (.string xn) := (bb.2 0 _ rfl).1
  have c1 : W.cell? ⟨g, 1, none⟩ = some (.slice ai ni ci) := (bb.2 1 _ rfl).1
  have c2 : W.cell? ⟨g, 2, none⟩ = some (.slice ao no co) := (bb.2 2 _ rfl).1
  have c3 : W.cell? ⟨g, 3, none⟩ = some (.slice av nv cv) := (bb.2 3 _ rfl).1
  have c4 : W.cell? ⟨g, 4, none⟩ = some (.slice at_ nt ct) := (bb.2 4 _ rfl).1
  have sb : g < W.heap.size := bb.1
  clear hxn hx bb hwt hR hLC hf hw
  go_enter Tryz.func78, Tryz.ntmps78
  go_wp2_with fail
  go_region_held3 (fun w' => w'.cell? ⟨g, 0, none⟩ = some (.string xn) ∧ w'.cell? ⟨g, 1, none⟩ = some (.slice ai ni ci) ∧ w'.cell? ⟨g, 2, none⟩ = some (.slice ao no co) ∧ w'.cell? ⟨g, 3, none⟩ = some (.slice av nv cv) ∧ w'.cell? ⟨g, 4, none⟩ = some (.slice at_ nt ct)) (simp [go_sem, *])
    (first
     | (go_at_call 41; refine (HNM.out _ (by first | exact Below.refl _ _ | exact below_drew1 (Below.refl _ _))).mono ?_; rintro e w1 ⟨u1, rfl, o1, b1⟩; obtain ⟨a1, c1', e1, _⟩ := o1.form; subst e1; have HB1 : Hid (Below W.heap.size W w1) := undrew b1; have HO1 := hidOf o1; have hs1 : g < w1.heap.size := (by have := HB1.out.size; omega); obtain ⟨hc1, hf1⟩ := bcell (undrew b1); clear o1 b1 hf1)
     | (go_at_call 79; refine (HST.out _ _ _ _ _ HB1.out HO1.out).mono ?_; rintro e w2 ⟨rfl, b2⟩; have HB2 : Hid (Below W.heap.size W w2) := HB1.out.trans (b2.mono HB1.out.size); obtain ⟨hc2, hf2⟩ := bcell b2; clear b2 hf2))
  go_wp2_with fail
  go_ret
  exact ⟨rfl, HB2.out⟩

set_option maxHeartbeats 1600000 in
set_option maxRecDepth 100000 in
theorem blockCheck4_any (B : Nat) (v : BkV) (x : Bk) (g : Nat) (W : World) (hB : B ≤ W.heap.size) (hwt : wtBk x ≤ 1048576) (hx : IsBk B W v x) (bb : BoxAt g [.string x.name, .slice v.ai v.ni v.ci, .slice v.ao v.no v.co, .slice v.av v.nv v.cv, .slice v.at_ v.nt v.ct] W) (hok : ∀ s ∈ x.states, ∀ m ∈ s.moves, 0 ≤ findM (statesM x) m.to) :
    Calls Tryz.prog 80 #[.pointer (some ⟨g, 0, none⟩)] W fun e w' => e = .returned (.int .i64 (cfI ((roundsE (edgesM x) x.states.length x.states.length).any fun b => !b) 6)) ∧ Below W.heap.size W w' := by
  have HH := hidOf (hasRing_any B v x W hB hwt hx hok)
  obtain ⟨P, hP⟩ : ∃ P, ((roundsE (edgesM x) x.states.length x.states.length).any fun b => !b) = P := ⟨_, rfl⟩
  rw [hP] at HH ⊢
  obtain ⟨ai, ni, ci, ao, no, co, av, nv, cv, at_, nt, ct⟩ := v
  obtain ⟨xn, hxn⟩ : ∃ n, x.name = n := ⟨_, rfl⟩
  simp only [BkV.val] at bb HH
  rw [hxn] at bb HH
  have c0 : W.cell? ⟨g, 0, none⟩ = some (.string xn) := (bb.2 0 _ rfl).1
  have c1 : W.cell? ⟨g, 1, none⟩ = some (.slice ai ni ci) := (bb.2 1 _ rfl).1
  have c2 : W.cell? ⟨g, 2, none⟩ = some (.slice ao no co) := (bb.2 2 _ rfl).1
  have c3 : W.cell? ⟨g, 3, none⟩ = some (.slice av nv cv) := (bb.2 3 _ rfl).1
  have c4 : W.cell? ⟨g, 4, none⟩ = some (.slice at_ nt ct) := (bb.2 4 _ rfl).1
  have sb : g < W.heap.size := bb.1
  clear hP hxn hx bb hwt hok
  have HCI := hidOf (fun W => codeIf_cf P 6 W)
  go_enter Tryz.func80, Tryz.ntmps80
  go_wp2_with fail
  refine HH.out.mono ?_
  rintro e w1 ⟨rfl, b1⟩
  have HB1 := hidOf b1
  clear b1
  go_wp2_with fail
  refine (HCI.out _).mono ?_
  rintro e w' ⟨rfl, hw'⟩
  rw [hw']
  clear hw' w'
  go_wp2_with fail
  go_ret
  exact ⟨rfl, HB1.out⟩

set_option maxHeartbeats 1600000 in
set_option maxRecDepth 100000 in
theorem implBlockCheck_any (B : Nat) (v : BkV) (x : Bk) (w : World) (hw : Tabs w) (hB : B ≤ w.heap.size) (hwt : wtBk x ≤ 1048576) (hx : IsBk B w v x) :
    Calls Tryz.prog 38 #[v.val x.name] w fun e w' => e = .returned (.int .i64 (checkM x)) ∧ Below w.heap.size w w' := by
  obtain ⟨WB, hWB⟩ : ∃ W, w.alloc (.cells ([.string x.name, .slice v.ai v.ni v.ci, .slice v.ao v.no v.co, .slice v.av v.nv v.cv, .slice v.at_ v.nt v.ct] : List Value).toArray 34) = W := ⟨_, rfl⟩
  have hbW : Below w.heap.size w WB := by rw [← hWB]; exact (Below.refl _ _).alloc (Nat.le_refl _) _
  have hsW : WB.heap.size = w.heap.size + 1 := by rw [← hWB]; simp
  have bb : BoxAt w.heap.size [.string x.name, .slice v.ai v.ni v.ci, .slice v.ao v.no v.co, .slice v.av v.nv v.cv, .slice v.at_ v.nt v.ct] WB := by rw [← hWB]; exact boxAt_new w [.string x.name, .slice v.ai v.ni v.ci, .slice v.ao v.no v.co, .slice v.av v.nv v.cv, .slice v.at_ v.nt v.ct] 34
  obtain ⟨c1, hc1⟩ : ∃ c : Int, cfI (!decide (NamesOkI x)) 1 = c := ⟨_, rfl⟩
  obtain ⟨c2, hc2⟩ : ∃ c : Int, cfI (decide (x.states = [])) 2 = c := ⟨_, rfl⟩
  obtain ⟨c3, hc3⟩ : ∃ c : Int, firstC (stateI x (concatM x)) x.states = c := ⟨_, rfl⟩
  obtain ⟨c4, hc4⟩ : ∃ c : Int, cfI ((roundsE (edgesM x) x.states.length x.states.length).any fun b => !b) 6 = c := ⟨_, rfl⟩
  have hno : c1 = 0 → NamesOk x := fun h => by
    rw [← hc1] at h
    unfold cfI at h
    by_cases hn : NamesOkI x
    · exact (namesOk_iff x).1 hn
    · rw [decide_eq_false hn] at h; simp at h
  have hst : c1 = 0 → c3 = 0 → firstC (stateM x (namesM x)) x.states = 0 := fun h1 h3 => by
    have hn := hno h1
    rw [names_eq hn, ← firstC_congr (fun s _ => stateI_eq hn s), hc3]
    exact h3
  have hres : checkM x = firstN [c1, c2, c3, c4] := by
    unfold checkM firstN
    simp only [firstC, id]
    by_cases hn : NamesOk x
    · have h1 : c1 = 0 := by rw [← hc1, decide_eq_true ((namesOk_iff x).2 hn)]; rfl
      rw [if_neg (fun h => h hn), if_pos h1]
      by_cases he : x.states = []
      · rw [if_pos he, ← hc2, decide_eq_true he]; rfl
      · have h2 : c2 = 0 := by rw [← hc2, decide_eq_false he]; rfl
        rw [if_neg he, if_pos h2, names_eq hn, ← firstC_congr (fun s _ => stateI_eq hn s), hc3]
        by_cases h3 : c3 = 0
        · rw [if_pos h3, if_pos h3]
          have hr := ring_rounds (hst h1 h3)
          rw [hr] at hc4
          rw [← hc4]
          unfold cfI
          cases ringM x <;> rfl
        · rw [if_neg h3, if_neg h3]
    · rw [if_pos hn, ← hc1, decide_eq_false (fun h => hn ((namesOk_iff x).1 h))]; rfl
  have HFC : Hid (∀ t, Calls Tryz.prog 73 #[.slice (some ⟨w.heap.size + 1, 0, none⟩) 4 4] (WB.alloc (.cells #[.func (Fn.func 74) #[] #[.pointer (some ⟨w.heap.size, 0, none⟩)], .func (Fn.func 77) #[] #[.pointer (some ⟨w.heap.size, 0, none⟩)], .func (Fn.func 78) #[] #[.pointer (some ⟨w.heap.size, 0, none⟩)], .func (Fn.func 80) #[] #[.pointer (some ⟨w.heap.size, 0, none⟩)]] t)) fun e w' => e = .returned (.int .i64 (firstN [c1, c2, c3, c4])) ∧ Below w.heap.size w w') := by
    intro t
    have hba : ∀ o, Below WB.heap.size WB (WB.alloc o) := fun o => (Below.refl _ _).alloc (Nat.le_refl _) _
    refine (firstCode_any (w.heap.size + 1) 4 4 [(74, [.pointer (some ⟨w.heap.size, 0, none⟩)]), (77, [.pointer (some ⟨w.heap.size, 0, none⟩)]), (78, [.pointer (some ⟨w.heap.size, 0, none⟩)]), (80, [.pointer (some ⟨w.heap.size, 0, none⟩)])] [c1, c2, c3, c4] _ (by simp; omega) rfl rfl (by decide) ?_ ?_ ?_).mono fun e w' ⟨h1, h2⟩ => ⟨h1, hbW.trans (((hba _).trans (h2.mono (hba _).size)).mono hbW.size)⟩
    · intro k hk
      have hk3 : k = 0 ∨ k = 1 ∨ k = 2 ∨ k = 3 := by simp at hk; omega
      rcases hk3 with rfl | rfl | rfl | rfl <;> (rw [← hsW]; simp)
    · intro k hk
      have hk3 : k = 0 ∨ k = 1 ∨ k = 2 ∨ k = 3 := by simp at hk; omega
      rcases hk3 with rfl | rfl | rfl | rfl
      · exact fun args u => by kernel_rfl
      · exact fun args u => by kernel_rfl
      · exact fun args u => by kernel_rfl
      · exact fun args u => by kernel_rfl
    · intro k hk hkc hz W hb
      have hbb := (hba _).trans (hb.mono (hba _).size)
      have hbw := hbW.trans (hbb.mono hbW.size)
      have hBW : B ≤ W.heap.size := by have := hbw.size; omega
      have hxW := hx.below (hbw.mono hB)
      have hk3 : k = 0 ∨ k = 1 ∨ k = 2 ∨ k = 3 := by simp at hk; omega
      rcases hk3 with rfl | rfl | rfl | rfl
      · have := blockCheck1_any B v x w.heap.size W hBW hwt hxW (bb.below hbb)
        rw [hc1] at this
        exact this
      · have := blockCheck2_any B v x w.heap.size W hBW hwt hxW (bb.below hbb)
        rw [hc2] at this
        exact this
      · have h1 : c1 = 0 := hz 0 (by simp) (by decide)
        have hn := hno h1
        have := blockCheck3_any B v x w.heap.size W hBW hwt hxW (bb.below hbb) (hw.below hbw) (few_of hn.1.2.1 hn.1.2.2.1 hn.1.2.2.2.1)
        rw [hc3] at this
        exact this
      · have h1 : c1 = 0 := hz 0 (by simp) (by decide)
        have h3 : c3 = 0 := hz 2 (by simp) (by decide)
        have := blockCheck4_any B v x w.heap.size W hBW hwt hxW (bb.below hbb) (moves_found (hst h1 h3))
        rw [hc4] at this
        exact this
  rw [hres]
  obtain ⟨R, hR⟩ : ∃ R, firstN [c1, c2, c3, c4] = R := ⟨_, rfl⟩
  rw [hR] at HFC ⊢
  rw [← hWB] at HFC
  clear hres hR hc1 hc2 hc3 hc4 bb hbW hsW hWB hno hst hx hw
  obtain ⟨ai, ni, ci, ao, no, co, av, nv, cv, at_, nt, ct⟩ := v
  obtain ⟨xn, hxn⟩ : ∃ n, x.name = n := ⟨_, rfl⟩
  simp only [BkV.val] at HFC ⊢
  rw [hxn] at HFC ⊢
  clear hxn
  go_enter Tryz.func38, Tryz.ntmps38
  go_wp2_with fail
  refine (HFC.out _).mono ?_
  rintro e w1 ⟨rfl, b1⟩
  have HB1 := hidOf b1
  clear b1
  go_wp2_with fail
  go_ret
  exact ⟨rfl, HB1.out⟩
end Go.Proofs.YtchemhjcknkbgaaGreatDoor
