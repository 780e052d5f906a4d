/- The law's copies of states and of a block. -/
import Derived.Test.YtchemhjcknkbgaaGreatDoorToBlock
import Derived.Test.YtchemhjcknkbgaaGreatDoorBunY19
import Derived.Test.YtchemhjcknkbgaaGreatDoorBunY29
namespace Go.Proofs.YtchemhjcknkbgaaGreatDoor
open Go Go.RowKit Go.PlainAid
set_option linter.unusedSimpArgs false
set_option linter.unusedVariables false

def CSt (L : Nat) (w : World) (cs : List Value) (s : St) : Prop := ∃ g n g' n', cs = [.string s.name, .slice (some ⟨g, 0, none⟩) n n, .slice (some ⟨g', 0, none⟩) n' n'] ∧ (L ≤ g ∧ L ≤ g') ∧ (n ≤ 1048576 ∧ n' ≤ 1048576) ∧ (Open g (n * 3) w ∧ Open g' (n' * 3) w) ∧ IsArr 3 QMo w.heap.size w (some ⟨g, 0, none⟩) n s.moves ∧ IsArr 3 QAc w.heap.size w (some ⟨g', 0, none⟩) n' s.acts
theorem CSt.mv {L p : Nat} {w w' : World} {cs : List Value} {x : St} (h : CSt L w cs x) (hm : Mv p w w') (hp : p < L) : CSt L w' cs x := by
  obtain ⟨g, n, g', n', h1, h2, h3, h4, h5, h6⟩ := h
  exact ⟨g, n, g', n', h1, h2, h3, ⟨h4.1.mv hm (by omega), h4.2.mv hm (by omega)⟩, arr_mv h5 (fun _ _ q => q) hm (by omega), arr_mv h6 (fun _ _ q => q) hm (by omega)⟩
theorem CSt.below {L : Nat} {w w' : World} {cs : List Value} {x : St} (h : CSt L w cs x) (hb : Below w.heap.size w w') : CSt L w' cs x := by
  obtain ⟨g, n, g', n', h1, h2, h3, h4, h5, h6⟩ := h
  exact ⟨g, n, g', n', h1, h2, h3, ⟨h4.1.below hb, h4.2.below hb⟩, (h5.below (QMo.lift hb) hb).mono (fun _ _ (q : QMo _ _ _ _) => q) hb.size, (h6.below (QAc.lift hb) hb).mono (fun _ _ (q : QAc _ _ _ _) => q) hb.size⟩
theorem CSt.low {L L' : Nat} {w : World} {cs : List Value} {x : St} (h : CSt L w cs x) (hL : L' ≤ L) : CSt L' w cs x := by
  obtain ⟨g, n, g', n', h1, h2, h3⟩ := h; exact ⟨g, n, g', n', h1, ⟨by omega, by omega⟩, h3⟩
theorem CSt.q {L : Nat} {w : World} (cs : List Value) (x : St) (h : CSt L w cs x) : QSt w.heap.size w cs x := by
  obtain ⟨g, n, g', n', h1, h2, h3, h4, h5, h6⟩ := h
  exact ⟨_, n, n, _, n', n', h1, Nat.le_refl _, by unfold maxLen; omega, Nat.le_refl _, by unfold maxLen; omega, h5, h6⟩

set_option maxHeartbeats 1600000 in
set_option maxRecDepth 100000 in
theorem toState_any (B : Nat) (w : World) (x : St) (hB : B ≤ w.heap.size) (hf : FewSt x) (a : Option Addr) (n c : Nat) (a' : Option Addr) (n' c' : Nat) (hm : IsArr 3 QMo B w a n x.moves) (ha : IsArr 3 QAc B w a' n' x.acts) :
    Calls Tryz.prog 72 #[.agg #[.string x.name, .slice a n c, .slice a' n' c']] w fun e w' => ∃ g g', e = .returned (.agg #[.string x.name, .slice (some ⟨g, 0, none⟩) n n, .slice (some ⟨g', 0, none⟩) n' n']) ∧ CSt w.heap.size w' [.string x.name, .slice (some ⟨g, 0, none⟩) n n, .slice (some ⟨g', 0, none⟩) n' n'] x ∧ Below w.heap.size w w' := by
  obtain ⟨xn, xm, xa⟩ := x
  unfold FewSt at hf
  simp only at hf hm ha ⊢
  have l1 := hm.1
  have l2 := ha.1
  have HTM : Hid (∀ W, Below w.heap.size w W → Calls Tryz.prog 119 #[.slice a n c] W fun e w' => CpL 3 CMo n xm W e w') := fun W hb => toMoveS_any B a n c xm W (by omega) (by have := hb.size; omega) (fun _ _ => trivial) (hm.below (QMo.lift (hb.mono hB)) (hb.mono hB))
  have HTA : Hid (∀ W, Below w.heap.size w W → Calls Tryz.prog 120 #[.slice a' n' c'] W fun e w' => CpL 3 CAc n' xa W e w') := fun W hb => toActS_any B a' n' c' xa W (by omega) (by have := hb.size; omega) (fun _ _ => trivial) (ha.below (QAc.lift (hb.mono hB)) (hb.mono hB))
  clear hm ha
  go_enter Tryz.func72, Tryz.ntmps72
  go_wp2_with fail
  refine (HTM.out _ (by go_grown)).mono ?_
  rintro e w1 ⟨g, rfl, hg, op1, hb1, hl1, hel1⟩
  have am1 : IsArr 3 QMo w1.heap.size w1 (some ⟨g, 0, none⟩) n xm := CpL.arr (fun _ _ q => q) op1 hl1 hel1
  have c0 := hb1.cell (p := ⟨w.heap.size + 1 + 1, 0, none⟩) (by simp)
  have c1 := hb1.cell (p := ⟨w.heap.size + 1 + 1, 1, none⟩) (by simp)
  have c2 := hb1.cell (p := ⟨w.heap.size + 1 + 1, 1 + 1, none⟩) (by simp)
  have f1 := hb1.frozen (p := ⟨w.heap.size + 1 + 1, 1, none⟩) (by simp)
  have f2 := hb1.frozen (p := ⟨w.heap.size + 1 + 1, 1 + 1, none⟩) (by simp)
  have r0 := hb1.cell (p := ⟨w.heap.size, 0, none⟩) (by simp; omega)
  have r2 := hb1.cell (p := ⟨w.heap.size, 1 + 1, none⟩) (by simp; omega)
  have d0 := hb1.cell (p := ⟨w.heap.size + 1, 0, none⟩) (by simp)
  have d1 := hb1.cell (p := ⟨w.heap.size + 1, 1, none⟩) (by simp)
  have d2 := hb1.cell (p := ⟨w.heap.size + 1, 1 + 1, none⟩) (by simp)
  have g0 := hb1.frozen (p := ⟨w.heap.size + 1, 0, none⟩) (by simp)
  have g1 := hb1.frozen (p := ⟨w.heap.size + 1, 1, none⟩) (by simp)
  have g2 := hb1.frozen (p := ⟨w.heap.size + 1, 1 + 1, none⟩) (by simp)
  have hz1 := hb1.size
  have HB1 : Hid (Below w.heap.size w w1) := Below.trans (by go_grown) (hb1.mono (by simp; omega))
  simp [go_sem] at c0 c1 c2 f1 f2 r0 r2 d0 d1 d2 g0 g1 g2 hz1 hg
  obtain ⟨W1, hW1⟩ : ∃ W1, W1 = w1.setCell ⟨w.heap.size + 1 + 1, 1, none⟩ (.slice (some ⟨g, 0, none⟩) n n) := ⟨_, rfl⟩
  have mv1 : Mv (w.heap.size + 1 + 1) w1 W1 := by rw [hW1]; exact (Mv.refl _ _).cell _ _
  have HBW : Hid (Below w.heap.size w W1) := by
    show Below _ _ _
    rw [hW1]; exact HB1.out.setCell (by simp; omega) _
  have hzW : W1.heap.size = w1.heap.size := by rw [hW1]; simp [World.setCell]
  have oth : ∀ o, W1.cell? ⟨w.heap.size + 1, o, none⟩ = w1.cell? ⟨w.heap.size + 1, o, none⟩ := fun o => World.cell?_of_block (mv1.block (w.heap.size + 1) (by omega) (by omega))
  have othf : ∀ o, W1.frozen? ⟨w.heap.size + 1, o, none⟩ = w1.frozen? ⟨w.heap.size + 1, o, none⟩ := fun o => World.frozen?_of_block (mv1.block (w.heap.size + 1) (by omega) (by omega))
  have C0 : W1.cell? ⟨w.heap.size + 1 + 1, 0, none⟩ = some (.string xn) := by rw [hW1, setCell_ne _ _ _ _ _ (by omega)]; exact c0
  have C1 : W1.cell? ⟨w.heap.size + 1 + 1, 1, none⟩ = some (.slice (some ⟨g, 0, none⟩) n n) := by rw [hW1]; exact World.cell?_setCell_same _ _ _ c1
  have C2 : W1.cell? ⟨w.heap.size + 1 + 1, 2, none⟩ = some (.slice none 0 0) := by rw [hW1, setCell_ne _ _ _ _ _ (by omega)]; exact c2
  have F2 : W1.frozen? ⟨w.heap.size + 1 + 1, 2, none⟩ = false := by rw [hW1]; simpa using f2
  have op2 := op1.mv mv1 (by omega)
  have am2 : IsArr 3 QMo W1.heap.size W1 (some ⟨g, 0, none⟩) n xm := arr_mv am1 (fun _ _ (q : QMo _ _ _ _) => q) mv1 (by omega)
  have HW1 := hidOf hW1
  have HOP := hidOf op2
  have HAM := hidOf am2
  have D0 := (oth 0).trans d0
  have D1 := (oth 1).trans d1
  have D2 := (oth 2).trans d2
  have G0 := (othf 0).trans g0
  have G1 := (othf 1).trans g1
  have G2 := (othf 2).trans g2
  clear hel1 hl1 op1 am1 hb1 hW1 mv1 oth othf op2 am2 HTM
  go_wp2_with fail
  rw [← HW1.out]
  refine (HTA.out W1 HBW.out).mono ?_
  rintro e w2 ⟨g', rfl, hg', op3, hb2, hl2, hel2⟩
  have am3 : IsArr 3 QAc w2.heap.size w2 (some ⟨g', 0, none⟩) n' xa := CpL.arr (fun _ _ q => q) op3 hl2 hel2
  have HAA := hidOf am3
  have HOA := hidOf op3
  have HOM := hidOf (HOP.out.below hb2)
  have tMM : IsArr 3 QMo W1.heap.size w2 (some ⟨g, 0, none⟩) n xm := HAM.out.below (QMo.lift hb2) hb2
  have HMM : Hid (IsArr 3 QMo w2.heap.size w2 (some ⟨g, 0, none⟩) n xm) := tMM.mono (fun _ _ (q : QMo _ _ _ _) => q) hb2.size
  have HB2 : Hid (Below w.heap.size w w2) := HBW.out.trans (hb2.mono HBW.out.size)
  have hz2 := hb2.size
  have c0 := (hb2.cell (p := ⟨w.heap.size + 1 + 1, 0, none⟩) (by simp; omega)).trans C0
  have c1 := (hb2.cell (p := ⟨w.heap.size + 1 + 1, 1, none⟩) (by simp; omega)).trans C1
  have c2 := (hb2.cell (p := ⟨w.heap.size + 1 + 1, 2, none⟩) (by simp; omega)).trans C2
  have f2 := (hb2.frozen (p := ⟨w.heap.size + 1 + 1, 2, none⟩) (by simp; omega)).trans F2
  have d0 := (hb2.cell (p := ⟨w.heap.size + 1, 0, none⟩) (by simp; omega)).trans D0
  have d1 := (hb2.cell (p := ⟨w.heap.size + 1, 1, none⟩) (by simp; omega)).trans D1
  have d2 := (hb2.cell (p := ⟨w.heap.size + 1, 2, none⟩) (by simp; omega)).trans D2
  have g0 := (hb2.frozen (p := ⟨w.heap.size + 1, 0, none⟩) (by simp; omega)).trans G0
  have g1 := (hb2.frozen (p := ⟨w.heap.size + 1, 1, none⟩) (by simp; omega)).trans G1
  have g2 := (hb2.frozen (p := ⟨w.heap.size + 1, 2, none⟩) (by simp; omega)).trans G2
  have hlt : g' < w2.heap.size := op3.1
  have hlg : g < w2.heap.size := HOM.out.1
  have hg'2 : w.heap.size + 1 + 1 + 1 ≤ g' := by omega
  clear hb2 hel2 hl2 op3 am3 tMM C0 C1 C2 F2 D0 D1 D2 G0 G1 G2 HTA HW1 HOP HAM
  obtain ⟨V, hV⟩ : ∃ V, V = w2.setCell ⟨w.heap.size + 1 + 1, 2, none⟩ (.slice (some ⟨g', 0, none⟩) n' n') := ⟨_, rfl⟩
  have mvV : Mv (w.heap.size + 1 + 1) w2 V := by rw [hV]; exact (Mv.refl _ _).cell _ _
  have o0 : V.cell? ⟨w.heap.size + 1, 0, none⟩ = some (.string ⟨#[]⟩) := (World.cell?_of_block (mvV.block (w.heap.size + 1) (by omega) (by omega))).trans d0
  have o1 : V.cell? ⟨w.heap.size + 1, 1, none⟩ = some (.slice none 0 0) := (World.cell?_of_block (mvV.block (w.heap.size + 1) (by omega) (by omega))).trans d1
  have o2 : V.cell? ⟨w.heap.size + 1, 2, none⟩ = some (.slice none 0 0) := (World.cell?_of_block (mvV.block (w.heap.size + 1) (by omega) (by omega))).trans d2
  have k0 : (V.setCell ⟨w.heap.size + 1, 0, none⟩ (.string xn)).cell? ⟨w.heap.size + 1, 0, none⟩ = some (.string xn) := World.cell?_setCell_same _ _ _ o0
  have k1 : ((V.setCell ⟨w.heap.size + 1, 0, none⟩ (.string xn)).setCell ⟨w.heap.size + 1, 1, none⟩ (.slice (some ⟨g, 0, none⟩) n n)).cell? ⟨w.heap.size + 1, 1, none⟩ = some (.slice (some ⟨g, 0, none⟩) n n) := World.cell?_setCell_same _ _ _ (by rw [setCell_ne _ _ _ _ _ (by omega)]; exact o1)
  have k2 : (((V.setCell ⟨w.heap.size + 1, 0, none⟩ (.string xn)).setCell ⟨w.heap.size + 1, 1, none⟩ (.slice (some ⟨g, 0, none⟩) n n)).setCell ⟨w.heap.size + 1, 2, none⟩ (.slice (some ⟨g', 0, none⟩) n' n')).cell? ⟨w.heap.size + 1, 2, none⟩ = some (.slice (some ⟨g', 0, none⟩) n' n') := World.cell?_setCell_same _ _ _ (by rw [setCell_ne _ _ _ _ _ (by omega), setCell_ne _ _ _ _ _ (by omega)]; exact o2)
  rw [hV] at k0 k1 k2
  have HMV := hidOf mvV
  have HVV := hidOf hV
  clear o0 o1 o2 mvV hV
  go_wp2_with fail
  refine bodyPost_ret (by simp [results, Tryz.results72, go_sem, k0, k1, k2]; try rfl) rfl ?_
  rw [← HVV.out]
  have mvR : Mv (w.heap.size + 1) V (((V.setCell ⟨w.heap.size + 1, 0, none⟩ (.string xn)).setCell ⟨w.heap.size + 1, 1, none⟩ (.slice (some ⟨g, 0, none⟩) n n)).setCell ⟨w.heap.size + 1, 2, none⟩ (.slice (some ⟨g', 0, none⟩) n' n')) := (((Mv.refl _ _).cell _ _).cell _ _).cell _ _
  have v1 : IsArr 3 QMo V.heap.size V (some ⟨g, 0, none⟩) n xm := arr_mv HMM.out (fun _ _ (q : QMo _ _ _ _) => q) HMV.out (by omega)
  have v2 : IsArr 3 QAc V.heap.size V (some ⟨g', 0, none⟩) n' xa := arr_mv HAA.out (fun _ _ (q : QAc _ _ _ _) => q) HMV.out (by omega)
  have u1 := HOM.out.mv HMV.out (show g ≠ w.heap.size + 1 + 1 by omega)
  have u2 := HOA.out.mv HMV.out (show g' ≠ w.heap.size + 1 + 1 by omega)
  refine ⟨g, g', rfl, ⟨g, n, g', n', rfl, ⟨by omega, by omega⟩, ⟨by omega, by omega⟩, ⟨u1.mv mvR (by omega), u2.mv mvR (by omega)⟩, arr_mv v1 (fun _ _ (q : QMo _ _ _ _) => q) mvR (show g ≠ w.heap.size + 1 by omega), arr_mv v2 (fun _ _ (q : QAc _ _ _ _) => q) mvR (show g' ≠ w.heap.size + 1 by omega)⟩, ?_⟩
  rw [HVV.out]
  exact (((HB2.out.setCell (by simp; omega) _).setCell (by simp) _).setCell (by simp) _).setCell (by simp) _

theorem infoState : (Tryz.prog.info? 65).map (fun i => (i.zero, i.size, i.bytes)) = some (some (.agg #[.string ⟨#[]⟩, .slice none 0 0, .slice none 0 0]), 3, 64) := by kernel_rfl
set_option maxHeartbeats 1600000 in
set_option maxRecDepth 100000 in
theorem toStateS_any (B : Nat) (a : Option Addr) (n cap : Nat) (l : List St) (w : World) (hn : n ≤ 1048576) (hB : B ≤ w.heap.size) (hsm : ∀ x ∈ l, FewSt x) (hz : IsArr 3 QSt B w a n l) :
    Calls Tryz.prog 37 #[.slice a n cap] w fun e w' => CpL 3 CSt n l w e w' := by
  have hlen := hz.1
  have HZ := hidOf hz
  have HSM := hidOf hsm
  clear hz hsm
  obtain ⟨i0, hi, hz0, hz1, hz2⟩ := info_parts infoState
  have hmk : ∀ u : World, (Instr.makeSlice 32 (.int .i64 (n : Int)) (.int .i64 (n : Int))).run Tryz.prog u =
      .ok (.slice (some ⟨u.heap.size, 0, none⟩) n n) (u.alloc (.cells (madeCells #[.string ⟨#[]⟩, .slice none 0 0, .slice none 0 0] (n * 3)) 65)) := fun u => by
    have h := run_make (P := Tryz.prog) u 32 65 i0 (.agg #[.string ⟨#[]⟩, .slice none 0 0, .slice none 0 0]) Tryz.underlying32 hi hz0 .i64 .i64 (n : Int) (n : Int) (by omega) (Int.le_refl _) (by rw [hz2]; omega) (by omega)
    have e : ((n : Int)).toNat = n := by omega
    rw [e] at h
    simpa [hz1, Value.cells] using h
  go_enter Tryz.func37, Tryz.ntmps37
  go_wp2
  go_loopw [4] (fun i wr => ∃ k : Nat, k ≤ n ∧ i = .int .i64 k ∧ Hid (Open w.heap.size (n * 3) wr) ∧ Below w.heap.size w wr ∧ Hid (∀ i, (h : i < l.length) → i < k → ∃ cs, CSt (w.heap.size + 1) wr cs l[i] ∧ ∀ j u, cs[j]? = some u → j < 3 ∧ wr.cell? ⟨w.heap.size, i * 3 + j, none⟩ = some u)) (fun i _ => n - (intOf i).toNat)
  case atStart => exact ⟨0, Nat.zero_le _, rfl, open_made w _ _ _, (Below.refl _ _).alloc (Nat.le_refl _) _, fun i _ hi => absurd hi (Nat.not_lt_zero _)⟩
  case round =>
    obtain ⟨k, hk, rfl, HO, hbel, HK⟩ := hrel
    by_cases hlt : k < n
    · obtain ⟨b, off, cs, rfl, hb, hq, hcell⟩ := IsArr.at (HZ.out.below (QSt.lift (hbel.mono hB)) (hbel.mono hB)) hlt (show k < l.length by omega)
      have hsw := HO.out.1
      have hbr : b < wr.heap.size := by have := hbel.size; omega
      have hbB : B ≤ wr.heap.size := by have := hbel.size; omega
      have hsmx := HSM.out (l[k]'(by omega)) (List.getElem_mem _)
      obtain ⟨x, hx⟩ : ∃ x, l[k]'(by omega) = x := ⟨_, rfl⟩
      have HX := hidOf hx
      rw [hx] at hq hsmx
      obtain ⟨pa, pn, pc, pa', pn', pc', rfl, hp1, hp2, hp3, hp4, hp5, hp6⟩ := hq
      have HP5 := hidOf hp5
      have HP6 := hidOf hp6
      have c0 : wr.cell? ⟨b, off + k * 3, none⟩ = some (.string x.name) := hcell 0 _ rfl
      have c1 : wr.cell? ⟨b, off + k * 3 + 1, none⟩ = some (.slice pa pn pc) := hcell 1 _ rfl
      have c2 : wr.cell? ⟨b, off + k * 3 + 1 + 1, none⟩ = some (.slice pa' pn' pc') := hcell 2 _ rfl
      have HE := hidOf (toState_any B wr x hbB hsmx pa pn pc pa' pn' pc' hp5 hp6)
      clear hcell hx hmk
      go_wp2_with (go_at_call 72; refine HE.out.mono ?_; rintro e w1 ⟨g, g', rfl, hC, hb1⟩; have HO1 : Hid (Open w.heap.size (n * 3) w1) := HO.out.below hb1; have HKW : Hid (Below w.heap.size w w1) := hbel.trans (hb1.mono hbel.size); have hsw1 := HO1.out.1; obtain ⟨⟨v0, o0⟩, f0⟩ := HO1.out.2 (k * 3) (by omega); obtain ⟨⟨v1, o1⟩, f1⟩ := HO1.out.2 (k * 3 + 1) (by omega); obtain ⟨⟨v2, o2⟩, f2⟩ := HO1.out.2 (k * 3 + 1 + 1) (by omega))
      have s0 : w1.cell? ⟨w.heap.size, k * 3, none⟩ = some v0 := by exact o0
      have s1 : (w1.setCell ⟨w.heap.size, k * 3, none⟩ (.string x.name)).cell? ⟨w.heap.size, k * 3 + 1, none⟩ = some v1 := by rw [setCell_ne _ _ _ _ _ (by omega)]; exact o1
      have s2 : ((w1.setCell ⟨w.heap.size, k * 3, none⟩ (.string x.name)).setCell ⟨w.heap.size, k * 3 + 1, none⟩ (.slice (some ⟨g, 0, none⟩) pn pn)).cell? ⟨w.heap.size, k * 3 + 1 + 1, none⟩ = some v2 := by rw [setCell_ne _ _ _ _ _ (by omega), setCell_ne _ _ _ _ _ (by omega)]; exact o2
      go_roundw
      case rel =>
        refine ⟨k + 1, by omega, by go_num, (((HO1.out.set (k * 3) _ (by omega)).set (k * 3 + 1) _ (by omega)).set (k * 3 + 1 + 1) _ (by omega)), (((HKW.out.setCell (by simp) _).setCell (by simp) _).setCell (by simp) _), ?_⟩
        intro i hil hi
        have hmv : Mv w.heap.size w1 (((w1.setCell ⟨w.heap.size, k * 3, none⟩ (.string x.name)).setCell ⟨w.heap.size, k * 3 + 1, none⟩ (.slice (some ⟨g, 0, none⟩) pn pn)).setCell ⟨w.heap.size, k * 3 + 1 + 1, none⟩ (.slice (some ⟨g', 0, none⟩) pn' pn')) := ((((Mv.refl _ _).cell _ _).cell _ _).cell _ _)
        by_cases e : i = k
        · subst e
          rw [HX.out]
          refine ⟨_, CSt.mv (CSt.low hC (by omega)) hmv (by omega), fun j u hu => ?_⟩
          have hj : j < 3 := (List.getElem?_eq_some_iff.1 hu).1
          have hjc : j = 0 ∨ j = 1 ∨ j = 2 := by omega
          rcases hjc with rfl | rfl | rfl
          · have hu' : some (.string x.name) = some u := hu
            cases hu'
            refine ⟨by decide, ?_⟩
            show _ = _
            rw [setCell_ne _ _ _ _ _ (by omega), setCell_ne _ _ _ _ _ (by omega)]
            exact World.cell?_setCell_same _ _ _ s0
          · have hu' : some (.slice (some ⟨g, 0, none⟩) pn pn) = some u := hu
            cases hu'
            refine ⟨by decide, ?_⟩
            show _ = _
            rw [setCell_ne _ _ _ _ _ (by omega)]
            exact World.cell?_setCell_same _ _ _ s1
          · have hu' : some (.slice (some ⟨g', 0, none⟩) pn' pn') = some u := hu
            cases hu'
            refine ⟨by decide, ?_⟩
            show _ = _
            exact World.cell?_setCell_same _ _ _ s2
        · obtain ⟨cs, q1, q2⟩ := HK.out i hil (by omega)
          refine ⟨cs, CSt.mv (CSt.below q1 hb1) hmv (by omega), fun j u hu => ?_⟩
          obtain ⟨p1, p2⟩ := q2 j u hu
          refine ⟨p1, ?_⟩
          have p3 := (hb1.cell (p := ⟨w.heap.size, i * 3 + j, none⟩) hsw).trans p2
          rw [setCell_ne _ _ _ _ _ (by omega), setCell_ne _ _ _ _ _ (by omega), setCell_ne _ _ _ _ _ (by omega)]
          exact p3
      case measure => simp [intOf]; omega
    · have : k = n := by omega
      subst this
      go_wp2
      go_ret
      exact ⟨w.heap.size, rfl, Nat.le_refl _, HO.out, hbel, hlen, fun i hil => HK.out i hil (by omega)⟩

end Go.Proofs.YtchemhjcknkbgaaGreatDoor

/- The law's marks in lists of structs that hold lists. -/
namespace Go.Proofs.YtchemhjcknkbgaaGreatDoor
open Go Go.RowKit Go.PlainAid
set_option linter.unusedSimpArgs false
set_option linter.unusedVariables false

/-- rows of PortS in block b, and their lists, all within L .. H, that may be written -/
def OPt (L H b : Nat) (ns : List Nat) (w : World) : Prop := L ≤ b ∧ b < H ∧ Open b (ns.length * 2) w ∧ ∀ i, (h : i < ns.length) → ∃ g0, w.cell? ⟨b, i * 2 + 1, none⟩ = some (.slice (some ⟨g0, 0, none⟩) ns[i] ns[i]) ∧ (g0 ≠ b ∧ L ≤ g0 ∧ g0 < H ∧ Open g0 (ns[i]) w)
def OPt.wt : Nat → Nat := fun x => 1 + x
theorem OPt.keep {L H b : Nat} {ns : List Nat} {w w' : World} (h : OPt L H b ns w) (hk : ∀ q N, L ≤ q → q < H → Open q N w → Open q N w')
    (hc : ∀ i, i < ns.length → w'.cell? ⟨b, i * 2 + 1, none⟩ = w.cell? ⟨b, i * 2 + 1, none⟩) : OPt L H b ns w' := by
  obtain ⟨h1, h2, h3, h4⟩ := h
  refine ⟨h1, h2, hk b _ h1 h2 h3, fun i hi => ?_⟩
  obtain ⟨g0, cc0, ⟨oo01, oo02, oo03, oo04⟩⟩ := h4 i hi
  have hci := hc i hi
  exact ⟨g0, (hci).trans cc0, ⟨oo01, oo02, oo03, hk g0 _ oo02 oo03 oo04⟩⟩
theorem OPt.below {L H b : Nat} {ns : List Nat} {w w' : World} (h : OPt L H b ns w) (hb : Below w.heap.size w w') : OPt L H b ns w' :=
  h.keep (fun q N _ _ o => o.below hb) (fun i hi => hb.cell h.2.2.1.1)
theorem OPt.mvR {L H L' H' b : Nat} {ns : List Nat} {w w' : World} (h : OPt L H b ns w) (hm : MvR L' H' w w') (hd : H ≤ L' ∨ H' ≤ L) : OPt L H b ns w' := by
  have hb : ¬ (L' ≤ b ∧ b < H') := by have := h.1; have := h.2.1; omega
  exact h.keep (fun q N h1 h2 o => o.mvR hm (by omega)) (fun i hi => World.cell?_of_block (hm.block b h.2.2.1.1 hb))
theorem OPt.mv {L H p b : Nat} {ns : List Nat} {w w' : World} (h : OPt L H b ns w) (hm : Mv p w w') (hd : p < L ∨ H ≤ p) : OPt L H b ns w' :=
  h.mvR (hm.range (Nat.le_refl _) (Nat.lt_succ_self _)) (by omega)
theorem OPt.name {L H b : Nat} {ns : List Nat} {w : World} (h : OPt L H b ns w) (m : Nat) (v : Value) : OPt L H b ns (w.setCell ⟨b, m * 2, none⟩ v) :=
  h.keep (fun q N _ _ o => o.kept ((Mv.refl b w).cell _ _) (Keep.cell _ _ _ _)) (fun i hi => setCell_ne _ _ _ _ _ (by omega))
theorem OPt.inner {L H b g : Nat} {ns : List Nat} {w w' : World} (h : OPt L H b ns w) (hm : Mv g w w') (hk : Keep g w w') (hg : g ≠ b) : OPt L H b ns w' :=
  h.keep (fun q N _ _ o => o.kept hm hk) (fun i hi => World.cell?_of_block (hm.block b h.2.2.1.1 hg.symm))

set_option maxHeartbeats 1600000 in
set_option maxRecDepth 100000 in
theorem markPortS_kp (L H b n cap : Nat) (ns : List Nat) (k : Int) (w : World) (hn : ns.length = n) (h : OPt L H b ns w) (hl : n ≤ 1048576) (hs : wsum OPt.wt ns ≤ 100000000) (hk0 : 0 < k) (hk1 : k ≤ 1000000000) :
    Calls Tryz.prog 46 #[.slice (some ⟨b, 0, none⟩) n cap, .int .i64 k] w fun e w' => e = .returned (.int .i64 (k + wsum OPt.wt ns)) ∧ MvR L H w w' := by
  have HO := hidOf h
  have HN := hidOf hn
  clear h hn
  go_enter Tryz.func46, Tryz.ntmps46
  go_wp2_with fail
  go_loopw [1, 5] (fun q i wr => ∃ m : Nat, m ≤ n ∧ i = .int .i64 m ∧ q = .int .i64 (k + wsum OPt.wt (ns.take m)) ∧ Hid (OPt L H b ns wr) ∧ MvR L H w wr) (fun _ i _ => n - (intOf i).toNat)
  case atStart => exact ⟨0, Nat.zero_le _, rfl, by simp [wsum], HO, MvR.refl _ _ _⟩
  case round =>
    obtain ⟨m, hm, rfl, rfl, HC, hbel⟩ := hrel
    by_cases hlt : m < n
    · have hml : m < ns.length := by have h1 : ns.length = n := HN.out; omega
      have hw1 := wsum_take OPt.wt ns hml
      have hw2 := wsum_le OPt.wt ns (m + 1)
      have hw3 : OPt.wt ns[m] = 1 + ns[m] := rfl
      obtain ⟨K, hK⟩ : ∃ K : Int, k + (wsum OPt.wt (ns.take m) : Nat) = K := ⟨_, rfl⟩
      have hK0 : 0 < K := by omega
      have hK1 : K ≤ 1200000000 := by omega
      have HW : Hid (k + (wsum OPt.wt (ns.take (m + 1)) : Nat) = K + OPt.wt ns[m]) := by show _ = _; rw [hw1]; omega
      rw [hK]
      have hNN : ns[m] ≤ 100000000 := by omega
      obtain ⟨N, hN⟩ : ∃ N, ns[m] = N := ⟨_, rfl⟩
      have HNm := hidOf hN
      rw [hN] at HW hNN
      have HMT : Hid (∀ w, Calls Tryz.prog 49 #[.int .i64 K] w fun e w' => e = .returned (.string (mtx K)) ∧ Below w.heap.size w w') := fun w => markText_any _ w (by omega) (by omega)
      clear hw1 hw2 hw3 hK hN
      have q0 : IntKind.i64.wrap (K + 1) = K + 1 := IntWalk.i64_in _ ⟨by omega, by omega⟩
      have hbs := HC.out.2.2.1.1
      go_wp2_with fail
      refine (HMT.out wr).mono ?_
      rintro e w0 ⟨rfl, b0⟩
      have HC0 := hidOf (HC.out.below b0)
      have HM0 : Hid (MvR L H w w0) := hbel.trans (MvR.of_below b0)
      have hbs0 := HC0.out.2.2.1.1
      obtain ⟨⟨x0, c0⟩, f0⟩ := HC0.out.2.2.1.2 (m * 2) (by have h1 : ns.length = n := HN.out; omega)
      clear b0
      obtain ⟨W0, hW0⟩ : ∃ W, W = w0.setCell ⟨b, m * 2, none⟩ (.string (mtx K)) := ⟨_, rfl⟩
      have HW0 := hidOf hW0
      have HCW0 : Hid (OPt L H b ns W0) := by show OPt _ _ _ _ _; rw [hW0]; exact HC0.out.name m _
      have HMW0 : Hid (MvR L H w W0) := by show MvR _ _ _ _; rw [hW0]; exact HM0.out.trans (((Mv.refl b w0).cell _ _).range HC0.out.1 HC0.out.2.1)
      obtain ⟨ua0, ce00, ⟨n00a, n00b, n00c, n00d⟩⟩ := HCW0.out.2.2.2 m hml
      rw [HNm.out] at ce00 n00d
      have HMS0 : Hid (Calls Tryz.prog 12 #[.slice (some ⟨ua0, 0, none⟩) N N, .int .i64 (K + 1)] W0 fun e w' => e = .returned (.int .i64 (K + 1 + (N : Nat))) ∧ Mv ua0 W0 w' ∧ Keep ua0 W0 w') := (markStringS_kp ua0 N N (K + 1) W0 n00d (by omega) (by omega) (by omega)).mono fun e w' h => ⟨h.1, h.2.1, h.2.2.1⟩
      have hgb0 := n00a
      have hgL0 := n00b
      have hgH0 := n00c
      have hgs0 := n00d.1
      have bst0 := HCW0.out.2.2.1.1
      clear n00a n00b n00c n00d
      rw [hW0] at ce00
      clear hW0
      go_wp2_with fail
      rw [← HW0.out]
      refine HMS0.out.mono ?_
      rintro e v0 ⟨rfl, mv0, kp0⟩
      have HCv0 := hidOf (HCW0.out.inner mv0 kp0 hgb0)
      have HMv0 : Hid (MvR L H w v0) := HMW0.out.trans (mv0.range hgL0 hgH0)
      clear mv0 kp0 ce00 HMS0
      try clear c0 f0
      go_wp2_with fail
      go_roundw
      case rel => exact ⟨m + 1, by omega, by go_num, congrArg (Value.int IntKind.i64) (by rw [HW.out]; unfold OPt.wt; push_cast; omega), HCv0, HMv0.out⟩
      case measure => simp [intOf]; omega
    · have : m = n := by omega
      subst this
      rw [List.take_of_length_le (by rw [HN.out]; exact Nat.le_refl _)]
      go_wp2_with fail
      go_ret
      exact ⟨rfl, hbel⟩

/-- rows of StateS in block b, and their lists, all within L .. H, that may be written -/
def OSt (L H b : Nat) (ns : List (Nat × Nat)) (w : World) : Prop := L ≤ b ∧ b < H ∧ Open b (ns.length * 3) w ∧ ∀ i, (h : i < ns.length) → ∃ g0 g1, w.cell? ⟨b, i * 3 + 1, none⟩ = some (.slice (some ⟨g0, 0, none⟩) ns[i].1 ns[i].1) ∧ w.cell? ⟨b, i * 3 + 1 + 1, none⟩ = some (.slice (some ⟨g1, 0, none⟩) ns[i].2 ns[i].2) ∧ (g0 ≠ b ∧ L ≤ g0 ∧ g0 < H ∧ Open g0 (ns[i].1 * 3) w) ∧ (g1 ≠ b ∧ L ≤ g1 ∧ g1 < H ∧ Open g1 (ns[i].2 * 3) w)
def OSt.wt : (Nat × Nat) → Nat := fun x => 1 + 3 * x.1 + 3 * x.2
theorem OSt.keep {L H b : Nat} {ns : List (Nat × Nat)} {w w' : World} (h : OSt L H b ns w) (hk : ∀ q N, L ≤ q → q < H → Open q N w → Open q N w')
    (hc : ∀ i, i < ns.length → w'.cell? ⟨b, i * 3 + 1, none⟩ = w.cell? ⟨b, i * 3 + 1, none⟩ ∧ w'.cell? ⟨b, i * 3 + 1 + 1, none⟩ = w.cell? ⟨b, i * 3 + 1 + 1, none⟩) : OSt L H b ns w' := by
  obtain ⟨h1, h2, h3, h4⟩ := h
  refine ⟨h1, h2, hk b _ h1 h2 h3, fun i hi => ?_⟩
  obtain ⟨g0, g1, cc0, cc1, ⟨oo01, oo02, oo03, oo04⟩, ⟨oo11, oo12, oo13, oo14⟩⟩ := h4 i hi
  have hci := hc i hi
  exact ⟨g0, g1, (hci.1).trans cc0, (hci.2).trans cc1, ⟨oo01, oo02, oo03, hk g0 _ oo02 oo03 oo04⟩, ⟨oo11, oo12, oo13, hk g1 _ oo12 oo13 oo14⟩⟩
theorem OSt.below {L H b : Nat} {ns : List (Nat × Nat)} {w w' : World} (h : OSt L H b ns w) (hb : Below w.heap.size w w') : OSt L H b ns w' :=
  h.keep (fun q N _ _ o => o.below hb) (fun i hi => ⟨hb.cell h.2.2.1.1, hb.cell h.2.2.1.1⟩)
theorem OSt.mvR {L H L' H' b : Nat} {ns : List (Nat × Nat)} {w w' : World} (h : OSt L H b ns w) (hm : MvR L' H' w w') (hd : H ≤ L' ∨ H' ≤ L) : OSt L H b ns w' := by
  have hb : ¬ (L' ≤ b ∧ b < H') := by have := h.1; have := h.2.1; omega
  exact h.keep (fun q N h1 h2 o => o.mvR hm (by omega)) (fun i hi => ⟨World.cell?_of_block (hm.block b h.2.2.1.1 hb), World.cell?_of_block (hm.block b h.2.2.1.1 hb)⟩)
theorem OSt.mv {L H p b : Nat} {ns : List (Nat × Nat)} {w w' : World} (h : OSt L H b ns w) (hm : Mv p w w') (hd : p < L ∨ H ≤ p) : OSt L H b ns w' :=
  h.mvR (hm.range (Nat.le_refl _) (Nat.lt_succ_self _)) (by omega)
theorem OSt.name {L H b : Nat} {ns : List (Nat × Nat)} {w : World} (h : OSt L H b ns w) (m : Nat) (v : Value) : OSt L H b ns (w.setCell ⟨b, m * 3, none⟩ v) :=
  h.keep (fun q N _ _ o => o.kept ((Mv.refl b w).cell _ _) (Keep.cell _ _ _ _)) (fun i hi => ⟨setCell_ne _ _ _ _ _ (by omega), setCell_ne _ _ _ _ _ (by omega)⟩)
theorem OSt.inner {L H b g : Nat} {ns : List (Nat × Nat)} {w w' : World} (h : OSt L H b ns w) (hm : Mv g w w') (hk : Keep g w w') (hg : g ≠ b) : OSt L H b ns w' :=
  h.keep (fun q N _ _ o => o.kept hm hk) (fun i hi => ⟨World.cell?_of_block (hm.block b h.2.2.1.1 hg.symm), World.cell?_of_block (hm.block b h.2.2.1.1 hg.symm)⟩)

set_option maxHeartbeats 1600000 in
set_option maxRecDepth 100000 in
theorem markStateS_kp (L H b n cap : Nat) (ns : List (Nat × Nat)) (k : Int) (w : World) (hn : ns.length = n) (h : OSt L H b ns w) (hl : n ≤ 1048576) (hs : wsum OSt.wt ns ≤ 100000000) (hk0 : 0 < k) (hk1 : k ≤ 1000000000) :
    Calls Tryz.prog 48 #[.slice (some ⟨b, 0, none⟩) n cap, .int .i64 k] w fun e w' => e = .returned (.int .i64 (k + wsum OSt.wt ns)) ∧ MvR L H w w' := by
  have HO := hidOf h
  have HN := hidOf hn
  clear h hn
  go_enter Tryz.func48, Tryz.ntmps48
  go_wp2_with fail
  go_loopw [1, 5] (fun q i wr => ∃ m : Nat, m ≤ n ∧ i = .int .i64 m ∧ q = .int .i64 (k + wsum OSt.wt (ns.take m)) ∧ Hid (OSt L H b ns wr) ∧ MvR L H w wr) (fun _ i _ => n - (intOf i).toNat)
  case atStart => exact ⟨0, Nat.zero_le _, rfl, by simp [wsum], HO, MvR.refl _ _ _⟩
  case round =>
    obtain ⟨m, hm, rfl, rfl, HC, hbel⟩ := hrel
    by_cases hlt : m < n
    · have hml : m < ns.length := by have h1 : ns.length = n := HN.out; omega
      have hw1 := wsum_take OSt.wt ns hml
      have hw2 := wsum_le OSt.wt ns (m + 1)
      have hw3 : OSt.wt ns[m] = 1 + 3 * ns[m].1 + 3 * ns[m].2 := rfl
      obtain ⟨K, hK⟩ : ∃ K : Int, k + (wsum OSt.wt (ns.take m) : Nat) = K := ⟨_, rfl⟩
      have hK0 : 0 < K := by omega
      have hK1 : K ≤ 1200000000 := by omega
      have HW : Hid (k + (wsum OSt.wt (ns.take (m + 1)) : Nat) = K + OSt.wt ns[m]) := by show _ = _; rw [hw1]; omega
      rw [hK]
      have hNN : ns[m].1 ≤ 100000000 ∧ ns[m].2 ≤ 100000000 := by omega
      obtain ⟨N, hN⟩ : ∃ N, ns[m] = N := ⟨_, rfl⟩
      have HNm := hidOf hN
      rw [hN] at HW hNN
      have HMT : Hid (∀ w, Calls Tryz.prog 49 #[.int .i64 K] w fun e w' => e = .returned (.string (mtx K)) ∧ Below w.heap.size w w') := fun w => markText_any _ w (by omega) (by omega)
      clear hw1 hw2 hw3 hK hN
      have q0 : IntKind.i64.wrap (K + 1) = K + 1 := IntWalk.i64_in _ ⟨by omega, by omega⟩
      have hbs := HC.out.2.2.1.1
      go_wp2_with fail
      refine (HMT.out wr).mono ?_
      rintro e w0 ⟨rfl, b0⟩
      have HC0 := hidOf (HC.out.below b0)
      have HM0 : Hid (MvR L H w w0) := hbel.trans (MvR.of_below b0)
      have hbs0 := HC0.out.2.2.1.1
      obtain ⟨⟨x0, c0⟩, f0⟩ := HC0.out.2.2.1.2 (m * 3) (by have h1 : ns.length = n := HN.out; omega)
      clear b0
      obtain ⟨W0, hW0⟩ : ∃ W, W = w0.setCell ⟨b, m * 3, none⟩ (.string (mtx K)) := ⟨_, rfl⟩
      have HW0 := hidOf hW0
      have HCW0 : Hid (OSt L H b ns W0) := by show OSt _ _ _ _ _; rw [hW0]; exact HC0.out.name m _
      have HMW0 : Hid (MvR L H w W0) := by show MvR _ _ _ _; rw [hW0]; exact HM0.out.trans (((Mv.refl b w0).cell _ _).range HC0.out.1 HC0.out.2.1)
      obtain ⟨ua0, ua1, ce00, ce01, ⟨n00a, n00b, n00c, n00d⟩, ⟨n01a, n01b, n01c, n01d⟩⟩ := HCW0.out.2.2.2 m hml
      rw [HNm.out] at ce00 n00d ce01 n01d
      have HMS0 : Hid (Calls Tryz.prog 91 #[.slice (some ⟨ua0, 0, none⟩) N.1 N.1, .int .i64 (K + 1)] W0 fun e w' => e = .returned (.int .i64 (K + 1 + 3 * (N.1 : Nat))) ∧ Mv ua0 W0 w' ∧ Keep ua0 W0 w') := markMoveS_kp ua0 N.1 N.1 (K + 1) W0 n00d (by omega) (by omega) (by omega)
      have hgb0 := n00a
      have hgL0 := n00b
      have hgH0 := n00c
      have hgs0 := n00d.1
      have bst0 := HCW0.out.2.2.1.1
      clear n00a n00b n00c n00d
      clear ce01
      clear n01a n01b n01c n01d
      rw [hW0] at ce00
      clear hW0
      go_wp2_with fail
      rw [← HW0.out]
      refine HMS0.out.mono ?_
      rintro e v0 ⟨rfl, mv0, kp0⟩
      have HCv0 := hidOf (HCW0.out.inner mv0 kp0 hgb0)
      have HMv0 : Hid (MvR L H w v0) := HMW0.out.trans (mv0.range hgL0 hgH0)
      clear mv0 kp0 ce00 HMS0
      try clear c0 f0
      obtain ⟨ub0, ub1, ce10, ce11, ⟨n10a, n10b, n10c, n10d⟩, ⟨n11a, n11b, n11c, n11d⟩⟩ := HCv0.out.2.2.2 m hml
      rw [HNm.out] at ce10 n10d ce11 n11d
      have HMS1 : Hid (Calls Tryz.prog 92 #[.slice (some ⟨ub1, 0, none⟩) N.2 N.2, .int .i64 (K + 1 + 3 * (N.1 : Nat))] v0 fun e w' => e = .returned (.int .i64 (K + 1 + 3 * (N.1 : Nat) + 3 * (N.2 : Nat))) ∧ Mv ub1 v0 w' ∧ Keep ub1 v0 w') := markActS_kp ub1 N.2 N.2 (K + 1 + 3 * (N.1 : Nat)) v0 n11d (by omega) (by omega) (by omega)
      have hgb1 := n11a
      have hgL1 := n11b
      have hgH1 := n11c
      have hgs1 := n11d.1
      have bst1 := HCv0.out.2.2.1.1
      clear ce10
      clear n10a n10b n10c n10d
      clear n11a n11b n11c n11d
      go_wp2_with fail
      refine HMS1.out.mono ?_
      rintro e v1 ⟨rfl, mv1, kp1⟩
      have HCv1 := hidOf (HCv0.out.inner mv1 kp1 hgb1)
      have HMv1 : Hid (MvR L H w v1) := HMv0.out.trans (mv1.range hgL1 hgH1)
      clear mv1 kp1 ce11 HMS1
      go_wp2_with fail
      go_roundw
      case rel => exact ⟨m + 1, by omega, by go_num, congrArg (Value.int IntKind.i64) (by rw [HW.out]; unfold OSt.wt; push_cast; omega), HCv1, HMv1.out⟩
      case measure => simp [intOf]; omega
    · have : m = n := by omega
      subst this
      rw [List.take_of_length_le (by rw [HN.out]; exact Nat.le_refl _)]
      go_wp2_with fail
      go_ret
      exact ⟨rfl, hbel⟩
end Go.Proofs.YtchemhjcknkbgaaGreatDoor

/- The law's copy of a block. -/
namespace Go.Proofs.YtchemhjcknkbgaaGreatDoor
open Go Go.RowKit Go.PlainAid
set_option linter.unusedSimpArgs false
set_option linter.unusedVariables false

/-- where a copied block's lists lie -/
structure CpB (L : Nat) (w : World) (ni no nv nt gi go gv gs : Nat) (b : Bk) : Prop where
  ins : CL 2 CPt L ni b.ins gi w
  outs : CL 2 CPt L no b.outs go w
  vars : CL 2 CVr L nv b.vars gv w
  states : CL 3 CSt L nt b.states gs w
theorem CpB.mv {L p : Nat} {w w' : World} {ni no nv nt gi go gv gs : Nat} {b : Bk} (h : CpB L w ni no nv nt gi go gv gs b) (hm : Mv p w w') (hp : p < L) : CpB L w' ni no nv nt gi go gv gs b :=
  ⟨h.ins.mv (fun _ _ q => q.mv hm (by have := h.ins.1; omega)) hm hp, h.outs.mv (fun _ _ q => q.mv hm (by have := h.outs.1; omega)) hm hp, h.vars.mv (fun _ _ (q : CVr _ _ _ _) => q) hm hp, h.states.mv (fun _ _ q => q.mv hm (by have := h.states.1; omega)) hm hp⟩
theorem CpB.below {L : Nat} {w w' : World} {ni no nv nt gi go gv gs : Nat} {b : Bk} (h : CpB L w ni no nv nt gi go gv gs b) (hb : Below w.heap.size w w') : CpB L w' ni no nv nt gi go gv gs b :=
  ⟨h.ins.below (fun _ _ q => q.below hb) hb, h.outs.below (fun _ _ q => q.below hb) hb, h.vars.below (fun _ _ (q : CVr _ _ _ _) => q) hb, h.states.below (fun _ _ q => q.below hb) hb⟩
def cpV (ni no nv nt gi go gv gs : Nat) : BkV := ⟨some ⟨gi, 0, none⟩, ni, ni, some ⟨go, 0, none⟩, no, no, some ⟨gv, 0, none⟩, nv, nv, some ⟨gs, 0, none⟩, nt, nt⟩
def FewBk (b : Bk) : Prop := (b.ins.length ≤ 1048576 ∧ ∀ p ∈ b.ins, FewPt p) ∧ (b.outs.length ≤ 1048576 ∧ ∀ p ∈ b.outs, FewPt p) ∧ b.vars.length ≤ 1048576 ∧ (b.states.length ≤ 1048576 ∧ ∀ s ∈ b.states, FewSt s)
theorem CpB.is {L : Nat} {w : World} {ni no nv nt gi go gv gs : Nat} {b : Bk} (h : CpB L w ni no nv nt gi go gv gs b) (hf : FewBk b) : IsBk w.heap.size w (cpV ni no nv nt gi go gv gs) b := by
  have l1 := h.ins.2.2.1
  have l2 := h.outs.2.2.1
  have l3 := h.vars.2.2.1
  have l4 := h.states.2.2.1
  obtain ⟨⟨f1, _⟩, ⟨f2, _⟩, f3, ⟨f4, _⟩⟩ := hf
  refine ⟨h.ins.arr CPt.q, h.outs.arr CPt.q, h.vars.arr (fun _ _ (q : CVr _ _ _ _) => q), h.states.arr CSt.q, ⟨Nat.le_refl _, ?_⟩, ⟨Nat.le_refl _, ?_⟩, ⟨Nat.le_refl _, ?_⟩, ⟨Nat.le_refl _, ?_⟩⟩ <;> (unfold maxLen; show _ ≤ _; simp only [cpV]; omega)

/-- where a copied block lies, list by list, so that it may be written -/
def OLf (sz L H b n : Nat) (w : World) : Prop := L ≤ b ∧ b < H ∧ Open b (n * sz) w
theorem OLf.below {sz L H b n : Nat} {w w' : World} (h : OLf sz L H b n w) (hb : Below w.heap.size w w') : OLf sz L H b n w' := ⟨h.1, h.2.1, h.2.2.below hb⟩
theorem OLf.mvR {sz L H L' H' b n : Nat} {w w' : World} (h : OLf sz L H b n w) (hm : MvR L' H' w w') (hd : H ≤ L' ∨ H' ≤ L) : OLf sz L H b n w' :=
  ⟨h.1, h.2.1, h.2.2.mvR hm (by have := h.1; have := h.2.1; omega)⟩
theorem OLf.mv {sz L H p b n : Nat} {w w' : World} (h : OLf sz L H b n w) (hm : Mv p w w') (hd : p < L ∨ H ≤ p) : OLf sz L H b n w' :=
  h.mvR (hm.range (Nat.le_refl _) (Nat.lt_succ_self _)) (by omega)
def ptN (p : Pt) : Nat := p.vals.length
def stN (s : St) : Nat × Nat := (s.moves.length, s.acts.length)
def MkB (L H gi go gv gs : Nat) (b : Bk) (w : World) : Prop := ∃ m0 m1 m2 m3 m4, (L ≤ m0 ∧ m0 ≤ m1 ∧ m1 ≤ m2 ∧ m2 ≤ m3 ∧ m3 ≤ m4 ∧ m4 ≤ H) ∧
  OPt m0 m1 gi (b.ins.map ptN) w ∧ OPt m1 m2 go (b.outs.map ptN) w ∧ OLf 2 m2 m3 gv b.vars.length w ∧ OSt m3 m4 gs (b.states.map stN) w
theorem MkB.below {L H gi go gv gs : Nat} {b : Bk} {w w' : World} (h : MkB L H gi go gv gs b w) (hb : Below w.heap.size w w') : MkB L H gi go gv gs b w' := by
  obtain ⟨m0, m1, m2, m3, m4, hm, h1, h2, h3, h4⟩ := h
  exact ⟨m0, m1, m2, m3, m4, hm, h1.below hb, h2.below hb, h3.below hb, h4.below hb⟩
theorem opt_cl {g n L : Nat} {l : List Pt} {w' : World} (hg : L ≤ g) (ho : Open g (n * 2) w') (hl : l.length = n) (h : ∀ i, (hi : i < l.length) → ∃ cs, CPt (g + 1) w' cs l[i] ∧ ∀ j u, cs[j]? = some u → j < 2 ∧ w'.cell? ⟨g, i * 2 + j, none⟩ = some u) :
    OPt L w'.heap.size g (l.map ptN) w' := by
  subst hl
  refine ⟨hg, ho.1, by rw [List.length_map]; exact ho, fun i hi => ?_⟩
  rw [List.length_map] at hi
  obtain ⟨cs, ⟨q, m, rfl, h1, h2, h3, h4⟩, hc⟩ := h i hi
  have e : (l.map ptN)[i]'(by rw [List.length_map]; exact hi) = m := by rw [List.getElem_map]; exact h4.1
  rw [e]
  exact ⟨q, (hc 1 _ rfl).2, by omega, by omega, h3.1, h3⟩
theorem ost_cl {g n L : Nat} {l : List St} {w' : World} (hg : L ≤ g) (ho : Open g (n * 3) w') (hl : l.length = n) (h : ∀ i, (hi : i < l.length) → ∃ cs, CSt (g + 1) w' cs l[i] ∧ ∀ j u, cs[j]? = some u → j < 3 ∧ w'.cell? ⟨g, i * 3 + j, none⟩ = some u) :
    OSt L w'.heap.size g (l.map stN) w' := by
  subst hl
  refine ⟨hg, ho.1, by rw [List.length_map]; exact ho, fun i hi => ?_⟩
  rw [List.length_map] at hi
  obtain ⟨cs, ⟨q, m, q', m', rfl, ⟨h1, h1'⟩, h2, ⟨h3, h3'⟩, h4, h5⟩, hc⟩ := h i hi
  have e : (l.map stN)[i]'(by rw [List.length_map]; exact hi) = (m, m') := by rw [List.getElem_map]; unfold stN; rw [h4.1, h5.1]
  rw [e]
  exact ⟨q, q', (hc 1 _ rfl).2, (hc 2 _ rfl).2, ⟨by omega, by omega, h3.1, h3⟩, ⟨by omega, by omega, h3'.1, h3'⟩⟩

set_option maxHeartbeats 3200000 in
set_option maxRecDepth 100000 in
theorem toBlock_mk (B : Nat) (w : World) (v : BkV) (x : Bk) (hB : B ≤ w.heap.size) (hf : FewBk x) (hx : IsBk B w v x) :
    Calls Tryz.prog 7 #[v.val x.name] w fun e w' => ∃ gi go gv gs, e = .returned ((cpV v.ni v.no v.nv v.nt gi go gv gs).val x.name) ∧ CpB w.heap.size w' v.ni v.no v.nv v.nt gi go gv gs x ∧ Below w.heap.size w w' ∧ MkB w.heap.size w'.heap.size gi go gv gs x w' := by
  obtain ⟨ai, ni, ci, ao, no, co, av, nv, cv, at_, nt, ct⟩ := v
  obtain ⟨xn, xi, xo, xv, xs⟩ := x
  obtain ⟨⟨f1, f1'⟩, ⟨f2, f2'⟩, f3, ⟨f4, f4'⟩⟩ := hf
  obtain ⟨hins, houts, hvars, hstates, _⟩ := hx
  simp only at f1 f2 f3 f4 f1' f2' f4' hins houts hvars hstates
  have l1 := hins.1
  have l2 := houts.1
  have l3 := hvars.1
  have l4 := hstates.1
  have T0 : Hid (∀ W, Below w.heap.size w W → Calls Tryz.prog 35 #[.slice ai ni ci] W fun e w' => CpL 2 CPt ni xi W e w') := fun W hb => toPortS_any B ai ni ci xi W (by omega) (by have := hb.size; omega) f1' (hins.below (QPt.lift (hb.mono hB)) (hb.mono hB))
  have T1 : Hid (∀ W, Below w.heap.size w W → Calls Tryz.prog 35 #[.slice ao no co] W fun e w' => CpL 2 CPt no xo W e w') := fun W hb => toPortS_any B ao no co xo W (by omega) (by have := hb.size; omega) f2' (houts.below (QPt.lift (hb.mono hB)) (hb.mono hB))
  have T2 : Hid (∀ W, Below w.heap.size w W → Calls Tryz.prog 36 #[.slice av nv cv] W fun e w' => CpL 2 CVr nv xv W e w') := fun W hb => toVarS_any B av nv cv xv W (by omega) (by have := hb.size; omega) (fun _ _ => trivial) (hvars.below (QVr.lift (hb.mono hB)) (hb.mono hB))
  have T3 : Hid (∀ W, Below w.heap.size w W → Calls Tryz.prog 37 #[.slice at_ nt ct] W fun e w' => CpL 3 CSt nt xs W e w') := fun W hb => toStateS_any B at_ nt ct xs W (by omega) (by have := hb.size; omega) f4' (hstates.below (QSt.lift (hb.mono hB)) (hb.mono hB))
  clear hins houts hvars hstates f1' f2' f4'
  show Calls Tryz.prog 7 #[.agg #[.string xn, .slice ai ni ci, .slice ao no co, .slice av nv cv, .slice at_ nt ct]] w _
  obtain ⟨W0, hW0⟩ : ∃ W0, W0 = ((w.alloc (.cells #[.string xn, .slice ai ni ci, .slice ao no co, .slice av nv cv, .slice at_ nt ct] 26)).alloc (.cells #[.string ⟨#[]⟩, .slice none 0 0, .slice none 0 0, .slice none 0 0, .slice none 0 0] 34)).alloc (.cells #[.string xn, .slice none 0 0, .slice none 0 0, .slice none 0 0, .slice none 0 0] 34) := ⟨_, rfl⟩
  have B0 : Hid (Below w.heap.size w W0) := by
    show Below _ _ _
    rw [hW0]; exact (((Below.refl _ _).alloc (Nat.le_refl _) _).alloc (by simp) _).alloc (by simp; omega) _
  have hz0 : W0.heap.size = w.heap.size + 1 + 1 + 1 := by rw [hW0]; simp
  have A0 : BoxAt w.heap.size [.string xn, .slice ai ni ci, .slice ao no co, .slice av nv cv, .slice at_ nt ct] W0 := by
    refine ⟨by omega, fun j u hu => ?_⟩
    have hj : j < 5 := (List.getElem?_eq_some_iff.1 hu).1
    have : j = 0 ∨ j = 1 ∨ j = 2 ∨ j = 3 ∨ j = 4 := by omega
    rw [hW0]
    rcases this with rfl | rfl | rfl | rfl | rfl <;> (simp at hu; subst hu; simp [go_sem])
  have R0 : BoxAt (w.heap.size + 1) [.string ⟨#[]⟩, .slice none 0 0, .slice none 0 0, .slice none 0 0, .slice none 0 0] W0 := by
    refine ⟨by omega, fun j u hu => ?_⟩
    have hj : j < 5 := (List.getElem?_eq_some_iff.1 hu).1
    have : j = 0 ∨ j = 1 ∨ j = 2 ∨ j = 3 ∨ j = 4 := by omega
    rw [hW0]
    rcases this with rfl | rfl | rfl | rfl | rfl <;> (simp at hu; subst hu; simp [go_sem])
  have O0 : BoxAt (w.heap.size + 1 + 1) [.string xn, .slice none 0 0, .slice none 0 0, .slice none 0 0, .slice none 0 0] W0 := by
    refine ⟨by omega, fun j u hu => ?_⟩
    have hj : j < 5 := (List.getElem?_eq_some_iff.1 hu).1
    have : j = 0 ∨ j = 1 ∨ j = 2 ∨ j = 3 ∨ j = 4 := by omega
    rw [hW0]
    rcases this with rfl | rfl | rfl | rfl | rfl <;> (simp at hu; subst hu; simp [go_sem])
  have HA0 := hidOf A0
  have HR0 := hidOf R0
  have HO0 := hidOf O0
  have HW0 := hidOf hW0
  clear A0 R0 O0 hW0
  go_enter Tryz.func7, Tryz.ntmps7
  go_wp2_with fail
  rw [← HW0.out]
  refine (T0.out W0 B0.out).mono ?_
  rintro e w1 ⟨gi, rfl, hg0, op0, hb0, hl0, hel0⟩
  have zz0 := hb0.size
  have L0 : CL 2 CPt (w.heap.size + 1 + 1 + 1) ni xi gi w1 := ⟨by omega, op0, hl0, hel0⟩
  have hlt0 := op0.1
  have J0 : OPt (W0.heap.size) (w1.heap.size) gi (xi.map ptN) w1 := opt_cl hg0 op0 hl0 hel0
  have a1 := HA0.out.below hb0
  have r1 := HR0.out.below hb0
  have o1 := HO0.out.below hb0
  obtain ⟨W1, hW1⟩ : ∃ W, W = w1.setCell ⟨w.heap.size + 1 + 1, 1, none⟩ (.slice (some ⟨gi, 0, none⟩) ni ni) := ⟨_, rfl⟩
  have mv1 : Mv (w.heap.size + 1 + 1) w1 W1 := by rw [hW1]; exact (Mv.refl _ _).cell _ _
  have HA1 := hidOf (a1.mv mv1 (by omega))
  have HR1 := hidOf (r1.mv mv1 (by omega))
  have HO1 : Hid (BoxAt (w.heap.size + 1 + 1) [.string xn, .slice (some ⟨gi, 0, none⟩) ni ni, .slice none 0 0, .slice none 0 0, .slice none 0 0] W1) := by
    show BoxAt _ _ _
    rw [hW1]; exact o1.set 1 (.slice (some ⟨gi, 0, none⟩) ni ni)
  have B1 : Hid (Below w.heap.size w W1) := by
    show Below _ _ _
    rw [hW1]; exact (B0.out.trans (hb0.mono B0.out.size)).setCell (by simp; omega) _
  have zW1 : W1.heap.size = w1.heap.size := by rw [hW1]; simp [World.setCell]
  have K0_1 : Hid (CL 2 CPt (w.heap.size + 1 + 1 + 1) ni xi gi W1) := L0.mv (fun _ _ q => CPt.mv q mv1 (by omega)) mv1 (by omega)
  have Q0_1 : Hid (OPt (W0.heap.size) (w1.heap.size) gi (xi.map ptN) W1) := J0.mv mv1 (by omega)
  have HW1 := hidOf hW1
  have cS0 := (o1.2 1 _ rfl).1
  have fS0 := (o1.2 1 _ rfl).2
  have cA0 : W1.cell? ⟨w.heap.size, 2, none⟩ = some (.slice ao no co) := (HA1.out.2 2 _ rfl).1
  rw [hW1] at cA0
  have lt0 : w.heap.size + 1 + 1 < w1.heap.size := by omega
  clear hel0 hl0 hb0 L0 op0  a1 r1 o1 mv1 hW1 J0 
  go_wp2_with fail
  rw [← HW1.out]
  refine (T1.out W1 B1.out).mono ?_
  rintro e w2 ⟨go, rfl, hg1, op1, hb1, hl1, hel1⟩
  have zz1 := hb1.size
  have L1 : CL 2 CPt (w.heap.size + 1 + 1 + 1) no xo go w2 := ⟨by omega, op1, hl1, hel1⟩
  have hlt1 := op1.1
  have J1 : OPt (W1.heap.size) (w2.heap.size) go (xo.map ptN) w2 := opt_cl hg1 op1 hl1 hel1
  have M0_2 : CL 2 CPt (w.heap.size + 1 + 1 + 1) ni xi gi w2 := K0_1.out.below (fun _ _ q => CPt.below q hb1) hb1
  have N0_2 : OPt (W0.heap.size) (w1.heap.size) gi (xi.map ptN) w2 := Q0_1.out.below hb1
  have a2 := HA1.out.below hb1
  have r2 := HR1.out.below hb1
  have o2 := HO1.out.below hb1
  obtain ⟨W2, hW2⟩ : ∃ W, W = w2.setCell ⟨w.heap.size + 1 + 1, 2, none⟩ (.slice (some ⟨go, 0, none⟩) no no) := ⟨_, rfl⟩
  have mv2 : Mv (w.heap.size + 1 + 1) w2 W2 := by rw [hW2]; exact (Mv.refl _ _).cell _ _
  have HA2 := hidOf (a2.mv mv2 (by omega))
  have HR2 := hidOf (r2.mv mv2 (by omega))
  have HO2 : Hid (BoxAt (w.heap.size + 1 + 1) [.string xn, .slice (some ⟨gi, 0, none⟩) ni ni, .slice (some ⟨go, 0, none⟩) no no, .slice none 0 0, .slice none 0 0] W2) := by
    show BoxAt _ _ _
    rw [hW2]; exact o2.set 2 (.slice (some ⟨go, 0, none⟩) no no)
  have B2 : Hid (Below w.heap.size w W2) := by
    show Below _ _ _
    rw [hW2]; exact (B1.out.trans (hb1.mono B1.out.size)).setCell (by simp; omega) _
  have zW2 : W2.heap.size = w2.heap.size := by rw [hW2]; simp [World.setCell]
  have K0_2 : Hid (CL 2 CPt (w.heap.size + 1 + 1 + 1) ni xi gi W2) := M0_2.mv (fun _ _ q => CPt.mv q mv2 (by omega)) mv2 (by omega)
  have K1_2 : Hid (CL 2 CPt (w.heap.size + 1 + 1 + 1) no xo go W2) := L1.mv (fun _ _ q => CPt.mv q mv2 (by omega)) mv2 (by omega)
  have Q0_2 : Hid (OPt (W0.heap.size) (w1.heap.size) gi (xi.map ptN) W2) := N0_2.mv mv2 (by omega)
  have Q1_2 : Hid (OPt (W1.heap.size) (w2.heap.size) go (xo.map ptN) W2) := J1.mv mv2 (by omega)
  have HW2 := hidOf hW2
  have cS1 := (o2.2 2 _ rfl).1
  have fS1 := (o2.2 2 _ rfl).2
  have cA1 : W2.cell? ⟨w.heap.size, 3, none⟩ = some (.slice av nv cv) := (HA2.out.2 3 _ rfl).1
  rw [hW2] at cA1
  have lt1 : w.heap.size + 1 + 1 < w2.heap.size := by omega
  clear hel1 hl1 hb1 L1 op1 M0_2 a2 r2 o2 mv2 hW2 J1 N0_2
  go_wp2_with fail
  rw [← HW2.out]
  refine (T2.out W2 B2.out).mono ?_
  rintro e w3 ⟨gv, rfl, hg2, op2, hb2, hl2, hel2⟩
  have zz2 := hb2.size
  have L2 : CL 2 CVr (w.heap.size + 1 + 1 + 1) nv xv gv w3 := ⟨by omega, op2, hl2, hel2⟩
  have hlt2 := op2.1
  have J2 : OLf 2 (W2.heap.size) (w3.heap.size) gv nv w3 := ⟨hg2, op2.1, op2⟩
  have M0_3 : CL 2 CPt (w.heap.size + 1 + 1 + 1) ni xi gi w3 := K0_2.out.below (fun _ _ q => CPt.below q hb2) hb2
  have M1_3 : CL 2 CPt (w.heap.size + 1 + 1 + 1) no xo go w3 := K1_2.out.below (fun _ _ q => CPt.below q hb2) hb2
  have N0_3 : OPt (W0.heap.size) (w1.heap.size) gi (xi.map ptN) w3 := Q0_2.out.below hb2
  have N1_3 : OPt (W1.heap.size) (w2.heap.size) go (xo.map ptN) w3 := Q1_2.out.below hb2
  have a3 := HA2.out.below hb2
  have r3 := HR2.out.below hb2
  have o3 := HO2.out.below hb2
  obtain ⟨W3, hW3⟩ : ∃ W, W = w3.setCell ⟨w.heap.size + 1 + 1, 3, none⟩ (.slice (some ⟨gv, 0, none⟩) nv nv) := ⟨_, rfl⟩
  have mv3 : Mv (w.heap.size + 1 + 1) w3 W3 := by rw [hW3]; exact (Mv.refl _ _).cell _ _
  have HA3 := hidOf (a3.mv mv3 (by omega))
  have HR3 := hidOf (r3.mv mv3 (by omega))
  have HO3 : Hid (BoxAt (w.heap.size + 1 + 1) [.string xn, .slice (some ⟨gi, 0, none⟩) ni ni, .slice (some ⟨go, 0, none⟩) no no, .slice (some ⟨gv, 0, none⟩) nv nv, .slice none 0 0] W3) := by
    show BoxAt _ _ _
    rw [hW3]; exact o3.set 3 (.slice (some ⟨gv, 0, none⟩) nv nv)
  have B3 : Hid (Below w.heap.size w W3) := by
    show Below _ _ _
    rw [hW3]; exact (B2.out.trans (hb2.mono B2.out.size)).setCell (by simp; omega) _
  have zW3 : W3.heap.size = w3.heap.size := by rw [hW3]; simp [World.setCell]
  have K0_3 : Hid (CL 2 CPt (w.heap.size + 1 + 1 + 1) ni xi gi W3) := M0_3.mv (fun _ _ q => CPt.mv q mv3 (by omega)) mv3 (by omega)
  have K1_3 : Hid (CL 2 CPt (w.heap.size + 1 + 1 + 1) no xo go W3) := M1_3.mv (fun _ _ q => CPt.mv q mv3 (by omega)) mv3 (by omega)
  have K2_3 : Hid (CL 2 CVr (w.heap.size + 1 + 1 + 1) nv xv gv W3) := L2.mv (fun _ _ (q : CVr _ _ _ _) => q) mv3 (by omega)
  have Q0_3 : Hid (OPt (W0.heap.size) (w1.heap.size) gi (xi.map ptN) W3) := N0_3.mv mv3 (by omega)
  have Q1_3 : Hid (OPt (W1.heap.size) (w2.heap.size) go (xo.map ptN) W3) := N1_3.mv mv3 (by omega)
  have Q2_3 : Hid (OLf 2 (W2.heap.size) (w3.heap.size) gv nv W3) := J2.mv mv3 (by omega)
  have HW3 := hidOf hW3
  have cS2 := (o3.2 3 _ rfl).1
  have fS2 := (o3.2 3 _ rfl).2
  have cA2 : W3.cell? ⟨w.heap.size, 4, none⟩ = some (.slice at_ nt ct) := (HA3.out.2 4 _ rfl).1
  rw [hW3] at cA2
  have lt2 : w.heap.size + 1 + 1 < w3.heap.size := by omega
  clear hel2 hl2 hb2 L2 op2 M0_3 M1_3 a3 r3 o3 mv3 hW3 J2 N0_3 N1_3
  go_wp2_with fail
  rw [← HW3.out]
  refine (T3.out W3 B3.out).mono ?_
  rintro e w4 ⟨gs, rfl, hg3, op3, hb3, hl3, hel3⟩
  have zz3 := hb3.size
  have L3 : CL 3 CSt (w.heap.size + 1 + 1 + 1) nt xs gs w4 := ⟨by omega, op3, hl3, hel3⟩
  have hlt3 := op3.1
  have J3 : OSt (W3.heap.size) (w4.heap.size) gs (xs.map stN) w4 := ost_cl hg3 op3 hl3 hel3
  have M0_4 : CL 2 CPt (w.heap.size + 1 + 1 + 1) ni xi gi w4 := K0_3.out.below (fun _ _ q => CPt.below q hb3) hb3
  have M1_4 : CL 2 CPt (w.heap.size + 1 + 1 + 1) no xo go w4 := K1_3.out.below (fun _ _ q => CPt.below q hb3) hb3
  have M2_4 : CL 2 CVr (w.heap.size + 1 + 1 + 1) nv xv gv w4 := K2_3.out.below (fun _ _ (q : CVr _ _ _ _) => q) hb3
  have N0_4 : OPt (W0.heap.size) (w1.heap.size) gi (xi.map ptN) w4 := Q0_3.out.below hb3
  have N1_4 : OPt (W1.heap.size) (w2.heap.size) go (xo.map ptN) w4 := Q1_3.out.below hb3
  have N2_4 : OLf 2 (W2.heap.size) (w3.heap.size) gv nv w4 := Q2_3.out.below hb3
  have a4 := HA3.out.below hb3
  have r4 := HR3.out.below hb3
  have o4 := HO3.out.below hb3
  obtain ⟨W4, hW4⟩ : ∃ W, W = w4.setCell ⟨w.heap.size + 1 + 1, 4, none⟩ (.slice (some ⟨gs, 0, none⟩) nt nt) := ⟨_, rfl⟩
  have mv4 : Mv (w.heap.size + 1 + 1) w4 W4 := by rw [hW4]; exact (Mv.refl _ _).cell _ _
  have HA4 := hidOf (a4.mv mv4 (by omega))
  have HR4 := hidOf (r4.mv mv4 (by omega))
  have HO4 : Hid (BoxAt (w.heap.size + 1 + 1) [.string xn, .slice (some ⟨gi, 0, none⟩) ni ni, .slice (some ⟨go, 0, none⟩) no no, .slice (some ⟨gv, 0, none⟩) nv nv, .slice (some ⟨gs, 0, none⟩) nt nt] W4) := by
    show BoxAt _ _ _
    rw [hW4]; exact o4.set 4 (.slice (some ⟨gs, 0, none⟩) nt nt)
  have B4 : Hid (Below w.heap.size w W4) := by
    show Below _ _ _
    rw [hW4]; exact (B3.out.trans (hb3.mono B3.out.size)).setCell (by simp; omega) _
  have zW4 : W4.heap.size = w4.heap.size := by rw [hW4]; simp [World.setCell]
  have K0_4 : Hid (CL 2 CPt (w.heap.size + 1 + 1 + 1) ni xi gi W4) := M0_4.mv (fun _ _ q => CPt.mv q mv4 (by omega)) mv4 (by omega)
  have K1_4 : Hid (CL 2 CPt (w.heap.size + 1 + 1 + 1) no xo go W4) := M1_4.mv (fun _ _ q => CPt.mv q mv4 (by omega)) mv4 (by omega)
  have K2_4 : Hid (CL 2 CVr (w.heap.size + 1 + 1 + 1) nv xv gv W4) := M2_4.mv (fun _ _ (q : CVr _ _ _ _) => q) mv4 (by omega)
  have K3_4 : Hid (CL 3 CSt (w.heap.size + 1 + 1 + 1) nt xs gs W4) := L3.mv (fun _ _ q => CSt.mv q mv4 (by omega)) mv4 (by omega)
  have Q0_4 : Hid (OPt (W0.heap.size) (w1.heap.size) gi (xi.map ptN) W4) := N0_4.mv mv4 (by omega)
  have Q1_4 : Hid (OPt (W1.heap.size) (w2.heap.size) go (xo.map ptN) W4) := N1_4.mv mv4 (by omega)
  have Q2_4 : Hid (OLf 2 (W2.heap.size) (w3.heap.size) gv nv W4) := N2_4.mv mv4 (by omega)
  have Q3_4 : Hid (OSt (W3.heap.size) (w4.heap.size) gs (xs.map stN) W4) := J3.mv mv4 (by omega)
  have HW4 := hidOf hW4
  have cS3 := (o4.2 4 _ rfl).1
  have fS3 := (o4.2 4 _ rfl).2
  have lt3 : w.heap.size + 1 + 1 < w4.heap.size := by omega
  clear hel3 hl3 hb3 L3 op3 M0_4 M1_4 M2_4 a4 r4 o4 mv4 hW4 J3 N0_4 N1_4 N2_4
  have y0 : W4.cell? ⟨w.heap.size + 1 + 1, 0, none⟩ = some (.string xn) := (HO4.out.2 0 _ rfl).1
  have d0 : W4.cell? ⟨w.heap.size + 1, 0, none⟩ = some (.string ⟨#[]⟩) := (HR4.out.2 0 _ rfl).1
  have g0 : W4.frozen? ⟨w.heap.size + 1, 0, none⟩ = false := (HR4.out.2 0 _ rfl).2
  have y1 : W4.cell? ⟨w.heap.size + 1 + 1, 1, none⟩ = some (.slice (some ⟨gi, 0, none⟩) ni ni) := (HO4.out.2 1 _ rfl).1
  have d1 : W4.cell? ⟨w.heap.size + 1, 1, none⟩ = some (.slice none 0 0) := (HR4.out.2 1 _ rfl).1
  have g1 : W4.frozen? ⟨w.heap.size + 1, 1, none⟩ = false := (HR4.out.2 1 _ rfl).2
  have y2 : W4.cell? ⟨w.heap.size + 1 + 1, 2, none⟩ = some (.slice (some ⟨go, 0, none⟩) no no) := (HO4.out.2 2 _ rfl).1
  have d2 : W4.cell? ⟨w.heap.size + 1, 2, none⟩ = some (.slice none 0 0) := (HR4.out.2 2 _ rfl).1
  have g2 : W4.frozen? ⟨w.heap.size + 1, 2, none⟩ = false := (HR4.out.2 2 _ rfl).2
  have y3 : W4.cell? ⟨w.heap.size + 1 + 1, 3, none⟩ = some (.slice (some ⟨gv, 0, none⟩) nv nv) := (HO4.out.2 3 _ rfl).1
  have d3 : W4.cell? ⟨w.heap.size + 1, 3, none⟩ = some (.slice none 0 0) := (HR4.out.2 3 _ rfl).1
  have g3 : W4.frozen? ⟨w.heap.size + 1, 3, none⟩ = false := (HR4.out.2 3 _ rfl).2
  have y4 : W4.cell? ⟨w.heap.size + 1 + 1, 4, none⟩ = some (.slice (some ⟨gs, 0, none⟩) nt nt) := (HO4.out.2 4 _ rfl).1
  have d4 : W4.cell? ⟨w.heap.size + 1, 4, none⟩ = some (.slice none 0 0) := (HR4.out.2 4 _ rfl).1
  have g4 : W4.frozen? ⟨w.heap.size + 1, 4, none⟩ = false := (HR4.out.2 4 _ rfl).2
  have k0 : (W4.setCell ⟨w.heap.size + 1, 0, none⟩ (.string xn)).cell? ⟨w.heap.size + 1, 0, none⟩ = some (.string xn) := World.cell?_setCell_same _ _ _ (by exact d0)
  have k1 : ((W4.setCell ⟨w.heap.size + 1, 0, none⟩ (.string xn)).setCell ⟨w.heap.size + 1, 1, none⟩ (.slice (some ⟨gi, 0, none⟩) ni ni)).cell? ⟨w.heap.size + 1, 1, none⟩ = some (.slice (some ⟨gi, 0, none⟩) ni ni) := World.cell?_setCell_same _ _ _ (by rw [setCell_ne _ _ _ _ _ (by omega)]; exact d1)
  have k2 : (((W4.setCell ⟨w.heap.size + 1, 0, none⟩ (.string xn)).setCell ⟨w.heap.size + 1, 1, none⟩ (.slice (some ⟨gi, 0, none⟩) ni ni)).setCell ⟨w.heap.size + 1, 2, none⟩ (.slice (some ⟨go, 0, none⟩) no no)).cell? ⟨w.heap.size + 1, 2, none⟩ = some (.slice (some ⟨go, 0, none⟩) no no) := World.cell?_setCell_same _ _ _ (by rw [setCell_ne _ _ _ _ _ (by omega), setCell_ne _ _ _ _ _ (by omega)]; exact d2)
  have k3 : ((((W4.setCell ⟨w.heap.size + 1, 0, none⟩ (.string xn)).setCell ⟨w.heap.size + 1, 1, none⟩ (.slice (some ⟨gi, 0, none⟩) ni ni)).setCell ⟨w.heap.size + 1, 2, none⟩ (.slice (some ⟨go, 0, none⟩) no no)).setCell ⟨w.heap.size + 1, 3, none⟩ (.slice (some ⟨gv, 0, none⟩) nv nv)).cell? ⟨w.heap.size + 1, 3, none⟩ = some (.slice (some ⟨gv, 0, none⟩) nv nv) := World.cell?_setCell_same _ _ _ (by rw [setCell_ne _ _ _ _ _ (by omega), setCell_ne _ _ _ _ _ (by omega), setCell_ne _ _ _ _ _ (by omega)]; exact d3)
  have k4 : (((((W4.setCell ⟨w.heap.size + 1, 0, none⟩ (.string xn)).setCell ⟨w.heap.size + 1, 1, none⟩ (.slice (some ⟨gi, 0, none⟩) ni ni)).setCell ⟨w.heap.size + 1, 2, none⟩ (.slice (some ⟨go, 0, none⟩) no no)).setCell ⟨w.heap.size + 1, 3, none⟩ (.slice (some ⟨gv, 0, none⟩) nv nv)).setCell ⟨w.heap.size + 1, 4, none⟩ (.slice (some ⟨gs, 0, none⟩) nt nt)).cell? ⟨w.heap.size + 1, 4, none⟩ = some (.slice (some ⟨gs, 0, none⟩) nt nt) := World.cell?_setCell_same _ _ _ (by rw [setCell_ne _ _ _ _ _ (by omega), setCell_ne _ _ _ _ _ (by omega), setCell_ne _ _ _ _ _ (by omega), setCell_ne _ _ _ _ _ (by omega)]; exact d4)
  have hW4 := HW4.out
  rw [hW4] at y0 d0 g0 k0 y1 d1 g1 k1 y2 d2 g2 k2 y3 d3 g3 k3 y4 d4 g4 k4
  clear hW4
  go_wp2_with fail
  refine bodyPost_ret (by simp [results, Tryz.results7, go_sem, k0, k1, k2, k3, k4]; try rfl) rfl ?_
  rw [← HW4.out]
  have mvR : Mv (w.heap.size + 1) W4 (((((W4.setCell ⟨w.heap.size + 1, 0, none⟩ (.string xn)).setCell ⟨w.heap.size + 1, 1, none⟩ (.slice (some ⟨gi, 0, none⟩) ni ni)).setCell ⟨w.heap.size + 1, 2, none⟩ (.slice (some ⟨go, 0, none⟩) no no)).setCell ⟨w.heap.size + 1, 3, none⟩ (.slice (some ⟨gv, 0, none⟩) nv nv)).setCell ⟨w.heap.size + 1, 4, none⟩ (.slice (some ⟨gs, 0, none⟩) nt nt)) := ((((((Mv.refl _ _).cell _ _).cell _ _).cell _ _).cell _ _).cell _ _)
  have fin : CpB (w.heap.size + 1 + 1 + 1) W4 ni no nv nt gi go gv gs ⟨xn, xi, xo, xv, xs⟩ := ⟨K0_4.out, K1_4.out, K2_4.out, K3_4.out⟩
  have fin2 := fin.mv mvR (by omega)
  refine ⟨gi, go, gv, gs, rfl, ⟨fin2.ins.low (by omega), fin2.outs.low (by omega), fin2.vars.low (by omega), fin2.states.low (by omega)⟩, (((((B4.out.setCell (by simp) _).setCell (by simp) _).setCell (by simp) _).setCell (by simp) _).setCell (by simp) _), ?_⟩
  have zF := mvR.size
  have z00 := zz0
  refine ⟨W0.heap.size, w1.heap.size, w2.heap.size, w3.heap.size, w4.heap.size, ⟨by omega, by omega, by omega, by omega, by omega, by omega⟩, Q0_4.out.mv mvR (by omega), ?_, ?_, ?_⟩
  · have := Q1_4.out.mv mvR (by omega); rwa [zW1] at this
  · have := Q2_4.out.mv mvR (by omega); rw [zW2] at this; exact l3 ▸ this
  · have := Q3_4.out.mv mvR (by omega); rwa [zW3] at this
theorem toBlock_any (B : Nat) (w : World) (v : BkV) (x : Bk) (hB : B ≤ w.heap.size) (hf : FewBk x) (hx : IsBk B w v x) :
    Calls Tryz.prog 7 #[v.val x.name] w fun e w' => ∃ gi go gv gs, e = .returned ((cpV v.ni v.no v.nv v.nt gi go gv gs).val x.name) ∧ CpB w.heap.size w' v.ni v.no v.nv v.nt gi go gv gs x ∧ Below w.heap.size w w' :=
  (toBlock_mk B w v x hB hf hx).mono fun _ _ ⟨gi, go, gv, gs, h1, h2, h3, _⟩ => ⟨gi, go, gv, gs, h1, h2, h3⟩
end Go.Proofs.YtchemhjcknkbgaaGreatDoor
