/- The law's copies of a block. -/
import Derived.Test.YtchemhjcknkbgaaGreatDoorBunY27
import Derived.Test.YtchemhjcknkbgaaGreatDoorBunY18
import Derived.Test.YtchemhjcknkbgaaGreatDoorBunY4
namespace Go.Proofs.YtchemhjcknkbgaaGreatDoor
open Go Go.RowKit Go.PlainAid
set_option linter.unusedSimpArgs false
set_option linter.unusedVariables false

def FewPt (p : Pt) : Prop := p.vals.length ≤ 1048576
def FewVr (v : Vr) : Prop := True
def FewMo (m : Mo) : Prop := True
def FewAc (a : Ac) : Prop := True
def FewSt (s : St) : Prop := s.moves.length ≤ 1048576 ∧ s.acts.length ≤ 1048576
/-- copies: all of their lists lie in blocks from L on, and may be written -/
def CPt (L : Nat) (w : World) (cs : List Value) (p : Pt) : Prop := ∃ g n, cs = [.string p.name, .slice (some ⟨g, 0, none⟩) n n] ∧ L ≤ g ∧ n ≤ 1048576 ∧ Open g n w ∧ IsStrs w.heap.size w (some ⟨g, 0, none⟩) n p.vals
def CVr (L : Nat) (w : World) (cs : List Value) (v : Vr) : Prop := cs = [.string v.name, .int .i64 v.num]
def CMo (L : Nat) (w : World) (cs : List Value) (m : Mo) : Prop := cs = [.string m.event, .string m.cond, .string m.to]
def CAc (L : Nat) (w : World) (cs : List Value) (a : Ac) : Prop := cs = [.int .i64 a.kind, .string a.name, .string a.sum]
theorem CVr.mv {L p : Nat} {w w' : World} {cs : List Value} {x : Vr} (h : CVr L w cs x) (hm : Mv p w w') (hp : p < L) : CVr L w' cs x := h
theorem CVr.below {L : Nat} {w w' : World} {cs : List Value} {x : Vr} (h : CVr L w cs x) (hb : Below w.heap.size w w') : CVr L w' cs x := h
theorem CMo.mv {L p : Nat} {w w' : World} {cs : List Value} {x : Mo} (h : CMo L w cs x) (hm : Mv p w w') (hp : p < L) : CMo L w' cs x := h
theorem CMo.below {L : Nat} {w w' : World} {cs : List Value} {x : Mo} (h : CMo L w cs x) (hb : Below w.heap.size w w') : CMo L w' cs x := h
theorem CAc.mv {L p : Nat} {w w' : World} {cs : List Value} {x : Ac} (h : CAc L w cs x) (hm : Mv p w w') (hp : p < L) : CAc L w' cs x := h
theorem CAc.below {L : Nat} {w w' : World} {cs : List Value} {x : Ac} (h : CAc L w cs x) (hb : Below w.heap.size w w') : CAc L w' cs x := h
theorem strs_mv {g n p : Nat} {w w' : World} {l : List ByteArray} (h : IsStrs w.heap.size w (some ⟨g, 0, none⟩) n l) (hm : Mv p w w') (hne : g ≠ p) : IsStrs w'.heap.size w' (some ⟨g, 0, none⟩) n l := by
  obtain ⟨h1, h2⟩ := h
  refine ⟨h1, ?_⟩
  rcases h2 with h2 | ⟨q, o, e, hlt, hc⟩
  · exact .inl h2
  · cases e
    exact .inr ⟨g, 0, rfl, Nat.lt_of_lt_of_le hlt hm.size, fun i hi => (World.cell?_of_block (hm.block g hlt hne)).trans (hc i hi)⟩
theorem CPt.mv {L p : Nat} {w w' : World} {cs : List Value} {x : Pt} (h : CPt L w cs x) (hm : Mv p w w') (hp : p < L) : CPt L w' cs x := by
  obtain ⟨g, n, h1, h2, h3, h4, h5⟩ := h
  exact ⟨g, n, h1, h2, h3, h4.mv hm (by omega), strs_mv h5 hm (by omega)⟩
theorem CPt.below {L : Nat} {w w' : World} {cs : List Value} {x : Pt} (h : CPt L w cs x) (hb : Below w.heap.size w w') : CPt L w' cs x := by
  obtain ⟨g, n, h1, h2, h3, h4, h5⟩ := h
  exact ⟨g, n, h1, h2, h3, h4.below hb, (h5.below hb).mono hb.size⟩
theorem CPt.low {L L' : Nat} {w : World} {cs : List Value} {x : Pt} (h : CPt L w cs x) (hL : L' ≤ L) : CPt L' w cs x := by
  obtain ⟨g, n, h1, h2, h3⟩ := h; exact ⟨g, n, h1, Nat.le_trans hL h2, h3⟩
theorem CPt.q {L : Nat} {w : World} (cs : List Value) (x : Pt) (h : CPt L w cs x) : QPt w.heap.size w cs x := by
  obtain ⟨g, n, h1, h2, h3, h4, h5⟩ := h
  exact ⟨_, n, n, h1, Nat.le_refl _, by unfold maxLen; omega, h5⟩
theorem open_strs2 {b n : Nat} {w : World} {l : List ByteArray} (h : IsStrs w.heap.size w (some ⟨b, 0, none⟩) n l) (hb : b < w.heap.size) (hf : ∀ j, j < n → w.frozen? ⟨b, j, none⟩ = false) : Open b n w := by
  refine ⟨hb, fun j hj => ⟨?_, hf j hj⟩⟩
  rcases h.2 with h0 | ⟨q, o, e, _, hc⟩
  · omega
  · cases e
    exact ⟨_, by have := hc j (by rw [h.1]; exact hj); rw [Nat.zero_add] at this; exact this⟩

set_option maxHeartbeats 800000 in
set_option maxRecDepth 100000 in
theorem toPort_any (B : Nat) (w : World) (x : Pt) (hB : B ≤ w.heap.size) (hf : FewPt x) (a : Option Addr) (n c : Nat) (hv : IsStrs B w a n x.vals) :
    Calls Tryz.prog 70 #[.agg #[.string x.name, .slice a n c]] w fun e w' => ∃ g, e = .returned (.agg #[.string x.name, .slice (some ⟨g, 0, none⟩) n n]) ∧ CPt w.heap.size w' [.string x.name, .slice (some ⟨g, 0, none⟩) n n] x ∧ Below w.heap.size w w' := by
  obtain ⟨xn, xv⟩ := x
  unfold FewPt at hf
  simp only at hf hv ⊢
  have hvl := hv.1
  have HTS : Hid (∀ W, Below w.heap.size w W → Calls Tryz.prog 118 #[.slice a n c] W fun e w' => ∃ b, e = .returned (.slice (some ⟨b, 0, none⟩) n n) ∧ W.heap.size ≤ b ∧ IsStrs w'.heap.size w' (some ⟨b, 0, none⟩) n xv ∧ Below W.heap.size W w' ∧ b < w'.heap.size ∧ ∀ j, j < n → w'.frozen? ⟨b, j, none⟩ = false) := fun W hb => toStringS_open B a n c xv W (by omega) (by have := hb.size; omega) (hv.below (hb.mono hB))
  clear hv
  go_enter Tryz.func70, Tryz.ntmps70
  go_wp2_with fail
  refine (HTS.out _ (by go_grown)).mono ?_
  rintro e w1 ⟨g, rfl, hg, hs, hb1, hlt, hfz⟩
  have c0 := hb1.cell (p := ⟨w.heap.size + 1 + 1, 0, none⟩) (by simp)
  have c1 := hb1.cell (p := ⟨w.heap.size + 1 + 1, 1, none⟩) (by simp)
  have f1 := hb1.frozen (p := ⟨w.heap.size + 1 + 1, 1, none⟩) (by simp)
  have d0 := hb1.cell (p := ⟨w.heap.size + 1, 0, none⟩) (by simp)
  have d1 := hb1.cell (p := ⟨w.heap.size + 1, 1, none⟩) (by simp)
  have g0 := hb1.frozen (p := ⟨w.heap.size + 1, 0, none⟩) (by simp)
  have g1 := hb1.frozen (p := ⟨w.heap.size + 1, 1, none⟩) (by simp)
  have hz1 := hb1.size
  simp [go_sem] at c0 c1 f1 d0 d1 g0 g1 hz1 hg
  have HB1 : Hid (Below w.heap.size w w1) := Below.trans (by go_grown) (hb1.mono (by simp; omega))
  have HS := hidOf hs
  have HOP := hidOf (open_strs2 hs hlt hfz)
  have hw1 : w.heap.size + 1 + 1 < w1.heap.size := by omega
  have e0 : (w1.setCell ⟨w.heap.size + 1 + 1, 1, none⟩ (.slice (some ⟨g, 0, none⟩) n n)).cell? ⟨w.heap.size + 1, 0, none⟩ = some (.string ⟨#[]⟩) := (World.cell?_of_block (((Mv.refl (w.heap.size + 1 + 1) w1).cell 1 (.slice (some ⟨g, 0, none⟩) n n)).block (w.heap.size + 1) (by omega) (by omega))).trans d0
  have k0 : ((w1.setCell ⟨w.heap.size + 1 + 1, 1, none⟩ (.slice (some ⟨g, 0, none⟩) n n)).setCell ⟨w.heap.size + 1, 0, none⟩ (.string xn)).cell? ⟨w.heap.size + 1, 0, none⟩ = some (.string xn) := World.cell?_setCell_same _ _ _ e0
  have e1 : ((w1.setCell ⟨w.heap.size + 1 + 1, 1, none⟩ (.slice (some ⟨g, 0, none⟩) n n)).setCell ⟨w.heap.size + 1, 0, none⟩ (.string xn)).cell? ⟨w.heap.size + 1, 1, none⟩ = some (.slice none 0 0) := by
    rw [setCell_ne _ _ _ _ _ (by omega)]
    exact (World.cell?_of_block (((Mv.refl (w.heap.size + 1 + 1) w1).cell 1 (.slice (some ⟨g, 0, none⟩) n n)).block (w.heap.size + 1) (by omega) (by omega))).trans d1
  have k1 : (((w1.setCell ⟨w.heap.size + 1 + 1, 1, none⟩ (.slice (some ⟨g, 0, none⟩) n n)).setCell ⟨w.heap.size + 1, 0, none⟩ (.string xn)).setCell ⟨w.heap.size + 1, 1, none⟩ (.slice (some ⟨g, 0, none⟩) n n)).cell? ⟨w.heap.size + 1, 1, none⟩ = some (.slice (some ⟨g, 0, none⟩) n n) := World.cell?_setCell_same _ _ _ e1
  clear hb1 hs hfz HTS
  go_wp2_with fail
  refine bodyPost_ret (by simp [results, Tryz.results70, go_sem, k0, k1]; try rfl) rfl ?_
  have q1 := HOP.out.mv ((Mv.refl (w.heap.size + 1 + 1) w1).cell 1 (.slice (some ⟨g, 0, none⟩) n n)) (by omega)
  have q2 := strs_mv HS.out ((Mv.refl (w.heap.size + 1 + 1) w1).cell 1 (.slice (some ⟨g, 0, none⟩) n n)) (by omega)
  exact ⟨g, rfl, ⟨g, n, rfl, by omega, by omega, q1.mv (((Mv.refl (w.heap.size + 1) _).cell 0 _).cell 1 _) (by omega), strs_mv q2 (((Mv.refl (w.heap.size + 1) _).cell 0 _).cell 1 _) (by omega)⟩, ((HB1.out.setCell (by simp; omega) _).setCell (by simp) _).setCell (by simp) _⟩

theorem infoPort : (Tryz.prog.info? 92).map (fun i => (i.zero, i.size, i.bytes)) = some (some (.agg #[.string ⟨#[]⟩, .slice none 0 0]), 2, 40) := by kernel_rfl
set_option maxHeartbeats 1600000 in
set_option maxRecDepth 100000 in
theorem toPortS_any (B : Nat) (a : Option Addr) (n cap : Nat) (l : List Pt) (w : World) (hn : n ≤ 1048576) (hB : B ≤ w.heap.size) (hsm : ∀ x ∈ l, FewPt x) (hz : IsArr 2 QPt B w a n l) :
    Calls Tryz.prog 35 #[.slice a n cap] w fun e w' => CpL 2 CPt n l w e w' := by
  have hlen := hz.1
  have HZ := hidOf hz
  have HSM := hidOf hsm
  clear hz hsm
  obtain ⟨i0, hi, hz0, hz1, hz2⟩ := info_parts infoPort
  have hmk : ∀ u : World, (Instr.makeSlice 30 (.int .i64 (n : Int)) (.int .i64 (n : Int))).run Tryz.prog u =
      .ok (.slice (some ⟨u.heap.size, 0, none⟩) n n) (u.alloc (.cells (madeCells #[.string ⟨#[]⟩, .slice none 0 0] (n * 2)) 92)) := fun u => by
    have h := run_make (P := Tryz.prog) u 30 92 i0 (.agg #[.string ⟨#[]⟩, .slice none 0 0]) Tryz.underlying30 hi hz0 .i64 .i64 (n : Int) (n : Int) (by omega) (Int.le_refl _) (by rw [hz2]; omega) (by omega)
    have e : ((n : Int)).toNat = n := by omega
    rw [e] at h
    simpa [hz1, Value.cells] using h
  go_enter Tryz.func35, Tryz.ntmps35
  go_wp2
  go_loopw [4] (fun i wr => ∃ k : Nat, k ≤ n ∧ i = .int .i64 k ∧ Hid (Open w.heap.size (n * 2) wr) ∧ Below w.heap.size w wr ∧ Hid (∀ i, (h : i < l.length) → i < k → ∃ cs, CPt (w.heap.size + 1) wr cs l[i] ∧ ∀ j u, cs[j]? = some u → j < 2 ∧ wr.cell? ⟨w.heap.size, i * 2 + j, none⟩ = some u)) (fun i _ => n - (intOf i).toNat)
  case atStart => exact ⟨0, Nat.zero_le _, rfl, open_made w _ _ _, (Below.refl _ _).alloc (Nat.le_refl _) _, fun i _ hi => absurd hi (Nat.not_lt_zero _)⟩
  case round =>
    obtain ⟨k, hk, rfl, HO, hbel, HK⟩ := hrel
    by_cases hlt : k < n
    · obtain ⟨b, off, cs, rfl, hb, hq, hcell⟩ := IsArr.at (HZ.out.below (QPt.lift (hbel.mono hB)) (hbel.mono hB)) hlt (show k < l.length by omega)
      have hsw := HO.out.1
      have hbr : b < wr.heap.size := by have := hbel.size; omega
      have hbB : B ≤ wr.heap.size := by have := hbel.size; omega
      have hsmx := HSM.out (l[k]'(by omega)) (List.getElem_mem _)
      obtain ⟨x, hx⟩ : ∃ x, l[k]'(by omega) = x := ⟨_, rfl⟩
      have HX := hidOf hx
      rw [hx] at hq hsmx
      obtain ⟨pa, pn, pc, rfl, hp1, hp2, hp3⟩ := hq
      have HP3 := hidOf hp3
      have c0 : wr.cell? ⟨b, off + k * 2, none⟩ = some (.string x.name) := hcell 0 _ rfl
      have c1 : wr.cell? ⟨b, off + k * 2 + 1, none⟩ = some (.slice pa pn pc) := hcell 1 _ rfl
      have HE := hidOf (toPort_any B wr x hbB hsmx pa pn pc hp3)
      clear hcell hx hmk
      go_wp2_with (go_at_call 70; refine HE.out.mono ?_; rintro e w1 ⟨g, rfl, hC, hb1⟩; have HO1 : Hid (Open w.heap.size (n * 2) w1) := HO.out.below hb1; have HKW : Hid (Below w.heap.size w w1) := hbel.trans (hb1.mono hbel.size); have hsw1 := HO1.out.1; obtain ⟨⟨v0, o0⟩, f0⟩ := HO1.out.2 (k * 2) (by omega); obtain ⟨⟨v1, o1⟩, f1⟩ := HO1.out.2 (k * 2 + 1) (by omega))
      have s0 : w1.cell? ⟨w.heap.size, k * 2, none⟩ = some v0 := by exact o0
      have s1 : (w1.setCell ⟨w.heap.size, k * 2, none⟩ (.string x.name)).cell? ⟨w.heap.size, k * 2 + 1, none⟩ = some v1 := by rw [setCell_ne _ _ _ _ _ (by omega)]; exact o1
      go_roundw
      case rel =>
        refine ⟨k + 1, by omega, by go_num, ((HO1.out.set (k * 2) _ (by omega)).set (k * 2 + 1) _ (by omega)), ((HKW.out.setCell (by simp) _).setCell (by simp) _), ?_⟩
        intro i hil hi
        have hmv : Mv w.heap.size w1 ((w1.setCell ⟨w.heap.size, k * 2, none⟩ (.string x.name)).setCell ⟨w.heap.size, k * 2 + 1, none⟩ (.slice (some ⟨g, 0, none⟩) pn pn)) := (((Mv.refl _ _).cell _ _).cell _ _)
        by_cases e : i = k
        · subst e
          rw [HX.out]
          refine ⟨_, CPt.mv (CPt.low hC (by omega)) hmv (by omega), fun j u hu => ?_⟩
          have hj : j < 2 := (List.getElem?_eq_some_iff.1 hu).1
          have hjc : j = 0 ∨ j = 1 := by omega
          rcases hjc with rfl | rfl
          · have hu' : some (.string x.name) = some u := hu
            cases hu'
            refine ⟨by decide, ?_⟩
            show _ = _
            rw [setCell_ne _ _ _ _ _ (by omega)]
            exact World.cell?_setCell_same _ _ _ s0
          · have hu' : some (.slice (some ⟨g, 0, none⟩) pn pn) = some u := hu
            cases hu'
            refine ⟨by decide, ?_⟩
            show _ = _
            exact World.cell?_setCell_same _ _ _ s1
        · obtain ⟨cs, q1, q2⟩ := HK.out i hil (by omega)
          refine ⟨cs, CPt.mv (CPt.below q1 hb1) hmv (by omega), fun j u hu => ?_⟩
          obtain ⟨p1, p2⟩ := q2 j u hu
          refine ⟨p1, ?_⟩
          have p3 := (hb1.cell (p := ⟨w.heap.size, i * 2 + j, none⟩) hsw).trans p2
          rw [setCell_ne _ _ _ _ _ (by omega), setCell_ne _ _ _ _ _ (by omega)]
          exact p3
      case measure => simp [intOf]; omega
    · have : k = n := by omega
      subst this
      go_wp2
      go_ret
      exact ⟨w.heap.size, rfl, Nat.le_refl _, HO.out, hbel, hlen, fun i hil => HK.out i hil (by omega)⟩

theorem toVar_any (B : Nat) (w : World) (x : Vr) (hB : B ≤ w.heap.size) (hf : FewVr x) : Calls Tryz.prog 71 #[.agg #[.string x.name, .int .i64 x.num]] w fun e w' => e = .returned (.agg #[.string x.name, .int .i64 x.num]) ∧ Below w.heap.size w w' := by
  go_enter Tryz.func71, Tryz.ntmps71
  go_wp2
  go_returns
  refine ⟨rfl, ?_⟩
  go_grown

theorem infoVar : (Tryz.prog.info? 124).map (fun i => (i.zero, i.size, i.bytes)) = some (some (.agg #[.string ⟨#[]⟩, .int .i64 0]), 2, 24) := by kernel_rfl
set_option maxHeartbeats 1600000 in
set_option maxRecDepth 100000 in
theorem toVarS_any (B : Nat) (a : Option Addr) (n cap : Nat) (l : List Vr) (w : World) (hn : n ≤ 1048576) (hB : B ≤ w.heap.size) (hsm : ∀ x ∈ l, FewVr x) (hz : IsArr 2 QVr B w a n l) :
    Calls Tryz.prog 36 #[.slice a n cap] w fun e w' => CpL 2 CVr n l w e w' := by
  have hlen := hz.1
  have HZ := hidOf hz
  have HSM := hidOf hsm
  clear hz hsm
  obtain ⟨i0, hi, hz0, hz1, hz2⟩ := info_parts infoVar
  have hmk : ∀ u : World, (Instr.makeSlice 31 (.int .i64 (n : Int)) (.int .i64 (n : Int))).run Tryz.prog u =
      .ok (.slice (some ⟨u.heap.size, 0, none⟩) n n) (u.alloc (.cells (madeCells #[.string ⟨#[]⟩, .int .i64 0] (n * 2)) 124)) := fun u => by
    have h := run_make (P := Tryz.prog) u 31 124 i0 (.agg #[.string ⟨#[]⟩, .int .i64 0]) Tryz.underlying31 hi hz0 .i64 .i64 (n : Int) (n : Int) (by omega) (Int.le_refl _) (by rw [hz2]; omega) (by omega)
    have e : ((n : Int)).toNat = n := by omega
    rw [e] at h
    simpa [hz1, Value.cells] using h
  go_enter Tryz.func36, Tryz.ntmps36
  go_wp2
  go_loopw [4] (fun i wr => ∃ k : Nat, k ≤ n ∧ i = .int .i64 k ∧ Hid (Open w.heap.size (n * 2) wr) ∧ Below w.heap.size w wr ∧ Hid (∀ i, (h : i < l.length) → i < k → ∃ cs, CVr (w.heap.size + 1) wr cs l[i] ∧ ∀ j u, cs[j]? = some u → j < 2 ∧ wr.cell? ⟨w.heap.size, i * 2 + j, none⟩ = some u)) (fun i _ => n - (intOf i).toNat)
  case atStart => exact ⟨0, Nat.zero_le _, rfl, open_made w _ _ _, (Below.refl _ _).alloc (Nat.le_refl _) _, fun i _ hi => absurd hi (Nat.not_lt_zero _)⟩
  case round =>
    obtain ⟨k, hk, rfl, HO, hbel, HK⟩ := hrel
    by_cases hlt : k < n
    · obtain ⟨b, off, cs, rfl, hb, hq, hcell⟩ := IsArr.at (HZ.out.below (QVr.lift (hbel.mono hB)) (hbel.mono hB)) hlt (show k < l.length by omega)
      have hsw := HO.out.1
      have hbr : b < wr.heap.size := by have := hbel.size; omega
      have hbB : B ≤ wr.heap.size := by have := hbel.size; omega
      have hsmx := HSM.out (l[k]'(by omega)) (List.getElem_mem _)
      obtain ⟨x, hx⟩ : ∃ x, l[k]'(by omega) = x := ⟨_, rfl⟩
      have HX := hidOf hx
      rw [hx] at hq hsmx
      unfold QVr at hq
      subst hq
      have c0 : wr.cell? ⟨b, off + k * 2, none⟩ = some (.string x.name) := hcell 0 _ rfl
      have c1 : wr.cell? ⟨b, off + k * 2 + 1, none⟩ = some (.int .i64 x.num) := hcell 1 _ rfl
      have HE := hidOf (toVar_any B wr x hbB hsmx)
      clear hcell hx hmk
      go_wp2_with (go_at_call 71; refine HE.out.mono ?_; rintro e w1 ⟨rfl, hb1⟩; have HO1 : Hid (Open w.heap.size (n * 2) w1) := HO.out.below hb1; have HKW : Hid (Below w.heap.size w w1) := hbel.trans (hb1.mono hbel.size); have hsw1 := HO1.out.1; obtain ⟨⟨v0, o0⟩, f0⟩ := HO1.out.2 (k * 2) (by omega); obtain ⟨⟨v1, o1⟩, f1⟩ := HO1.out.2 (k * 2 + 1) (by omega))
      have s0 : w1.cell? ⟨w.heap.size, k * 2, none⟩ = some v0 := by exact o0
      have s1 : (w1.setCell ⟨w.heap.size, k * 2, none⟩ (.string x.name)).cell? ⟨w.heap.size, k * 2 + 1, none⟩ = some v1 := by rw [setCell_ne _ _ _ _ _ (by omega)]; exact o1
      go_roundw
      case rel =>
        refine ⟨k + 1, by omega, by go_num, ((HO1.out.set (k * 2) _ (by omega)).set (k * 2 + 1) _ (by omega)), ((HKW.out.setCell (by simp) _).setCell (by simp) _), ?_⟩
        intro i hil hi
        have hmv : Mv w.heap.size w1 ((w1.setCell ⟨w.heap.size, k * 2, none⟩ (.string x.name)).setCell ⟨w.heap.size, k * 2 + 1, none⟩ (.int .i64 x.num)) := (((Mv.refl _ _).cell _ _).cell _ _)
        by_cases e : i = k
        · subst e
          rw [HX.out]
          refine ⟨_, CVr.mv (show CVr (w.heap.size + 1) w1 [.string x.name, .int .i64 x.num] x from rfl) hmv (by omega), fun j u hu => ?_⟩
          have hj : j < 2 := (List.getElem?_eq_some_iff.1 hu).1
          have hjc : j = 0 ∨ j = 1 := by omega
          rcases hjc with rfl | rfl
          · have hu' : some (.string x.name) = some u := hu
            cases hu'
            refine ⟨by decide, ?_⟩
            show _ = _
            rw [setCell_ne _ _ _ _ _ (by omega)]
            exact World.cell?_setCell_same _ _ _ s0
          · have hu' : some (.int .i64 x.num) = some u := hu
            cases hu'
            refine ⟨by decide, ?_⟩
            show _ = _
            exact World.cell?_setCell_same _ _ _ s1
        · obtain ⟨cs, q1, q2⟩ := HK.out i hil (by omega)
          refine ⟨cs, CVr.mv (CVr.below q1 hb1) hmv (by omega), fun j u hu => ?_⟩
          obtain ⟨p1, p2⟩ := q2 j u hu
          refine ⟨p1, ?_⟩
          have p3 := (hb1.cell (p := ⟨w.heap.size, i * 2 + j, none⟩) hsw).trans p2
          rw [setCell_ne _ _ _ _ _ (by omega), setCell_ne _ _ _ _ _ (by omega)]
          exact p3
      case measure => simp [intOf]; omega
    · have : k = n := by omega
      subst this
      go_wp2
      go_ret
      exact ⟨w.heap.size, rfl, Nat.le_refl _, HO.out, hbel, hlen, fun i hil => HK.out i hil (by omega)⟩

theorem toMove_any (B : Nat) (w : World) (x : Mo) (hB : B ≤ w.heap.size) (hf : FewMo x) : Calls Tryz.prog 161 #[.agg #[.string x.event, .string x.cond, .string x.to]] w fun e w' => e = .returned (.agg #[.string x.event, .string x.cond, .string x.to]) ∧ Below w.heap.size w w' := by
  go_enter Tryz.func161, Tryz.ntmps161
  go_wp2
  go_returns
  refine ⟨rfl, ?_⟩
  go_grown

theorem infoMove : (Tryz.prog.info? 69).map (fun i => (i.zero, i.size, i.bytes)) = some (some (.agg #[.string ⟨#[]⟩, .string ⟨#[]⟩, .string ⟨#[]⟩]), 3, 48) := by kernel_rfl
set_option maxHeartbeats 1600000 in
set_option maxRecDepth 100000 in
theorem toMoveS_any (B : Nat) (a : Option Addr) (n cap : Nat) (l : List Mo) (w : World) (hn : n ≤ 1048576) (hB : B ≤ w.heap.size) (hsm : ∀ x ∈ l, FewMo x) (hz : IsArr 3 QMo B w a n l) :
    Calls Tryz.prog 119 #[.slice a n cap] w fun e w' => CpL 3 CMo n l w e w' := by
  have hlen := hz.1
  have HZ := hidOf hz
  have HSM := hidOf hsm
  clear hz hsm
  obtain ⟨i0, hi, hz0, hz1, hz2⟩ := info_parts infoMove
  have hmk : ∀ u : World, (Instr.makeSlice 62 (.int .i64 (n : Int)) (.int .i64 (n : Int))).run Tryz.prog u =
      .ok (.slice (some ⟨u.heap.size, 0, none⟩) n n) (u.alloc (.cells (madeCells #[.string ⟨#[]⟩, .string ⟨#[]⟩, .string ⟨#[]⟩] (n * 3)) 69)) := fun u => by
    have h := run_make (P := Tryz.prog) u 62 69 i0 (.agg #[.string ⟨#[]⟩, .string ⟨#[]⟩, .string ⟨#[]⟩]) Tryz.underlying62 hi hz0 .i64 .i64 (n : Int) (n : Int) (by omega) (Int.le_refl _) (by rw [hz2]; omega) (by omega)
    have e : ((n : Int)).toNat = n := by omega
    rw [e] at h
    simpa [hz1, Value.cells] using h
  go_enter Tryz.func119, Tryz.ntmps119
  go_wp2
  go_loopw [4] (fun i wr => ∃ k : Nat, k ≤ n ∧ i = .int .i64 k ∧ Hid (Open w.heap.size (n * 3) wr) ∧ Below w.heap.size w wr ∧ Hid (∀ i, (h : i < l.length) → i < k → ∃ cs, CMo (w.heap.size + 1) wr cs l[i] ∧ ∀ j u, cs[j]? = some u → j < 3 ∧ wr.cell? ⟨w.heap.size, i * 3 + j, none⟩ = some u)) (fun i _ => n - (intOf i).toNat)
  case atStart => exact ⟨0, Nat.zero_le _, rfl, open_made w _ _ _, (Below.refl _ _).alloc (Nat.le_refl _) _, fun i _ hi => absurd hi (Nat.not_lt_zero _)⟩
  case round =>
    obtain ⟨k, hk, rfl, HO, hbel, HK⟩ := hrel
    by_cases hlt : k < n
    · obtain ⟨b, off, cs, rfl, hb, hq, hcell⟩ := IsArr.at (HZ.out.below (QMo.lift (hbel.mono hB)) (hbel.mono hB)) hlt (show k < l.length by omega)
      have hsw := HO.out.1
      have hbr : b < wr.heap.size := by have := hbel.size; omega
      have hbB : B ≤ wr.heap.size := by have := hbel.size; omega
      have hsmx := HSM.out (l[k]'(by omega)) (List.getElem_mem _)
      obtain ⟨x, hx⟩ : ∃ x, l[k]'(by omega) = x := ⟨_, rfl⟩
      have HX := hidOf hx
      rw [hx] at hq hsmx
      unfold QMo at hq
      subst hq
      have c0 : wr.cell? ⟨b, off + k * 3, none⟩ = some (.string x.event) := hcell 0 _ rfl
      have c1 : wr.cell? ⟨b, off + k * 3 + 1, none⟩ = some (.string x.cond) := hcell 1 _ rfl
      have c2 : wr.cell? ⟨b, off + k * 3 + 1 + 1, none⟩ = some (.string x.to) := hcell 2 _ rfl
      have HE := hidOf (toMove_any B wr x hbB hsmx)
      clear hcell hx hmk
      go_wp2_with (go_at_call 161; refine HE.out.mono ?_; rintro e w1 ⟨rfl, hb1⟩; have HO1 : Hid (Open w.heap.size (n * 3) w1) := HO.out.below hb1; have HKW : Hid (Below w.heap.size w w1) := hbel.trans (hb1.mono hbel.size); have hsw1 := HO1.out.1; obtain ⟨⟨v0, o0⟩, f0⟩ := HO1.out.2 (k * 3) (by omega); obtain ⟨⟨v1, o1⟩, f1⟩ := HO1.out.2 (k * 3 + 1) (by omega); obtain ⟨⟨v2, o2⟩, f2⟩ := HO1.out.2 (k * 3 + 1 + 1) (by omega))
      have s0 : w1.cell? ⟨w.heap.size, k * 3, none⟩ = some v0 := by exact o0
      have s1 : (w1.setCell ⟨w.heap.size, k * 3, none⟩ (.string x.event)).cell? ⟨w.heap.size, k * 3 + 1, none⟩ = some v1 := by rw [setCell_ne _ _ _ _ _ (by omega)]; exact o1
      have s2 : ((w1.setCell ⟨w.heap.size, k * 3, none⟩ (.string x.event)).setCell ⟨w.heap.size, k * 3 + 1, none⟩ (.string x.cond)).cell? ⟨w.heap.size, k * 3 + 1 + 1, none⟩ = some v2 := by rw [setCell_ne _ _ _ _ _ (by omega), setCell_ne _ _ _ _ _ (by omega)]; exact o2
      go_roundw
      case rel =>
        refine ⟨k + 1, by omega, by go_num, (((HO1.out.set (k * 3) _ (by omega)).set (k * 3 + 1) _ (by omega)).set (k * 3 + 1 + 1) _ (by omega)), (((HKW.out.setCell (by simp) _).setCell (by simp) _).setCell (by simp) _), ?_⟩
        intro i hil hi
        have hmv : Mv w.heap.size w1 (((w1.setCell ⟨w.heap.size, k * 3, none⟩ (.string x.event)).setCell ⟨w.heap.size, k * 3 + 1, none⟩ (.string x.cond)).setCell ⟨w.heap.size, k * 3 + 1 + 1, none⟩ (.string x.to)) := ((((Mv.refl _ _).cell _ _).cell _ _).cell _ _)
        by_cases e : i = k
        · subst e
          rw [HX.out]
          refine ⟨_, CMo.mv (show CMo (w.heap.size + 1) w1 [.string x.event, .string x.cond, .string x.to] x from rfl) hmv (by omega), fun j u hu => ?_⟩
          have hj : j < 3 := (List.getElem?_eq_some_iff.1 hu).1
          have hjc : j = 0 ∨ j = 1 ∨ j = 2 := by omega
          rcases hjc with rfl | rfl | rfl
          · have hu' : some (.string x.event) = some u := hu
            cases hu'
            refine ⟨by decide, ?_⟩
            show _ = _
            rw [setCell_ne _ _ _ _ _ (by omega), setCell_ne _ _ _ _ _ (by omega)]
            exact World.cell?_setCell_same _ _ _ s0
          · have hu' : some (.string x.cond) = some u := hu
            cases hu'
            refine ⟨by decide, ?_⟩
            show _ = _
            rw [setCell_ne _ _ _ _ _ (by omega)]
            exact World.cell?_setCell_same _ _ _ s1
          · have hu' : some (.string x.to) = some u := hu
            cases hu'
            refine ⟨by decide, ?_⟩
            show _ = _
            exact World.cell?_setCell_same _ _ _ s2
        · obtain ⟨cs, q1, q2⟩ := HK.out i hil (by omega)
          refine ⟨cs, CMo.mv (CMo.below q1 hb1) hmv (by omega), fun j u hu => ?_⟩
          obtain ⟨p1, p2⟩ := q2 j u hu
          refine ⟨p1, ?_⟩
          have p3 := (hb1.cell (p := ⟨w.heap.size, i * 3 + j, none⟩) hsw).trans p2
          rw [setCell_ne _ _ _ _ _ (by omega), setCell_ne _ _ _ _ _ (by omega), setCell_ne _ _ _ _ _ (by omega)]
          exact p3
      case measure => simp [intOf]; omega
    · have : k = n := by omega
      subst this
      go_wp2
      go_ret
      exact ⟨w.heap.size, rfl, Nat.le_refl _, HO.out, hbel, hlen, fun i hil => HK.out i hil (by omega)⟩

theorem toAct_any (B : Nat) (w : World) (x : Ac) (hB : B ≤ w.heap.size) (hf : FewAc x) : Calls Tryz.prog 162 #[.agg #[.int .i64 x.kind, .string x.name, .string x.sum]] w fun e w' => e = .returned (.agg #[.int .i64 x.kind, .string x.name, .string x.sum]) ∧ Below w.heap.size w w' := by
  go_enter Tryz.func162, Tryz.ntmps162
  go_wp2
  go_returns
  refine ⟨rfl, ?_⟩
  go_grown

theorem infoAct : (Tryz.prog.info? 71).map (fun i => (i.zero, i.size, i.bytes)) = some (some (.agg #[.int .i64 0, .string ⟨#[]⟩, .string ⟨#[]⟩]), 3, 40) := by kernel_rfl
set_option maxHeartbeats 1600000 in
set_option maxRecDepth 100000 in
theorem toActS_any (B : Nat) (a : Option Addr) (n cap : Nat) (l : List Ac) (w : World) (hn : n ≤ 1048576) (hB : B ≤ w.heap.size) (hsm : ∀ x ∈ l, FewAc x) (hz : IsArr 3 QAc B w a n l) :
    Calls Tryz.prog 120 #[.slice a n cap] w fun e w' => CpL 3 CAc n l w e w' := by
  have hlen := hz.1
  have HZ := hidOf hz
  have HSM := hidOf hsm
  clear hz hsm
  obtain ⟨i0, hi, hz0, hz1, hz2⟩ := info_parts infoAct
  have hmk : ∀ u : World, (Instr.makeSlice 63 (.int .i64 (n : Int)) (.int .i64 (n : Int))).run Tryz.prog u =
      .ok (.slice (some ⟨u.heap.size, 0, none⟩) n n) (u.alloc (.cells (madeCells #[.int .i64 0, .string ⟨#[]⟩, .string ⟨#[]⟩] (n * 3)) 71)) := fun u => by
    have h := run_make (P := Tryz.prog) u 63 71 i0 (.agg #[.int .i64 0, .string ⟨#[]⟩, .string ⟨#[]⟩]) Tryz.underlying63 hi hz0 .i64 .i64 (n : Int) (n : Int) (by omega) (Int.le_refl _) (by rw [hz2]; omega) (by omega)
    have e : ((n : Int)).toNat = n := by omega
    rw [e] at h
    simpa [hz1, Value.cells] using h
  go_enter Tryz.func120, Tryz.ntmps120
  go_wp2
  go_loopw [4] (fun i wr => ∃ k : Nat, k ≤ n ∧ i = .int .i64 k ∧ Hid (Open w.heap.size (n * 3) wr) ∧ Below w.heap.size w wr ∧ Hid (∀ i, (h : i < l.length) → i < k → ∃ cs, CAc (w.heap.size + 1) wr cs l[i] ∧ ∀ j u, cs[j]? = some u → j < 3 ∧ wr.cell? ⟨w.heap.size, i * 3 + j, none⟩ = some u)) (fun i _ => n - (intOf i).toNat)
  case atStart => exact ⟨0, Nat.zero_le _, rfl, open_made w _ _ _, (Below.refl _ _).alloc (Nat.le_refl _) _, fun i _ hi => absurd hi (Nat.not_lt_zero _)⟩
  case round =>
    obtain ⟨k, hk, rfl, HO, hbel, HK⟩ := hrel
    by_cases hlt : k < n
    · obtain ⟨b, off, cs, rfl, hb, hq, hcell⟩ := IsArr.at (HZ.out.below (QAc.lift (hbel.mono hB)) (hbel.mono hB)) hlt (show k < l.length by omega)
      have hsw := HO.out.1
      have hbr : b < wr.heap.size := by have := hbel.size; omega
      have hbB : B ≤ wr.heap.size := by have := hbel.size; omega
      have hsmx := HSM.out (l[k]'(by omega)) (List.getElem_mem _)
      obtain ⟨x, hx⟩ : ∃ x, l[k]'(by omega) = x := ⟨_, rfl⟩
      have HX := hidOf hx
      rw [hx] at hq hsmx
      unfold QAc at hq
      subst hq
      have c0 : wr.cell? ⟨b, off + k * 3, none⟩ = some (.int .i64 x.kind) := hcell 0 _ rfl
      have c1 : wr.cell? ⟨b, off + k * 3 + 1, none⟩ = some (.string x.name) := hcell 1 _ rfl
      have c2 : wr.cell? ⟨b, off + k * 3 + 1 + 1, none⟩ = some (.string x.sum) := hcell 2 _ rfl
      have HE := hidOf (toAct_any B wr x hbB hsmx)
      clear hcell hx hmk
      go_wp2_with (go_at_call 162; refine HE.out.mono ?_; rintro e w1 ⟨rfl, hb1⟩; have HO1 : Hid (Open w.heap.size (n * 3) w1) := HO.out.below hb1; have HKW : Hid (Below w.heap.size w w1) := hbel.trans (hb1.mono hbel.size); have hsw1 := HO1.out.1; obtain ⟨⟨v0, o0⟩, f0⟩ := HO1.out.2 (k * 3) (by omega); obtain ⟨⟨v1, o1⟩, f1⟩ := HO1.out.2 (k * 3 + 1) (by omega); obtain ⟨⟨v2, o2⟩, f2⟩ := HO1.out.2 (k * 3 + 1 + 1) (by omega))
      have s0 : w1.cell? ⟨w.heap.size, k * 3, none⟩ = some v0 := by exact o0
      have s1 : (w1.setCell ⟨w.heap.size, k * 3, none⟩ (.int .i64 x.kind)).cell? ⟨w.heap.size, k * 3 + 1, none⟩ = some v1 := by rw [setCell_ne _ _ _ _ _ (by omega)]; exact o1
      have s2 : ((w1.setCell ⟨w.heap.size, k * 3, none⟩ (.int .i64 x.kind)).setCell ⟨w.heap.size, k * 3 + 1, none⟩ (.string x.name)).cell? ⟨w.heap.size, k * 3 + 1 + 1, none⟩ = some v2 := by rw [setCell_ne _ _ _ _ _ (by omega), setCell_ne _ _ _ _ _ (by omega)]; exact o2
      go_roundw
      case rel =>
        refine ⟨k + 1, by omega, by go_num, (((HO1.out.set (k * 3) _ (by omega)).set (k * 3 + 1) _ (by omega)).set (k * 3 + 1 + 1) _ (by omega)), (((HKW.out.setCell (by simp) _).setCell (by simp) _).setCell (by simp) _), ?_⟩
        intro i hil hi
        have hmv : Mv w.heap.size w1 (((w1.setCell ⟨w.heap.size, k * 3, none⟩ (.int .i64 x.kind)).setCell ⟨w.heap.size, k * 3 + 1, none⟩ (.string x.name)).setCell ⟨w.heap.size, k * 3 + 1 + 1, none⟩ (.string x.sum)) := ((((Mv.refl _ _).cell _ _).cell _ _).cell _ _)
        by_cases e : i = k
        · subst e
          rw [HX.out]
          refine ⟨_, CAc.mv (show CAc (w.heap.size + 1) w1 [.int .i64 x.kind, .string x.name, .string x.sum] x from rfl) hmv (by omega), fun j u hu => ?_⟩
          have hj : j < 3 := (List.getElem?_eq_some_iff.1 hu).1
          have hjc : j = 0 ∨ j = 1 ∨ j = 2 := by omega
          rcases hjc with rfl | rfl | rfl
          · have hu' : some (.int .i64 x.kind) = some u := hu
            cases hu'
            refine ⟨by decide, ?_⟩
            show _ = _
            rw [setCell_ne _ _ _ _ _ (by omega), setCell_ne _ _ _ _ _ (by omega)]
            exact World.cell?_setCell_same _ _ _ s0
          · have hu' : some (.string x.name) = some u := hu
            cases hu'
            refine ⟨by decide, ?_⟩
            show _ = _
            rw [setCell_ne _ _ _ _ _ (by omega)]
            exact World.cell?_setCell_same _ _ _ s1
          · have hu' : some (.string x.sum) = some u := hu
            cases hu'
            refine ⟨by decide, ?_⟩
            show _ = _
            exact World.cell?_setCell_same _ _ _ s2
        · obtain ⟨cs, q1, q2⟩ := HK.out i hil (by omega)
          refine ⟨cs, CAc.mv (CAc.below q1 hb1) hmv (by omega), fun j u hu => ?_⟩
          obtain ⟨p1, p2⟩ := q2 j u hu
          refine ⟨p1, ?_⟩
          have p3 := (hb1.cell (p := ⟨w.heap.size, i * 3 + j, none⟩) hsw).trans p2
          rw [setCell_ne _ _ _ _ _ (by omega), setCell_ne _ _ _ _ _ (by omega), setCell_ne _ _ _ _ _ (by omega)]
          exact p3
      case measure => simp [intOf]; omega
    · have : k = n := by omega
      subst this
      go_wp2
      go_ret
      exact ⟨w.heap.size, rfl, Nat.le_refl _, HO.out, hbel, hlen, fun i hil => HK.out i hil (by omega)⟩

end Go.Proofs.YtchemhjcknkbgaaGreatDoor
