/- The law's copies of lists of events. -/
import Derived.Test.YtjmgfpldjccilaaDoorEvArr
import Derived.Test.YtjmgfpldjccilaaDoorFlatEvent
import Derived.Test.YtjmgfpldjccilaaDoorIntCopy
namespace Go.Proofs.YtjmgfpldjccilaaDoor
open Go Go.RowKit Go.PlainAid
set_option linter.unusedSimpArgs false
set_option linter.unusedVariables false

theorem toEvent_any (B : Nat) (w : World) (x : Ev) (hB : B ≤ w.heap.size) (hf : FewEv x) (a : Option Addr) (n c : Nat) (hv : IsInts B w a n x.2.2.2) :
    Calls Tryd.prog 13 #[.agg #[.int .i64 x.1, .int .i64 x.2.1, .int .i64 x.2.2.1, .slice a n c]] w fun e w' => ∃ g, e = .returned (.agg #[.int .i64 x.1, .int .i64 x.2.1, .int .i64 x.2.2.1, .slice (some ⟨g, 0, none⟩) n n]) ∧ CEv w.heap.size w' [.int .i64 x.1, .int .i64 x.2.1, .int .i64 x.2.2.1, .slice (some ⟨g, 0, none⟩) n n] x ∧ Below w.heap.size w w' := by
  have hn : n ≤ 1048576 := by have := hv.1; unfold FewEv at hf; omega
  refine (toEvent_gen (CInt n x.2.2.2 (w.heap.size + 3)) x.1 x.2.1 x.2.2.1 a n c w (fun W hb hs => ?_) (fun g p w1 w2 hp hm h => h.mv hm hp)).mono ?_
  · refine (toIntS_open B a n c x.2.2.2 W hn (by have := hb.size; omega) (hv.below (hb.mono hB))).mono ?_
    rintro e w' ⟨b, rfl, h1, h2, h3, h4⟩
    exact ⟨b, rfl, ⟨by omega, h4, h2⟩, h3⟩
  · rintro e w' ⟨g, rfl, h1, h2⟩
    exact ⟨g, rfl, ⟨g, n, rfl, hn, Nat.le_trans (by omega) h1.1, h1.2⟩, h2⟩

theorem infoEvent : (Tryd.prog.info? 25).map (fun i => (i.zero, i.size, i.bytes)) = some (some (.agg #[.int .i64 0, .int .i64 0, .int .i64 0, .slice none 0 0]), 4, 48) := by kernel_rfl
set_option maxHeartbeats 1600000 in
set_option maxRecDepth 100000 in
theorem toEventS_any (B : Nat) (a : Option Addr) (n cap : Nat) (l : List Ev) (w : World) (hn : n ≤ 1048576) (hB : B ≤ w.heap.size) (hsm : ∀ x ∈ l, FewEv x) (hz : IsArr 4 QEv B w a n l) :
    Calls Tryd.prog 20 #[.slice a n cap] w fun e w' => CpL 4 CEv n l w e w' := by
  have hlen := hz.1
  have HZ := hidOf hz
  have HSM := hidOf hsm
  clear hz hsm
  obtain ⟨i0, hi, hz0, hz1, hz2⟩ := info_parts infoEvent
  have hmk : ∀ u : World, (Instr.makeSlice 41 (.int .i64 (n : Int)) (.int .i64 (n : Int))).run Tryd.prog u =
      .ok (.slice (some ⟨u.heap.size, 0, none⟩) n n) (u.alloc (.cells (madeCells #[.int .i64 0, .int .i64 0, .int .i64 0, .slice none 0 0] (n * 4)) 25)) := fun u => by
    have h := run_make (P := Tryd.prog) u 41 25 i0 (.agg #[.int .i64 0, .int .i64 0, .int .i64 0, .slice none 0 0]) Tryd.underlying41 hi hz0 .i64 .i64 (n : Int) (n : Int) (by omega) (Int.le_refl _) (by rw [hz2]; omega) (by omega)
    have e : ((n : Int)).toNat = n := by omega
    rw [e] at h
    simpa [hz1, Value.cells] using h
  go_enter Tryd.func20, Tryd.ntmps20
  go_wp2
  go_loopw [4] (fun i wr => ∃ k : Nat, k ≤ n ∧ i = .int .i64 k ∧ Hid (Open w.heap.size (n * 4) wr) ∧ Below w.heap.size w wr ∧ Hid (∀ i, (h : i < l.length) → i < k → ∃ cs, CEv (w.heap.size + 1) wr cs l[i] ∧ ∀ j u, cs[j]? = some u → j < 4 ∧ wr.cell? ⟨w.heap.size, i * 4 + j, none⟩ = some u)) (fun i _ => n - (intOf i).toNat)
  case atStart => exact ⟨0, Nat.zero_le _, rfl, open_madeE w _ _ _, (Below.refl _ _).alloc (Nat.le_refl _) _, fun i _ hi => absurd hi (Nat.not_lt_zero _)⟩
  case round =>
    obtain ⟨k, hk, rfl, HO, hbel, HK⟩ := hrel
    by_cases hlt : k < n
    · obtain ⟨b, off, cs, rfl, hb, hq, hcell⟩ := IsArr.at (HZ.out.below (QEv.lift (hbel.mono hB)) (hbel.mono hB)) hlt (show k < l.length by omega)
      have hsw := HO.out.1
      have hbr : b < wr.heap.size := by have := hbel.size; omega
      have hbB : B ≤ wr.heap.size := by have := hbel.size; omega
      have hsmx := HSM.out (l[k]'(by omega)) (List.getElem_mem _)
      obtain ⟨x, hx⟩ : ∃ x, l[k]'(by omega) = x := ⟨_, rfl⟩
      have HX := hidOf hx
      rw [hx] at hq hsmx
      obtain ⟨pa, pn, pc, rfl, hp1, hp2, hp3⟩ := hq
      have HP3 := hidOf hp3
      have c0 : wr.cell? ⟨b, off + k * 4, none⟩ = some (.int .i64 x.1) := hcell 0 _ rfl
      have c1 : wr.cell? ⟨b, off + k * 4 + 1, none⟩ = some (.int .i64 x.2.1) := hcell 1 _ rfl
      have c2 : wr.cell? ⟨b, off + k * 4 + 1 + 1, none⟩ = some (.int .i64 x.2.2.1) := hcell 2 _ rfl
      have c3 : wr.cell? ⟨b, off + k * 4 + 1 + 1 + 1, none⟩ = some (.slice pa pn pc) := hcell 3 _ rfl
      have HE := hidOf (toEvent_any B wr x hbB hsmx pa pn pc hp3)
      clear hcell hx hmk
      go_wp2_with (go_at_call 13; refine HE.out.mono ?_; rintro e w1 ⟨g, rfl, hC, hb1⟩; have HO1 : Hid (Open w.heap.size (n * 4) w1) := HO.out.below hb1; have HKW : Hid (Below w.heap.size w w1) := hbel.trans (hb1.mono hbel.size); have hsw1 := HO1.out.1; obtain ⟨⟨v0, o0⟩, f0⟩ := HO1.out.2 (k * 4) (by omega); obtain ⟨⟨v1, o1⟩, f1⟩ := HO1.out.2 (k * 4 + 1) (by omega); obtain ⟨⟨v2, o2⟩, f2⟩ := HO1.out.2 (k * 4 + 1 + 1) (by omega); obtain ⟨⟨v3, o3⟩, f3⟩ := HO1.out.2 (k * 4 + 1 + 1 + 1) (by omega))
      have s0 : w1.cell? ⟨w.heap.size, k * 4, none⟩ = some v0 := by exact o0
      have s1 : (w1.setCell ⟨w.heap.size, k * 4, none⟩ (.int .i64 x.1)).cell? ⟨w.heap.size, k * 4 + 1, none⟩ = some v1 := by rw [setCell_ne _ _ _ _ _ (by omega)]; exact o1
      have s2 : ((w1.setCell ⟨w.heap.size, k * 4, none⟩ (.int .i64 x.1)).setCell ⟨w.heap.size, k * 4 + 1, none⟩ (.int .i64 x.2.1)).cell? ⟨w.heap.size, k * 4 + 1 + 1, none⟩ = some v2 := by rw [setCell_ne _ _ _ _ _ (by omega), setCell_ne _ _ _ _ _ (by omega)]; exact o2
      have s3 : (((w1.setCell ⟨w.heap.size, k * 4, none⟩ (.int .i64 x.1)).setCell ⟨w.heap.size, k * 4 + 1, none⟩ (.int .i64 x.2.1)).setCell ⟨w.heap.size, k * 4 + 1 + 1, none⟩ (.int .i64 x.2.2.1)).cell? ⟨w.heap.size, k * 4 + 1 + 1 + 1, none⟩ = some v3 := by rw [setCell_ne _ _ _ _ _ (by omega), setCell_ne _ _ _ _ _ (by omega), setCell_ne _ _ _ _ _ (by omega)]; exact o3
      go_roundw
      case rel =>
        refine ⟨k + 1, by omega, by go_num, ((((HO1.out.set (k * 4) _ (by omega)).set (k * 4 + 1) _ (by omega)).set (k * 4 + 1 + 1) _ (by omega)).set (k * 4 + 1 + 1 + 1) _ (by omega)), ((((HKW.out.setCell (by simp) _).setCell (by simp) _).setCell (by simp) _).setCell (by simp) _), ?_⟩
        intro i hil hi
        have hmv : Mv w.heap.size w1 ((((w1.setCell ⟨w.heap.size, k * 4, none⟩ (.int .i64 x.1)).setCell ⟨w.heap.size, k * 4 + 1, none⟩ (.int .i64 x.2.1)).setCell ⟨w.heap.size, k * 4 + 1 + 1, none⟩ (.int .i64 x.2.2.1)).setCell ⟨w.heap.size, k * 4 + 1 + 1 + 1, none⟩ (.slice (some ⟨g, 0, none⟩) pn pn)) := (((((Mv.refl _ _).cell _ _).cell _ _).cell _ _).cell _ _)
        by_cases e : i = k
        · subst e
          rw [HX.out]
          refine ⟨_, CEv.mv (CEv.low hC (by omega)) hmv (by omega), fun j u hu => ?_⟩
          have hj : j < 4 := (List.getElem?_eq_some_iff.1 hu).1
          have hjc : j = 0 ∨ j = 1 ∨ j = 2 ∨ j = 3 := by omega
          rcases hjc with rfl | rfl | rfl | rfl
          · have hu' : some (.int .i64 x.1) = some u := hu
            cases hu'
            refine ⟨by decide, ?_⟩
            show _ = _
            rw [setCell_ne _ _ _ _ _ (by omega), setCell_ne _ _ _ _ _ (by omega), setCell_ne _ _ _ _ _ (by omega)]
            exact World.cell?_setCell_same _ _ _ s0
          · have hu' : some (.int .i64 x.2.1) = some u := hu
            cases hu'
            refine ⟨by decide, ?_⟩
            show _ = _
            rw [setCell_ne _ _ _ _ _ (by omega), setCell_ne _ _ _ _ _ (by omega)]
            exact World.cell?_setCell_same _ _ _ s1
          · have hu' : some (.int .i64 x.2.2.1) = some u := hu
            cases hu'
            refine ⟨by decide, ?_⟩
            show _ = _
            rw [setCell_ne _ _ _ _ _ (by omega)]
            exact World.cell?_setCell_same _ _ _ s2
          · have hu' : some (.slice (some ⟨g, 0, none⟩) pn pn) = some u := hu
            cases hu'
            refine ⟨by decide, ?_⟩
            show _ = _
            exact World.cell?_setCell_same _ _ _ s3
        · obtain ⟨cs, q1, q2⟩ := HK.out i hil (by omega)
          refine ⟨cs, CEv.mv (CEv.below q1 hb1) hmv (by omega), fun j u hu => ?_⟩
          obtain ⟨p1, p2⟩ := q2 j u hu
          refine ⟨p1, ?_⟩
          have p3 := (hb1.cell (p := ⟨w.heap.size, i * 4 + j, none⟩) hsw).trans p2
          rw [setCell_ne _ _ _ _ _ (by omega), setCell_ne _ _ _ _ _ (by omega), setCell_ne _ _ _ _ _ (by omega), setCell_ne _ _ _ _ _ (by omega)]
          exact p3
      case measure => simp [intOf]; omega
    · have : k = n := by omega
      subst this
      go_wp2
      go_ret
      exact ⟨w.heap.size, rfl, Nat.le_refl _, HO.out, hbel, hlen, fun i hil => HK.out i hil (by omega)⟩
end Go.Proofs.YtjmgfpldjccilaaDoor
