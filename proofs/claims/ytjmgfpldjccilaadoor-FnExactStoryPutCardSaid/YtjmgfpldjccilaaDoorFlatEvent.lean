/- The law's sizes, copies, comparisons of a Event, and a Event that came in: numbers, and a list behind them. -/
import Derived.Test.YtjmgfpldjccilaaDoorCpMem
import Derived.Test.YtjmgfpldjccilaaDoorSizes
import Derived.Test.YtjmgfpldjccilaaDoorOpenNums
import Derived.Test.YtjmgfpldjccilaaDoorIntWalks
namespace Go.Proofs.YtjmgfpldjccilaaDoor
open Go Go.ChangeShapes Go.WideShapes Go.ChangeAt Go.RowKit Go.Deep Go.PlainAid
set_option linter.unusedSimpArgs false
set_option linter.unusedVariables false

set_option maxHeartbeats 800000 in
set_option maxRecDepth 100000 in
theorem szEvent_gen (S : Nat) (i0 i1 i2 : Int) (a : Option Addr) (n c : Nat) (left : Int) (w : World) (HT : ∀ W, Below w.heap.size w W → Calls Tryd.prog 32 #[.slice a n c, .int .i64 left] W fun e w' => SzP S left W e w') :
    Calls Tryd.prog 12 #[.agg #[.int .i64 i0, .int .i64 i1, .int .i64 i2, .slice a n c], .int .i64 left] w fun e w' => SzP S left w e w' := by
  have HTS := hidOf HT
  clear HT
  go_enter Tryd.func12, Tryd.ntmps12
  go_wp2_with fail
  refine (HTS.out _ (by go_grown)).mono ?_
  rintro e w1 ⟨r, rfl, hb1, p1, p2, p3⟩
  have HB := hidOf (below_boxed hb1)
  have HP := hidOf p3
  clear hb1 p3
  by_cases hr : r < 0
  · go_wp2_with fail
    go_ret
    exact ⟨-1, rfl, HB.out, by omega, by omega, fun h => by omega⟩
  · go_wp2_with fail
    go_ret
    exact ⟨r, rfl, HB.out, p1, p2, HP.out⟩

set_option maxHeartbeats 1600000 in
set_option maxRecDepth 100000 in
theorem toEvent_gen (K : Nat → World → Prop) (i0 i1 i2 : Int) (a : Option Addr) (n c : Nat) (w : World)
    (HT : ∀ W, Below w.heap.size w W → W.heap.size = w.heap.size + 3 → Calls Tryd.prog 33 #[.slice a n c] W fun e w' => ∃ g, e = .returned (.slice (some ⟨g, 0, none⟩) n n) ∧ K g w' ∧ Below W.heap.size W w')
    (hK : ∀ g p w1 w2, p < w.heap.size + 3 → Mv p w1 w2 → K g w1 → K g w2) :
    Calls Tryd.prog 13 #[.agg #[.int .i64 i0, .int .i64 i1, .int .i64 i2, .slice a n c]] w fun e w' => ∃ g, e = .returned (.agg #[.int .i64 i0, .int .i64 i1, .int .i64 i2, .slice (some ⟨g, 0, none⟩) n n]) ∧ K g w' ∧ Below w.heap.size w w' := by
  have HTS := hidOf HT
  clear HT
  go_enter Tryd.func13, Tryd.ntmps13
  go_wp2_with fail
  refine (HTS.out _ (by go_grown) (by simp)).mono ?_
  rintro e w1 ⟨g, rfl, hk, hb1⟩
  have c0 := hb1.cell (p := ⟨w.heap.size + 1 + 1, 0, none⟩) (by simp)
  have f0 := hb1.frozen (p := ⟨w.heap.size + 1 + 1, 0, none⟩) (by simp)
  have d0 := hb1.cell (p := ⟨w.heap.size + 1, 0, none⟩) (by simp)
  have g0 := hb1.frozen (p := ⟨w.heap.size + 1, 0, none⟩) (by simp)
  have c1 := hb1.cell (p := ⟨w.heap.size + 1 + 1, 1, none⟩) (by simp)
  have f1 := hb1.frozen (p := ⟨w.heap.size + 1 + 1, 1, none⟩) (by simp)
  have d1 := hb1.cell (p := ⟨w.heap.size + 1, 1, none⟩) (by simp)
  have g1 := hb1.frozen (p := ⟨w.heap.size + 1, 1, none⟩) (by simp)
  have c2 := hb1.cell (p := ⟨w.heap.size + 1 + 1, 2, none⟩) (by simp)
  have f2 := hb1.frozen (p := ⟨w.heap.size + 1 + 1, 2, none⟩) (by simp)
  have d2 := hb1.cell (p := ⟨w.heap.size + 1, 2, none⟩) (by simp)
  have g2 := hb1.frozen (p := ⟨w.heap.size + 1, 2, none⟩) (by simp)
  have c3 := hb1.cell (p := ⟨w.heap.size + 1 + 1, 3, none⟩) (by simp)
  have f3 := hb1.frozen (p := ⟨w.heap.size + 1 + 1, 3, none⟩) (by simp)
  have d3 := hb1.cell (p := ⟨w.heap.size + 1, 3, none⟩) (by simp)
  have g3 := hb1.frozen (p := ⟨w.heap.size + 1, 3, none⟩) (by simp)
  have hz1 := hb1.size
  simp [go_sem] at c0 f0 d0 g0 c1 f1 d1 g1 c2 f2 d2 g2 c3 f3 d3 g3 hz1
  have HB1 : Hid (Below w.heap.size w w1) := Below.trans (by go_grown) (hb1.mono (by simp; omega))
  have HKg := hidOf hk
  have HKK := hidOf hK
  have hw1 : w.heap.size + 1 + 1 < w1.heap.size := by omega
  have e0 : (w1.setCell ⟨w.heap.size + 1 + 1, 3, none⟩ (.slice (some ⟨g, 0, none⟩) n n)).cell? ⟨w.heap.size + 1, 0, none⟩ = some (.int .i64 0) := by exact (World.cell?_of_block (((Mv.refl (w.heap.size + 1 + 1) w1).cell 3 (.slice (some ⟨g, 0, none⟩) n n)).block (w.heap.size + 1) (by omega) (by omega))).trans d0
  have k0 : ((w1.setCell ⟨w.heap.size + 1 + 1, 3, none⟩ (.slice (some ⟨g, 0, none⟩) n n)).setCell ⟨w.heap.size + 1, 0, none⟩ (.int .i64 i0)).cell? ⟨w.heap.size + 1, 0, none⟩ = some (.int .i64 i0) := World.cell?_setCell_same _ _ _ e0
  have e1 : ((w1.setCell ⟨w.heap.size + 1 + 1, 3, none⟩ (.slice (some ⟨g, 0, none⟩) n n)).setCell ⟨w.heap.size + 1, 0, none⟩ (.int .i64 i0)).cell? ⟨w.heap.size + 1, 1, none⟩ = some (.int .i64 0) := by rw [setCell_ne _ _ _ _ _ (by omega)]; exact (World.cell?_of_block (((Mv.refl (w.heap.size + 1 + 1) w1).cell 3 (.slice (some ⟨g, 0, none⟩) n n)).block (w.heap.size + 1) (by omega) (by omega))).trans d1
  have k1 : (((w1.setCell ⟨w.heap.size + 1 + 1, 3, none⟩ (.slice (some ⟨g, 0, none⟩) n n)).setCell ⟨w.heap.size + 1, 0, none⟩ (.int .i64 i0)).setCell ⟨w.heap.size + 1, 1, none⟩ (.int .i64 i1)).cell? ⟨w.heap.size + 1, 1, none⟩ = some (.int .i64 i1) := World.cell?_setCell_same _ _ _ e1
  have e2 : (((w1.setCell ⟨w.heap.size + 1 + 1, 3, none⟩ (.slice (some ⟨g, 0, none⟩) n n)).setCell ⟨w.heap.size + 1, 0, none⟩ (.int .i64 i0)).setCell ⟨w.heap.size + 1, 1, none⟩ (.int .i64 i1)).cell? ⟨w.heap.size + 1, 2, none⟩ = some (.int .i64 0) := by rw [setCell_ne _ _ _ _ _ (by omega), setCell_ne _ _ _ _ _ (by omega)]; exact (World.cell?_of_block (((Mv.refl (w.heap.size + 1 + 1) w1).cell 3 (.slice (some ⟨g, 0, none⟩) n n)).block (w.heap.size + 1) (by omega) (by omega))).trans d2
  have k2 : ((((w1.setCell ⟨w.heap.size + 1 + 1, 3, none⟩ (.slice (some ⟨g, 0, none⟩) n n)).setCell ⟨w.heap.size + 1, 0, none⟩ (.int .i64 i0)).setCell ⟨w.heap.size + 1, 1, none⟩ (.int .i64 i1)).setCell ⟨w.heap.size + 1, 2, none⟩ (.int .i64 i2)).cell? ⟨w.heap.size + 1, 2, none⟩ = some (.int .i64 i2) := World.cell?_setCell_same _ _ _ e2
  have e3 : ((((w1.setCell ⟨w.heap.size + 1 + 1, 3, none⟩ (.slice (some ⟨g, 0, none⟩) n n)).setCell ⟨w.heap.size + 1, 0, none⟩ (.int .i64 i0)).setCell ⟨w.heap.size + 1, 1, none⟩ (.int .i64 i1)).setCell ⟨w.heap.size + 1, 2, none⟩ (.int .i64 i2)).cell? ⟨w.heap.size + 1, 3, none⟩ = some (.slice none 0 0) := by rw [setCell_ne _ _ _ _ _ (by omega), setCell_ne _ _ _ _ _ (by omega), setCell_ne _ _ _ _ _ (by omega)]; exact (World.cell?_of_block (((Mv.refl (w.heap.size + 1 + 1) w1).cell 3 (.slice (some ⟨g, 0, none⟩) n n)).block (w.heap.size + 1) (by omega) (by omega))).trans d3
  have k3 : (((((w1.setCell ⟨w.heap.size + 1 + 1, 3, none⟩ (.slice (some ⟨g, 0, none⟩) n n)).setCell ⟨w.heap.size + 1, 0, none⟩ (.int .i64 i0)).setCell ⟨w.heap.size + 1, 1, none⟩ (.int .i64 i1)).setCell ⟨w.heap.size + 1, 2, none⟩ (.int .i64 i2)).setCell ⟨w.heap.size + 1, 3, none⟩ (.slice (some ⟨g, 0, none⟩) n n)).cell? ⟨w.heap.size + 1, 3, none⟩ = some (.slice (some ⟨g, 0, none⟩) n n) := World.cell?_setCell_same _ _ _ e3
  clear hb1 hk hK HTS
  go_wp2_with fail
  refine bodyPost_ret (by simp [results, Tryd.results13, go_sem, k0, k1, k2, k3]; try rfl) rfl ?_
  exact ⟨g, rfl, HKK.out _ _ _ _ (by omega) ((((((Mv.refl (w.heap.size + 1) _).cell 0 _).cell 1 _).cell 2 _).cell 3 _)) (HKK.out _ _ _ _ (by omega) ((Mv.refl (w.heap.size + 1 + 1) w1).cell 3 (.slice (some ⟨g, 0, none⟩) n n)) HKg.out), (((((HB1.out.setCell (by simp; omega) _).setCell (by simp) _).setCell (by simp) _).setCell (by simp) _).setCell (by simp) _)⟩

set_option maxHeartbeats 1600000 in
set_option maxRecDepth 100000 in
theorem eqEvent_gen (i0 i1 i2 : Int) (a : Option Addr) (n c : Nat) (a' : Option Addr) (n' c' : Nat) (w : World)
    (HT : ∀ W, Below w.heap.size w W → Calls Tryd.prog 34 #[.slice a n c, .slice a' n' c'] W fun e w' => e = .returned (.bool true) ∧ Below W.heap.size W w') :
    Calls Tryd.prog 14 #[.agg #[.int .i64 i0, .int .i64 i1, .int .i64 i2, .slice a n c], .agg #[.int .i64 i0, .int .i64 i1, .int .i64 i2, .slice a' n' c']] w fun e w' => e = .returned (.bool true) ∧ Below w.heap.size w w' := by
  have HE := hidOf HT
  have HB0 : Hid (Below w.heap.size w ((w.alloc (.cells #[.int .i64 i0, .int .i64 i1, .int .i64 i2, .slice a n c] 25)).alloc (.cells #[.int .i64 i0, .int .i64 i1, .int .i64 i2, .slice a' n' c'] 25))) := ((Below.refl _ _).alloc (Nat.le_refl _) _).alloc (by simp) _
  clear HT
  go_enter Tryd.func14, Tryd.ntmps14
  go_wp2_with (go_at_call 34; refine (HE.out _ (by first | exact HB0.out | go_grown)).mono ?_; rintro e w1 ⟨rfl, hb1⟩)
  go_ret
  refine ⟨ret_bool (by simp), ?_⟩
  exact HB0.out.trans (hb1.mono HB0.out.size)

section
variable {H : Type} {enc : TypeId × Value → H} {W : World} {base : Nat} {spare : Nat → Bool} {held : Bool}
theorem cEventF : Tryd.prog.cellsOf 23 = 1 := by kernel_rfl
theorem open_Event (fuel : Nat) (cs : List Value) (y : DataW H × List MemPlace) (hl : cs.length = 4) (h : DataW.trod enc Tryd.prog W base spare held fuel 32 cs = some y) :
    ∃ (i0 i1 i2 : Int) (a : Option Addr) (n c : Nat), cs = [.int .i64 i0, .int .i64 i1, .int .i64 i2, .slice a n c] ∧ (n ≤ c ∧ c ≤ maxLen) ∧ ((-9223372036854775808 ≤ i0 ∧ i0 ≤ 9223372036854775807) ∧ (-9223372036854775808 ≤ i1 ∧ i1 ≤ 9223372036854775807) ∧ (-9223372036854775808 ≤ i2 ∧ i2 ≤ 9223372036854775807)) ∧ ∃ k y', DataW.trod enc Tryd.prog W base spare held k 23 [.slice a n c] = some y' := by
  obtain ⟨v0, v1, v2, v3, rfl⟩ := len4 hl
  obtain ⟨xs, k, hk, hxy, _, hxl, hf⟩ := DataW.trod_struct Tryd.underlying32 h
  obtain ⟨y0, y1, y2, y3, rfl⟩ := len4 (show xs.length = 4 from hxl)
  have g0 := hf 0 _ rfl
  have g1 := hf 1 _ rfl
  have g2 := hf 2 _ rfl
  have g3 := hf 3 _ rfl
  simp only [cI, cEventF, List.getElem?_cons_zero, List.getElem?_cons_succ] at g0 g1 g2 g3
  simp at g0 g1 g2 g3
  obtain ⟨i0, e0, _, w0⟩ := DataW.trod_int Tryd.underlying3 g0
  obtain ⟨i1, e1, _, w1⟩ := DataW.trod_int Tryd.underlying3 g1
  obtain ⟨i2, e2, _, w2⟩ := DataW.trod_int Tryd.underlying3 g2
  have p0 : List.take (Tryd.prog.cellsOf 3) [v0, v1, v2, v3] = [Value.int IntKind.i64 i0] := e0
  have p1 : List.take (Tryd.prog.cellsOf 3) [v1, v2, v3] = [Value.int IntKind.i64 i1] := e1
  have p2 : List.take (Tryd.prog.cellsOf 3) [v2, v3] = [Value.int IntKind.i64 i2] := e2
  rw [cI] at p0 p1 p2
  simp at p0 p1 p2
  subst p0 p1 p2
  have gl : DataW.trod enc Tryd.prog W base spare held k 23 [v3] = some y3 := by rw [cEventF] at g3; exact g3
  obtain ⟨a, n, c, e3⟩ := slice_shape Tryd.underlying23 gl
  simp at e3
  subst e3
  obtain ⟨h1, h2⟩ := slice_caps Tryd.underlying23 gl
  simp only [Lit.wf, Bool.and_eq_true, decide_eq_true_eq] at w0 w1 w2
  exact ⟨i0, i1, i2, a, n, c, rfl, ⟨h1, h2⟩, ⟨w0, w1, w2⟩, k, _, gl⟩
end
end Go.Proofs.YtjmgfpldjccilaaDoor
