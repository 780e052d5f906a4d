/- The program's ops: what each does to the stack. -/
import Derived.Test.YtchemhjcknkbgaaGreatDoorBunY4
import Derived.Test.YtchemhjcknkbgaaGreatDoorBunY5
import Derived.BigQuiet
import Derived.Test.YtchemhjcknkbgaaGreatDoorBunY2
import Derived.Test.YtchemhjcknkbgaaGreatDoorBunY7
namespace Go.Proofs.YtchemhjcknkbgaaGreatDoor
open Go.RowKit Go.PlainAid
set_option linter.unusedSimpArgs false
set_option linter.unusedVariables false

theorem Stk.alloc {p : Nat} {w : World} {st : List Int} (h : Stk p w st) (o : Obj) : Stk p (w.alloc o) st := by
  have hlt := h.lt
  obtain ⟨v, hc, hf, hown⟩ := h
  exact ⟨v, (World.cell?_alloc_past _ _ _ hlt).trans hc, (World.frozen?_alloc_past _ _ _ hlt).trans hf, hown.alloc _⟩

theorem runNum_any (p : Nat) (k n : Int) (a : Option Addr) (m c : Nat) (st : List Int) (w : World) (hs : Stk p w st) (hl : st.length ≤ 1048576) :
    Calls Tryz.prog 218 #[.pointer (some ⟨p, 0, none⟩), .agg #[.int .i64 k, .int .i64 n], .slice a m c] w fun e w' => e = .returned (.tuple #[]) ∧ Stk p w' (wr32 n :: st) ∧ Below p w w' := by
  have hlt := hs.lt
  have HS : Hid (Stk p w st) := hs
  clear hs
  go_enter Tryz.func218, Tryz.ntmps218
  go_wp2_with fail
  refine (push_any p _ st _ (HS.out.alloc _) hl).mono ?_
  rintro e w1 ⟨rfl, h1, h2⟩
  go_wp2_with fail
  go_end0
  refine ⟨rfl, ?_, ((Below.refl p w).alloc (by omega) _).trans h2⟩
  rw [← wr32_is]; exact h1

theorem runName_any (p : Nat) (n : Nat) (a : Option Addr) (m c : Nat) (vs : List Int) (st : List Int) (w : World) (hs : Stk p w st) (hl : st.length ≤ 1048576) (hv : IsInts p w a m vs) (hn : n < m) (hm : m ≤ 1048576) :
    Calls Tryz.prog 219 #[.pointer (some ⟨p, 0, none⟩), .agg #[.int .i64 2, .int .i64 n], .slice a m c] w fun e w' => e = .returned (.tuple #[]) ∧ Stk p w' (wr32 (vs.getD n 0) :: st) ∧ Below p w w' := by
  have hlt := hs.lt
  obtain ⟨h1, h2⟩ := hv
  rcases h2 with h2 | ⟨b, off, rfl, hb, hc⟩
  · omega
  have hcn := hc n hn
  have HS : Hid (Stk p w st) := hs
  have hbw : b < w.heap.size := by omega
  clear hs hc
  go_enter Tryz.func219, Tryz.ntmps219
  go_wp2_with fail
  refine (push_any p _ st _ (HS.out.alloc _) hl).mono ?_
  rintro e w1 ⟨rfl, h1, h2⟩
  go_wp2_with fail
  go_end0
  refine ⟨rfl, ?_, ((Below.refl p w).alloc (by omega) _).trans h2⟩
  rw [← wr32_is, show vs.getD n 0 = vs[n] from by have : n < vs.length := (by omega); simp [this]]
  exact h1

theorem runAhead_any (p : Nat) (k n x : Int) (a : Option Addr) (m c : Nat) (st : List Int) (w : World) (hk : k = 3 ∨ k = 4) (hs : Stk p w (x :: st)) (hl : st.length ≤ 1048576) :
    Calls Tryz.prog 220 #[.pointer (some ⟨p, 0, none⟩), .agg #[.int .i64 k, .int .i64 n], .slice a m c] w fun e w' => e = .returned (.tuple #[]) ∧ Stk p w' (one k x :: st) ∧ Below p w w' := by
  have hlt := hs.lt
  have HS : Hid (Stk p w (x :: st)) := hs
  have HK : Hid (k = 3 ∨ k = 4) := hk
  clear hs hk
  go_enter Tryz.func220, Tryz.ntmps220
  go_wp2_with fail
  refine (pop_any p x st _ (HS.out.alloc _) hl).mono ?_
  rintro e w1 ⟨rfl, h1, h2, h3, h4⟩
  have H1 : Hid (Stk p w1 st) := h1
  have H2 : Hid (Below p w w1) := ((Below.refl p w).alloc (by omega) _).trans h2
  have c0 := h4 w.heap.size 0 (by omega)
  simp at c0
  clear h1 h2 h3 h4
  go_wp2_with fail
  refine (aheadValue_any k x _ HK.out).mono ?_
  rintro e w2 ⟨rfl, rfl⟩
  go_wp2_with fail
  refine (push_any p _ st _ H1.out hl).mono ?_
  rintro e w3 ⟨rfl, h5, h6⟩
  go_wp2_with fail
  go_end0
  exact ⟨rfl, h5, H2.out.trans h6⟩

theorem runPair_any (p : Nat) (k n x y : Int) (a : Option Addr) (m c : Nat) (st : List Int) (w : World) (hk : 5 ≤ k ∧ k ≤ 13) (hs : Stk p w (y :: x :: st)) (hl : st.length + 1 ≤ 1048576) :
    Calls Tryz.prog 221 #[.pointer (some ⟨p, 0, none⟩), .agg #[.int .i64 k, .int .i64 n], .slice a m c] w fun e w' => e = .returned (.tuple #[]) ∧ Stk p w' (two k x y :: st) ∧ Below p w w' := by
  have hlt := hs.lt
  have HS : Hid (Stk p w (y :: x :: st)) := hs
  have HK : Hid (5 ≤ k ∧ k ≤ 13) := hk
  clear hs hk
  go_enter Tryz.func221, Tryz.ntmps221
  go_wp2_with fail
  refine (pop_any p y (x :: st) _ (HS.out.alloc _) (by simp; omega)).mono ?_
  rintro e w1 ⟨rfl, h1, h2, h3, h4⟩
  have H1 : Hid (Stk p w1 (x :: st)) := h1
  have H2 : Hid (Below p w w1) := ((Below.refl p w).alloc (by omega) _).trans h2
  have c0 := h4 w.heap.size 0 (by omega)
  simp at c0
  clear h1 h2 h3 h4
  go_wp2_with fail
  refine (pop_any p x st _ H1.out (by omega)).mono ?_
  rintro e w2 ⟨rfl, h1, h2, h3, h4⟩
  have H3 : Hid (Stk p w2 st) := h1
  have H4 : Hid (Below p w w2) := H2.out.trans h2
  have c1 := (h4 w.heap.size 0 (by omega)).trans c0
  clear h1 h2 h3 h4 c0
  go_wp2_with fail
  refine (pairValue_any k x y _ HK.out).mono ?_
  rintro e w3 ⟨rfl, rfl⟩
  go_wp2_with fail
  refine (push_any p _ st _ H3.out (by omega)).mono ?_
  rintro e w4 ⟨rfl, h5, h6⟩
  go_wp2_with fail
  go_end0
  exact ⟨rfl, h5, H4.out.trans h6⟩
end Go.Proofs.YtchemhjcknkbgaaGreatDoor

/- The law's copies and comparisons of numbers. -/
namespace Go.Proofs.YtchemhjcknkbgaaGreatDoor
open Go Go.RowKit Go.PlainAid
set_option linter.unusedSimpArgs false
set_option linter.unusedVariables false

set_option maxHeartbeats 400000 in
theorem toIntS_open (B : Nat) (a : Option Addr) (n cap : Nat) (vs : List Int) (w : World) (hn : n ≤ 1048576) (hB : B ≤ w.heap.size) (hz : IsInts B w a n vs) :
    Calls Tryz.prog 17 #[.slice a n cap] w fun e w' => ∃ b, e = .returned (.slice (some ⟨b, 0, none⟩) n n) ∧ w.heap.size ≤ b ∧ IsInts w'.heap.size w' (some ⟨b, 0, none⟩) n vs ∧ Below w.heap.size w w' ∧ Open b n w' := by
  obtain ⟨hlen, hcells⟩ := hz
  obtain ⟨i0, hi, hz0, hz1, hz2⟩ := info_parts infoInt
  have hmk : ∀ u : World, (Instr.makeSlice 41 (.int .i64 (n : Int)) (.int .i64 (n : Int))).run Tryz.prog u =
      .ok (.slice (some ⟨u.heap.size, 0, none⟩) n n) (u.alloc (.cells (madeCells #[.int .i64 0] n) 3)) := fun u => by
    have h := run_make (P := Tryz.prog) u 41 3 i0 (.int .i64 0) Tryz.underlying41 hi hz0 .i64 .i64 (n : Int) (n : Int) (by omega) (Int.le_refl _) (by rw [hz2]; omega) (by omega)
    have e : ((n : Int)).toNat = n := by omega
    rw [e] at h
    simpa [hz1, Value.cells] using h
  go_enter Tryz.func17, Tryz.ntmps17
  go_wp2
  go_loopw [4] (fun i wr => ∃ k : Nat, k ≤ n ∧ i = .int .i64 k ∧ Fill w.heap.size w wr n k (intCell vs)) (fun i _ => n - (intOf i).toNat)
  case atStart =>
    have h := Fill.start w (madeCells #[.int .i64 0] n) 3 (intCell vs)
    rw [size_madeCells] at h
    exact ⟨0, Nat.zero_le _, rfl, h⟩
  case round =>
    obtain ⟨k, hk, rfl, hfill⟩ := hrel
    by_cases hlt : k < n
    · rcases hcells with h0 | ⟨b, off, rfl, hb, hc⟩
      · omega
      have c0 := (hfill.below.cell (p := ⟨b, off + k, none⟩) (by simp; omega)).trans (hc k hlt)
      obtain ⟨x, hx⟩ : ∃ x, vs.getD k 0 = x := ⟨_, rfl⟩
      rw [hx] at c0
      have HX : Hid (vs.getD k 0 = x) := hx
      obtain ⟨v0, f0⟩ := hfill.there k (by omega)
      have hfz := hfill.open_
      have hsz := hfill.lt
      clear hmk hc hx
      go_wp2
      go_roundw
      case rel => exact ⟨k + 1, by omega, by go_num, hfill.store (by omega) (by unfold intCell; rw [HX.out])⟩
      case measure => simp [intOf]; omega
    · have : k = n := by omega
      subst this
      go_wp2
      go_ret
      exact ⟨_, rfl, Nat.le_refl _, ⟨hlen, .inr ⟨_, _, rfl, hfill.lt, fun i hi => by simpa [intCell] using hfill.done i (by omega)⟩⟩, hfill.below, hfill.lt, fun j hj => ⟨hfill.there j hj, hfill.open_ j⟩⟩

theorem toIntS_any (B : Nat) (a : Option Addr) (n cap : Nat) (vs : List Int) (w : World) (hn : n ≤ 1048576) (hB : B ≤ w.heap.size) (hz : IsInts B w a n vs) :
    Calls Tryz.prog 17 #[.slice a n cap] w fun e w' => ∃ b, e = .returned (.slice (some ⟨b, 0, none⟩) n n) ∧ w.heap.size ≤ b ∧ IsInts w'.heap.size w' (some ⟨b, 0, none⟩) n vs ∧ Below w.heap.size w w' :=
  (toIntS_open B a n cap vs w hn hB hz).mono fun _ _ ⟨b, h1, h2, h3, h4, _⟩ => ⟨b, h1, h2, h3, h4⟩

theorem eqIntS_same (a a' : Option Addr) (n cap cap' : Nat) (vs : List Int) (w : World) (hn : n ≤ 1048576) (hz : IsInts w.heap.size w a n vs) (hz' : IsInts w.heap.size w a' n vs) :
    Calls Tryz.prog 21 #[.slice a n cap, .slice a' n cap'] w fun e w' => e = .returned (.bool true) ∧ Below w.heap.size w w' := by
  obtain ⟨hlen, hcells⟩ := hz
  obtain ⟨_, hcells'⟩ := hz'
  go_enter Tryz.func21, Tryz.ntmps21
  go_wp2
  go_loopw [5] (fun i wr => ∃ k : Nat, k ≤ n ∧ i = .int .i64 k ∧ Below w.heap.size w wr) (fun i _ => n - (intOf i).toNat)
  case atStart => exact ⟨0, Nat.zero_le _, rfl, Below.refl _ _⟩
  case round =>
    obtain ⟨k, hk, rfl, hbel⟩ := hrel
    by_cases hlt : k < n
    · rcases hcells with h0 | ⟨b, off, rfl, hb, hc⟩
      · omega
      rcases hcells' with h0 | ⟨b', off', rfl, hb', hc'⟩
      · omega
      obtain ⟨x, hx⟩ : ∃ x, vs.getD k 0 = x := ⟨_, rfl⟩
      have c0 := (hbel.cell (p := ⟨b, off + k, none⟩) hb).trans (hc k hlt)
      have d0 := (hbel.cell (p := ⟨b', off' + k, none⟩) hb').trans (hc' k hlt)
      rw [hx] at c0 d0
      clear hc hc' hx
      go_wp2
      go_quiet (fail)
      go_wp2
      go_roundw
      case rel => exact ⟨k + 1, by omega, by go_num, drewN hbel _⟩
      case measure => simp [intOf]; omega
    · go_wp2
      go_ret
      exact ⟨rfl, hbel⟩

end Go.Proofs.YtchemhjcknkbgaaGreatDoor

/- The law's sizes, copies, comparisons of a Inst, and a Inst that came in: numbers, and a list behind them. -/
namespace Go.Proofs.YtchemhjcknkbgaaGreatDoor
open Go Go.ChangeShapes Go.WideShapes Go.ChangeAt Go.RowKit Go.Deep Go.PlainAid
set_option linter.unusedSimpArgs false
set_option linter.unusedVariables false

set_option maxHeartbeats 800000 in
set_option maxRecDepth 100000 in
theorem szInst_gen (S : Nat) (i0 : Int) (a : Option Addr) (n c : Nat) (left : Int) (w : World) (HT : ∀ W, Below w.heap.size w W → Calls Tryz.prog 50 #[.slice a n c, .int .i64 left] W fun e w' => SzP S left W e w') :
    Calls Tryz.prog 14 #[.agg #[.int .i64 i0, .slice a n c], .int .i64 left] w fun e w' => SzP S left w e w' := by
  have HTS := hidOf HT
  clear HT
  go_enter Tryz.func14, Tryz.ntmps14
  go_wp2_with fail
  refine (HTS.out _ (by go_grown)).mono ?_
  rintro e w1 ⟨r, rfl, hb1, p1, p2, p3⟩
  have HB := hidOf (below_boxed hb1)
  have HP := hidOf p3
  clear hb1 p3
  by_cases hr : r < 0
  · go_wp2_with fail
    go_ret
    exact ⟨-1, rfl, HB.out, by omega, by omega, fun h => by omega⟩
  · go_wp2_with fail
    go_ret
    exact ⟨r, rfl, HB.out, p1, p2, HP.out⟩

set_option maxHeartbeats 1600000 in
set_option maxRecDepth 100000 in
theorem toInst_gen (K : Nat → World → Prop) (i0 : Int) (a : Option Addr) (n c : Nat) (w : World)
    (HT : ∀ W, Below w.heap.size w W → W.heap.size = w.heap.size + 3 → Calls Tryz.prog 17 #[.slice a n c] W fun e w' => ∃ g, e = .returned (.slice (some ⟨g, 0, none⟩) n n) ∧ K g w' ∧ Below W.heap.size W w')
    (hK : ∀ g p w1 w2, p < w.heap.size + 3 → Mv p w1 w2 → K g w1 → K g w2) :
    Calls Tryz.prog 16 #[.agg #[.int .i64 i0, .slice a n c]] w fun e w' => ∃ g, e = .returned (.agg #[.int .i64 i0, .slice (some ⟨g, 0, none⟩) n n]) ∧ K g w' ∧ Below w.heap.size w w' := by
  have HTS := hidOf HT
  clear HT
  go_enter Tryz.func16, Tryz.ntmps16
  go_wp2_with fail
  refine (HTS.out _ (by go_grown) (by simp)).mono ?_
  rintro e w1 ⟨g, rfl, hk, hb1⟩
  have c0 := hb1.cell (p := ⟨w.heap.size + 1 + 1, 0, none⟩) (by simp)
  have f0 := hb1.frozen (p := ⟨w.heap.size + 1 + 1, 0, none⟩) (by simp)
  have d0 := hb1.cell (p := ⟨w.heap.size + 1, 0, none⟩) (by simp)
  have g0 := hb1.frozen (p := ⟨w.heap.size + 1, 0, none⟩) (by simp)
  have c1 := hb1.cell (p := ⟨w.heap.size + 1 + 1, 1, none⟩) (by simp)
  have f1 := hb1.frozen (p := ⟨w.heap.size + 1 + 1, 1, none⟩) (by simp)
  have d1 := hb1.cell (p := ⟨w.heap.size + 1, 1, none⟩) (by simp)
  have g1 := hb1.frozen (p := ⟨w.heap.size + 1, 1, none⟩) (by simp)
  have hz1 := hb1.size
  simp [go_sem] at c0 f0 d0 g0 c1 f1 d1 g1 hz1
  have HB1 : Hid (Below w.heap.size w w1) := Below.trans (by go_grown) (hb1.mono (by simp; omega))
  have HKg := hidOf hk
  have HKK := hidOf hK
  have hw1 : w.heap.size + 1 + 1 < w1.heap.size := by omega
  have e0 : (w1.setCell ⟨w.heap.size + 1 + 1, 1, none⟩ (.slice (some ⟨g, 0, none⟩) n n)).cell? ⟨w.heap.size + 1, 0, none⟩ = some (.int .i64 0) := by exact (World.cell?_of_block (((Mv.refl (w.heap.size + 1 + 1) w1).cell 1 (.slice (some ⟨g, 0, none⟩) n n)).block (w.heap.size + 1) (by omega) (by omega))).trans d0
  have k0 : ((w1.setCell ⟨w.heap.size + 1 + 1, 1, none⟩ (.slice (some ⟨g, 0, none⟩) n n)).setCell ⟨w.heap.size + 1, 0, none⟩ (.int .i64 i0)).cell? ⟨w.heap.size + 1, 0, none⟩ = some (.int .i64 i0) := World.cell?_setCell_same _ _ _ e0
  have e1 : ((w1.setCell ⟨w.heap.size + 1 + 1, 1, none⟩ (.slice (some ⟨g, 0, none⟩) n n)).setCell ⟨w.heap.size + 1, 0, none⟩ (.int .i64 i0)).cell? ⟨w.heap.size + 1, 1, none⟩ = some (.slice none 0 0) := by rw [setCell_ne _ _ _ _ _ (by omega)]; exact (World.cell?_of_block (((Mv.refl (w.heap.size + 1 + 1) w1).cell 1 (.slice (some ⟨g, 0, none⟩) n n)).block (w.heap.size + 1) (by omega) (by omega))).trans d1
  have k1 : (((w1.setCell ⟨w.heap.size + 1 + 1, 1, none⟩ (.slice (some ⟨g, 0, none⟩) n n)).setCell ⟨w.heap.size + 1, 0, none⟩ (.int .i64 i0)).setCell ⟨w.heap.size + 1, 1, none⟩ (.slice (some ⟨g, 0, none⟩) n n)).cell? ⟨w.heap.size + 1, 1, none⟩ = some (.slice (some ⟨g, 0, none⟩) n n) := World.cell?_setCell_same _ _ _ e1
  clear hb1 hk hK HTS
  go_wp2_with fail
  refine bodyPost_ret (by simp [results, Tryz.results16, go_sem, k0, k1]; try rfl) rfl ?_
  exact ⟨g, rfl, HKK.out _ _ _ _ (by omega) ((((Mv.refl (w.heap.size + 1) _).cell 0 _).cell 1 _)) (HKK.out _ _ _ _ (by omega) ((Mv.refl (w.heap.size + 1 + 1) w1).cell 1 (.slice (some ⟨g, 0, none⟩) n n)) HKg.out), (((HB1.out.setCell (by simp; omega) _).setCell (by simp) _).setCell (by simp) _)⟩

set_option maxHeartbeats 1600000 in
set_option maxRecDepth 100000 in
theorem eqInst_gen (i0 : Int) (a : Option Addr) (n c : Nat) (a' : Option Addr) (n' c' : Nat) (w : World)
    (HT : ∀ W, Below w.heap.size w W → Calls Tryz.prog 21 #[.slice a n c, .slice a' n' c'] W fun e w' => e = .returned (.bool true) ∧ Below W.heap.size W w') :
    Calls Tryz.prog 19 #[.agg #[.int .i64 i0, .slice a n c], .agg #[.int .i64 i0, .slice a' n' c']] w fun e w' => e = .returned (.bool true) ∧ Below w.heap.size w w' := by
  have HE := hidOf HT
  have HB0 : Hid (Below w.heap.size w ((w.alloc (.cells #[.int .i64 i0, .slice a n c] 45)).alloc (.cells #[.int .i64 i0, .slice a' n' c'] 45))) := ((Below.refl _ _).alloc (Nat.le_refl _) _).alloc (by simp) _
  clear HT
  go_enter Tryz.func19, Tryz.ntmps19
  go_wp2_with (go_at_call 21; refine (HE.out _ (by first | exact HB0.out | go_grown)).mono ?_; rintro e w1 ⟨rfl, hb1⟩)
  go_ret
  refine ⟨ret_bool (by simp), ?_⟩
  exact HB0.out.trans (hb1.mono HB0.out.size)

section
variable {H : Type} {enc : TypeId × Value → H} {W : World} {base : Nat} {spare : Nat → Bool} {held : Bool}
theorem cInstF : Tryz.prog.cellsOf 41 = 1 := by kernel_rfl
theorem open_Inst (fuel : Nat) (cs : List Value) (y : DataW H × List MemPlace) (hl : cs.length = 2) (h : DataW.trod enc Tryz.prog W base spare held fuel 43 cs = some y) :
    ∃ (i0 : Int) (a : Option Addr) (n c : Nat), cs = [.int .i64 i0, .slice a n c] ∧ (n ≤ c ∧ c ≤ maxLen) ∧ ((-9223372036854775808 ≤ i0 ∧ i0 ≤ 9223372036854775807)) ∧ ∃ k y', DataW.trod enc Tryz.prog W base spare held k 41 [.slice a n c] = some y' := by
  obtain ⟨v0, v1, rfl⟩ := len2 hl
  obtain ⟨xs, k, hk, hxy, _, hxl, hf⟩ := DataW.trod_struct Tryz.underlying43 h
  obtain ⟨y0, y1, rfl⟩ := len2 (show xs.length = 2 from hxl)
  have g0 := hf 0 _ rfl
  have g1 := hf 1 _ rfl
  simp only [cI, cInstF, List.getElem?_cons_zero, List.getElem?_cons_succ] at g0 g1
  simp at g0 g1
  obtain ⟨i0, e0, _, w0⟩ := DataW.trod_int Tryz.underlying3 g0
  have p0 : List.take (Tryz.prog.cellsOf 3) [v0, v1] = [Value.int IntKind.i64 i0] := e0
  rw [cI] at p0
  simp at p0
  subst p0
  have gl : DataW.trod enc Tryz.prog W base spare held k 41 [v1] = some y1 := by rw [cInstF] at g1; exact g1
  obtain ⟨a, n, c, e1⟩ := slice_shape Tryz.underlying41 gl
  simp at e1
  subst e1
  obtain ⟨h1, h2⟩ := slice_caps Tryz.underlying41 gl
  simp only [Lit.wf, Bool.and_eq_true, decide_eq_true_eq] at w0
  exact ⟨i0, a, n, c, rfl, ⟨h1, h2⟩, w0, k, _, gl⟩
end
end Go.Proofs.YtchemhjcknkbgaaGreatDoor
