/- ClockNext of the program. -/
import Derived.Test.YtlpdilmdhfemdaaComing2
import Derived.Test.YtlpdilmdhfemdaaBeatOkP
namespace Go.Proofs.Ytlpdilmdhfemdaa
open Go Go.RowKit Go.PlainAid Go.Shelf
set_option linter.unusedSimpArgs false
set_option linter.unusedVariables false
attribute [local go_sem] Oper.semAt_some

/-- what comes next, as data -/
def nextM (l : List Bt) (t : Int) : Int × Int := if (btsB l && decide (0 ≤ t ∧ t ≤ 9999)) = true ∧ l ≠ [] then fireP (l.map (pulM t)) else (0, 0)
def isNextM (l : List Bt) (t : Int) : Bool := btsB l && decide (0 ≤ t ∧ t ≤ 9999) && decide (l ≠ [])
def fireO (x y : Int) : Obj := .cells #[.int .i64 x, .int .i64 y] 32 (0, 0)
def boolO (b : Bool) : Obj := .cells #[.bool b] 4 (0, 0)
theorem obj_cell {W : World} {b : Nat} {cs : Array Value} {t : TypeId} (h : W.heap[b]? = some (.cells cs t (0, 0))) (j : Nat) : W.cell? ⟨b, j, none⟩ = cs[j]? ∧ W.frozen? ⟨b, j, none⟩ = false := by
  refine ⟨?_, ?_⟩
  · cases hj : cs[j]? with
    | none => simp [World.cell?, h, hj]
    | some u => simp [World.cell?, h, hj]
  · simp [World.frozen?, h]

theorem obj_other {X : World} {D b : Nat} (o : Obj) (j : Nat) (h : b ≠ D) : (X.putObj D o).cell? ⟨b, j, none⟩ = X.cell? ⟨b, j, none⟩ := World.cell?_of_block (World.putObj_heap_other h)
theorem below_obj {L : Nat} {w X : World} {D : Nat} (o : Obj) (h : Below L w X) (hD : L ≤ D) : Below L w (X.putObj D o) :=
  ⟨h.os, h.tape, h.output, by simpa using h.size, fun k hk => (World.putObj_heap_other (by omega)).trans (h.block k hk)⟩
theorem two_boxes {w W : World} {A B : Obj} (h : Below ((w.alloc A).alloc B).heap.size ((w.alloc A).alloc B) W) : W.heap[w.heap.size]? = some A ∧ W.heap[w.heap.size + 1]? = some B ∧ Below w.heap.size w W ∧ w.heap.size + 2 ≤ W.heap.size := by
  have h0 := World.alloc_heap_new w A
  have h1 := World.alloc_heap_new (w.alloc A) B
  rw [World.size_alloc] at h1
  have hs := h.size
  simp only [World.size_alloc] at hs
  refine ⟨(h.block _ (by simp; omega)).trans ((Below.heap_alloc _ _ _ (by simp)).trans h0), (h.block _ (by simp)).trans h1, below_boxed (below_boxed h), hs⟩

set_option maxRecDepth 100000 in
set_option maxHeartbeats 4000000 in
theorem implClockNext_any (B : Nat) (a : Option Addr) (n c : Nat) (l : List Bt) (t : Int) (w : World) (hB : B ≤ w.heap.size) (hn : n ≤ 1048576) (hz : IsBts B w a n l) :
    Calls Try.prog 16 #[.slice a n c, .int .i64 t] w fun e w' => e = .returned (.tuple #[.agg #[.int .i64 (nextM l t).1, .int .i64 (nextM l t).2], .bool (isNextM l t)]) ∧ Below w.heap.size w w' := by
  have HZ := hidOf hz
  refine (callsIn_wide (n := 7)).1 ?_
  have HOK : Hid (∀ W, Below w.heap.size w W → Calls Try.prog 13 #[.slice a n c] W fun e w' => e = .returned (.bool (btsB l)) ∧ Below W.heap.size W w') := fun W hb => implClockOk_any B a n c l W (Nat.le_trans hB hb.size) hn (hz.belowBt (hb.mono hB))
  clear hz
  have HT := hidOf (isTime_any t)
  cases hok : btsB l with
  | false =>
    have hN : nextM l t = (0, 0) := by simp [nextM, hok]
    have hI : isNextM l t = false := by simp [isNextM, hok]
    rw [hok] at HOK
    rw [hN, hI]
    clear hN hI
    refine callsIn_of_wp_marks Try.func16 rfl trivial ?_ rfl
    simp only [Try.ntmps16, List.size_toArray, List.length_cons, List.length_nil, Nat.reduceAdd, Nat.reduceSub, Array.replicate_succ, Array.replicate_zero, List.push_toArray, List.append_toArray, List.nil_append, List.cons_append]
    gi_wp2_with fail
    refine ⟨trivial, (callsIn_wide.2 (HOK.out _ (by go_grown))).mono ?_⟩
    rintro e w1 ⟨rfl, hb1⟩
    obtain ⟨o0, o1, hbw, hsw⟩ := two_boxes hb1
    have HB1 := hidOf hbw
    have g0 : w1.cell? ⟨w.heap.size, 0, none⟩ = some (.int .i64 0) := (obj_cell o0 0).1
    have g1 : w1.cell? ⟨w.heap.size, 1, none⟩ = some (.int .i64 0) := (obj_cell o0 1).1
    have g2 : w1.cell? ⟨w.heap.size + 1, 0, none⟩ = some (.bool false) := (obj_cell o1 0).1
    have f0 := (obj_cell o0 0).2
    have f1 := (obj_cell o0 1).2
    have f2 := (obj_cell o1 0).2
    clear hb1 o0 o1 hbw
    gi_wp2_with fail
    refine ⟨trivial, ?_⟩
    gi_wp2_with fail
    have c0 : ((((w1.setCell ⟨w.heap.size, 0, none⟩ (.int .i64 0)).setCell ⟨w.heap.size, 1, none⟩ (.int .i64 0)).setCell ⟨w.heap.size + 1, 0, none⟩ (.bool false)).cell? ⟨w.heap.size, 0, none⟩) = some (.int .i64 0) := by simp [go_sem, g0, g1, g2]
    have c1 : ((((w1.setCell ⟨w.heap.size, 0, none⟩ (.int .i64 0)).setCell ⟨w.heap.size, 1, none⟩ (.int .i64 0)).setCell ⟨w.heap.size + 1, 0, none⟩ (.bool false)).cell? ⟨w.heap.size, 1, none⟩) = some (.int .i64 0) := by simp [go_sem, g0, g1, g2]
    have c2 : ((((w1.setCell ⟨w.heap.size, 0, none⟩ (.int .i64 0)).setCell ⟨w.heap.size, 1, none⟩ (.int .i64 0)).setCell ⟨w.heap.size + 1, 0, none⟩ (.bool false)).cell? ⟨w.heap.size + 1, 0, none⟩) = some (.bool false) := by simp [go_sem, g0, g1, g2]
    refine ⟨_, by simp [results, Try.results16, go_sem, c0, c1, c2]; try rfl, rfl, ?_⟩
    exact ((HB1.out.setCell (by simp) _).setCell (by simp) _).setCell (by simp) _
  | true =>
    rw [hok] at HOK
    have hlall : ∀ x ∈ l, btB x = true := by
      have h : l.all btB = true ∧ l.length ≤ 3 := by simpa [btsB] using hok
      exact fun x hx => List.all_eq_true.1 h.1 x hx
    by_cases ht : 0 ≤ t ∧ t ≤ 9999
    · have HT' : Hid (∀ W, Calls Try.prog 36 #[.int .i64 t] W fun e w' => e = .returned (.bool true) ∧ w' = W) := fun W => (HT.out W).mono (fun e w' h => ⟨by rw [h.1, decide_eq_true ht], h.2⟩)
      have HNX : Hid (l ≠ [] → nextM l t = fireP (l.map (pulM t)) ∧ isNextM l t = true) := fun hne => ⟨by simp [nextM, hok, ht, hne], by simp [isNextM, hok, ht, hne]⟩
      have HNE : Hid (l = [] → nextM l t = (0, 0) ∧ isNextM l t = false) := fun hne => ⟨by simp [nextM, hne], by simp [isNextM, hne]⟩
      obtain ⟨⟨F0, F1⟩, hF⟩ : ∃ r, nextM l t = r := ⟨_, rfl⟩
      obtain ⟨FB, hFB⟩ : ∃ r, isNextM l t = r := ⟨_, rfl⟩
      rw [hF, hFB] at HNX HNE ⊢
      have HC := hidOf (coming_any a n c t)
      have HLL := hidOf hlall
      have HTT := hidOf ht
      clear hF hFB hlall ht hok HT
      refine callsIn_of_wp_marks Try.func16 rfl trivial ?_ rfl
      simp only [Try.ntmps16, List.size_toArray, List.length_cons, List.length_nil, Nat.reduceAdd, Nat.reduceSub, Array.replicate_succ, Array.replicate_zero, List.push_toArray, List.append_toArray, List.nil_append, List.cons_append]
      gi_wp2_with fail
      refine ⟨trivial, (callsIn_wide.2 (HOK.out _ (by go_grown))).mono ?_⟩
      rintro e w1 ⟨rfl, hb1⟩
      obtain ⟨o0, o1, hbw, hsw⟩ := two_boxes hb1
      have HB1 := hidOf hbw
      have O0 := hidOf o0
      have O1 := hidOf o1
      have HSW := hidOf hsw
      clear hb1 o0 o1 hbw hsw
      gi_wp2_with fail
      refine ⟨trivial, (callsIn_wide.2 (HT'.out _)).mono ?_⟩
      rintro e w2 ⟨rfl, rfl⟩
      gi_wp2_with fail
      refine ⟨trivial, (callsIn_wide.2 (HC.out _)).mono ?_⟩
      rintro e w3 ⟨rfl, rfl⟩
      gi_wp2_with fail
      obtain ⟨WR, hWR⟩ : ∃ W, (w2.alloc (.cells #[.slice a n c] 23)).alloc (.cells #[.int .i64 t] 3) = W := ⟨_, rfl⟩
      have hR0 : WR.heap.size = w2.heap.size + 2 := by rw [← hWR]; simp
      have hBR : Below w2.heap.size w2 WR := by rw [← hWR]; exact ((Below.refl _ _).alloc (Nat.le_refl _) _).alloc (by simp) _
      have c1 : WR.cell? ⟨w2.heap.size, 0, none⟩ = some (.slice a n c) := by rw [← hWR]; simp
      have c2 : WR.cell? ⟨w2.heap.size + 1, 0, none⟩ = some (.int .i64 t) := by
        rw [← hWR]
        simp
      rw [hWR]
      have hsw := HSW.out
      have HBW : Hid (Below w.heap.size w WR) := HB1.out.trans (hBR.mono HB1.out.size)
      have OR0 : Hid (WR.heap[w.heap.size]? = some (fireO 0 0)) := (hBR.block _ (by omega)).trans O0.out
      have OR1 : Hid (WR.heap[w.heap.size + 1]? = some (boolO false)) := (hBR.block _ (by omega)).trans O1.out
      have hS := comingStream 6 B a n c l t w2.heap.size (w2.heap.size + 1) WR (by have := HB1.out.size; omega) hn (HZ.out.belowBt (HBW.out.mono hB)) HLL.out HTT.out (by omega) (by omega) c1 c2
      clear hWR c1 c2 hBR
      refine wpIn_range_st rfl (by omega) (gf := 41) (lb := #[.pointer (some ⟨w2.heap.size, 0, none⟩), .pointer (some ⟨w2.heap.size + 1, 0, none⟩)]) rfl trivial (enters_of Try.func41 (by kernel_rfl) rfl) hS (Below.refl _ _) (fun _ => rfl)
        (fun h k W => k = 0 ∧ WR.heap.size ≤ h ∧ h ≤ W.heap.size ∧ Below w.heap.size w W ∧ W.heap[w.heap.size]? = some (fireO 0 0) ∧ W.heap[w.heap.size + 1]? = some (boolO false))
        (fun cc h k W => cc = .ret ∧ l ≠ [] ∧ h ≤ W.heap.size ∧ Below w.heap.size w W ∧ W.cell? ⟨w.heap.size, 0, none⟩ = some (.int .i64 F0) ∧ W.cell? ⟨w.heap.size, 1, none⟩ = some (.int .i64 F1) ∧ W.cell? ⟨w.heap.size + 1, 0, none⟩ = some (.bool true))
        (fun h k a' W => k = 0 ∧ WR.heap.size ≤ h ∧ h ≤ W.heap.size ∧ Below w.heap.size w W ∧ W.heap[w.heap.size]? = some (fireO 0 0) ∧ W.heap[w.heap.size + 1]? = some (boolO false) ∧
          ∃ Bx, h ≤ Bx ∧ W.heap[Bx]? = some (fireO (fireP (l.map (pulM t))).1 (fireP (l.map (pulM t))).2) ∧
            a' = { tmps := #[.slice a n c, .int .i64 t, undef, undef, .pointer (some ⟨w.heap.size, 0, none⟩), .pointer (some ⟨w.heap.size + 1, 0, none⟩), .pointer (some ⟨Bx, 0, none⟩), .slice a n c, .bool true, .bool false, .bool false, .int .i64 t, .bool true, .bool false, .bool false, undef, .slice a n c, .int .i64 t,
              .func (Fn.func 41) #[] #[.pointer (some ⟨w2.heap.size, 0, none⟩), .pointer (some ⟨w2.heap.size + 1, 0, none⟩)], .agg #[.int .i64 (fireP (l.map (pulM t))).1, .int .i64 (fireP (l.map (pulM t))).2], undef, undef], defers := [] })
        0 (by omega)
        (fun h k A B' hi ht => ⟨hi.1, hi.2.1, Nat.le_trans hi.2.2.1 ht.size, hi.2.2.2.1.trans ((ht.below (by omega)).mono (by omega)), (ht.block _ (by omega) (.inl (by omega))).trans hi.2.2.2.2.1, (ht.block _ (by omega) (.inl (by omega))).trans hi.2.2.2.2.2⟩)
        (fun cc h k A B' hi ht => by
          obtain ⟨h1, h2, h3, h4, h5, h6, h7⟩ := hi
          have hb0 : w.heap.size + 1 < A.heap.size := World.block_lt_of_cell? _ _ h7
          exact ⟨h1, h2, Nat.le_trans h3 ht.size, ⟨ht.os.trans h4.os, ht.tape.trans h4.tape, ht.output.trans h4.output, Nat.le_trans h4.size ht.size, fun j hj => (ht.block j (by omega) (.inl (by omega))).trans (h4.block j hj)⟩,
            (World.cell?_of_block (ht.block w.heap.size (by omega) (.inl (by omega)))).trans h5, (World.cell?_of_block (ht.block w.heap.size (by omega) (.inl (by omega)))).trans h6, (World.cell?_of_block (ht.block (w.heap.size + 1) (by omega) (.inl (by omega)))).trans h7⟩)
        (fun h k a' A B' hi ht => by
          obtain ⟨h1, h2, h3, h4, h5, h6, Bx, h7, h8, h9⟩ := hi
          have hbx := (Array.getElem?_eq_some_iff.1 h8).1
          exact ⟨h1, h2, Nat.le_trans h3 ht.size, h4.trans ((ht.below (by omega)).mono (by omega)), (ht.block _ (by omega) (.inl (by omega))).trans h5, (ht.block _ (by omega) (.inl (by omega))).trans h6, Bx, h7, (ht.block _ hbx (.inr h7)).trans h8, h9⟩)
        (fun h k A hi => hi.2.2.1) (fun h k a' A hi => hi.2.2.1)
        (fun B' hb hs => ⟨rfl, by omega, Nat.le_refl _, HBW.out.trans (hb.mono HBW.out.size), (hb.block _ (by omega)).trans OR0.out, (hb.block _ (by omega)).trans OR1.out⟩)
        ?assign ?body ?done ?stop
      case assign =>
        rintro l' h k W K ⟨rfl, h2, h3, h4, h5, h6⟩ hK
        have hen : encF (l.map (pulM t)) 0 = #[.agg #[.int .i64 (fireP (l.map (pulM t))).1, .int .i64 (fireP (l.map (pulM t))).2]] := rfl
        rw [hen]
        gi_wp2
        refine hK _ _ ((Stay.refl _ _ _).alloc h3 _) ⟨trivial, h2, by simp; omega, h4.alloc (by have := h4.size; omega) _, (Below.heap_alloc _ _ _ (by omega)).trans h5, (Below.heap_alloc _ _ _ (by omega)).trans h6, W.heap.size, h3, World.alloc_heap_new W _, rfl⟩
      case body =>
        rintro l' h k a' W hnE ⟨rfl, h2, h3, h4, h5, h6, Bx, h7, h8, rfl⟩
        obtain ⟨hF0, hF1⟩ := HNX.out hnE
        rw [← hF0] at h8
        have x0 : W.cell? ⟨Bx, 0, none⟩ = some (.int .i64 F0) := (obj_cell h8 0).1
        have x1 : W.cell? ⟨Bx, 1, none⟩ = some (.int .i64 F1) := (obj_cell h8 1).1
        have g0 : W.cell? ⟨w.heap.size, 0, none⟩ = some (.int .i64 0) := (obj_cell h5 0).1
        have g1 : W.cell? ⟨w.heap.size, 1, none⟩ = some (.int .i64 0) := (obj_cell h5 1).1
        have g2 : W.cell? ⟨w.heap.size + 1, 0, none⟩ = some (.bool false) := (obj_cell h6 0).1
        have f0 := (obj_cell h5 0).2
        have f1 := (obj_cell h5 1).2
        have f2 := (obj_cell h6 0).2
        have H4 := hidOf h4
        clear h5 h6 h8 h4
        gi_wp2
        exact ⟨(((Stay.refl _ _ _).setCell (.inl (by show w.heap.size < _; omega)) _).setCell (.inl (by show w.heap.size < _; omega)) _).setCell (.inl (by show w.heap.size + 1 < _; omega)) _, rfl, hnE, by simp [World.setCell]; omega, ((H4.out.setCell (by simp) _).setCell (by simp) _).setCell (by simp) _, by simp [go_sem, g0, g1, g2], by simp [go_sem, g0, g1, g2], by simp [go_sem, g0, g1, g2]⟩
      case done =>
        rintro D h W hD1 hD2 hE ⟨_, h2, h3, h4, h5, h6⟩ hK
        obtain ⟨hF0, hF1⟩ := HNE.out hE
        have g0 : W.cell? ⟨w.heap.size, 0, none⟩ = some (.int .i64 0) := (obj_cell h5 0).1
        have g1 : W.cell? ⟨w.heap.size, 1, none⟩ = some (.int .i64 0) := (obj_cell h5 1).1
        have g2 : W.cell? ⟨w.heap.size + 1, 0, none⟩ = some (.bool false) := (obj_cell h6 0).1
        have f0 := (obj_cell h5 0).2
        have f1 := (obj_cell h5 1).2
        have f2 := (obj_cell h6 0).2
        have H4 := hidOf h4
        have HKD := hidOf hK
        clear h5 h6 h4 hK
        gi_wp2
        cases hF0
        cases hF1
        obtain ⟨X, hX⟩ : ∃ X, ((W.setCell ⟨w.heap.size, 0, none⟩ (.int .i64 0)).setCell ⟨w.heap.size, 1, none⟩ (.int .i64 0)).setCell ⟨w.heap.size + 1, 0, none⟩ (.bool false) = X := ⟨_, rfl⟩
        have k0 : X.cell? ⟨w.heap.size, 0, none⟩ = some (.int .i64 0) := by rw [← hX]; simp [go_sem, g0, g1, g2]
        have k1 : X.cell? ⟨w.heap.size, 1, none⟩ = some (.int .i64 0) := by rw [← hX]; simp [go_sem, g0, g1, g2]
        have k2 : X.cell? ⟨w.heap.size + 1, 0, none⟩ = some (.bool false) := by rw [← hX]; simp [go_sem, g0, g1, g2]
        have kD : X.heap[D]? = some (.deferred (some [])) := by
          rw [← hX, Below.heap_setCell _ _ _ _ (by show D ≠ w.heap.size + 1; omega), Below.heap_setCell _ _ _ _ (by show D ≠ w.heap.size; omega), Below.heap_setCell _ _ _ _ (by show D ≠ w.heap.size; omega)]
          exact HKD.out
        have kB : Below w.heap.size w X := by rw [← hX]; exact ((H4.out.setCell (by simp) _).setCell (by simp) _).setCell (by simp) _
        rw [hX]
        refine ⟨by simp, .inl ⟨_, _, rfl, run_takeDeferred kD, ?_⟩⟩
        have m0 := (obj_other (X := X) (D := D) (.deferred none) 0 (show w.heap.size ≠ D by omega)).trans k0
        have m1 := (obj_other (X := X) (D := D) (.deferred none) 1 (show w.heap.size ≠ D by omega)).trans k1
        have m2 := (obj_other (X := X) (D := D) (.deferred none) 0 (show w.heap.size + 1 ≠ D by omega)).trans k2
        exact ⟨_, by simp [results, Try.results16, go_sem, m0, m1, m2]; try rfl, rfl, below_obj _ kB (by omega)⟩
      case stop =>
        rintro D h k cc W hD1 hD2 ⟨rfl, hne, h3, h4, h5, h6, h7⟩ hK
        have H4 := hidOf h4
        have HKD := hidOf hK
        clear h4 hK
        gi_wp2
        have hFB := (HNX.out hne).2
        subst hFB
        refine ⟨by simp, .inl ⟨_, _, rfl, run_takeDeferred HKD.out, ?_⟩⟩
        have m0 := (obj_other (X := W) (D := D) (.deferred none) 0 (show w.heap.size ≠ D by omega)).trans h5
        have m1 := (obj_other (X := W) (D := D) (.deferred none) 1 (show w.heap.size ≠ D by omega)).trans h6
        have m2 := (obj_other (X := W) (D := D) (.deferred none) 0 (show w.heap.size + 1 ≠ D by omega)).trans h7
        exact ⟨_, by simp [results, Try.results16, go_sem, m0, m1, m2]; try rfl, rfl, below_obj _ H4.out (by omega)⟩
    · have hN : nextM l t = (0, 0) := by simp [nextM, ht]
      have hI : isNextM l t = false := by simp [isNextM, ht]
      have HT' : Hid (∀ W, Calls Try.prog 36 #[.int .i64 t] W fun e w' => e = .returned (.bool false) ∧ w' = W) := fun W => (HT.out W).mono (fun e w' h => ⟨by rw [h.1, decide_eq_false ht], h.2⟩)
      rw [hN, hI]
      clear hN hI hlall HT ht
      refine callsIn_of_wp_marks Try.func16 rfl trivial ?_ rfl
      simp only [Try.ntmps16, List.size_toArray, List.length_cons, List.length_nil, Nat.reduceAdd, Nat.reduceSub, Array.replicate_succ, Array.replicate_zero, List.push_toArray, List.append_toArray, List.nil_append, List.cons_append]
      gi_wp2_with fail
      refine ⟨trivial, (callsIn_wide.2 (HOK.out _ (by go_grown))).mono ?_⟩
      rintro e w1 ⟨rfl, hb1⟩
      obtain ⟨o0, o1, hbw, hsw⟩ := two_boxes hb1
      have HB1 := hidOf hbw
      have g0 : w1.cell? ⟨w.heap.size, 0, none⟩ = some (.int .i64 0) := (obj_cell o0 0).1
      have g1 : w1.cell? ⟨w.heap.size, 1, none⟩ = some (.int .i64 0) := (obj_cell o0 1).1
      have g2 : w1.cell? ⟨w.heap.size + 1, 0, none⟩ = some (.bool false) := (obj_cell o1 0).1
      have f0 := (obj_cell o0 0).2
      have f1 := (obj_cell o0 1).2
      have f2 := (obj_cell o1 0).2
      clear hb1 o0 o1 hbw
      gi_wp2_with fail
      refine ⟨trivial, (callsIn_wide.2 (HT'.out _)).mono ?_⟩
      rintro e w2 ⟨rfl, rfl⟩
      gi_wp2_with fail
      have c0 : ((((w2.setCell ⟨w.heap.size, 0, none⟩ (.int .i64 0)).setCell ⟨w.heap.size, 1, none⟩ (.int .i64 0)).setCell ⟨w.heap.size + 1, 0, none⟩ (.bool false)).cell? ⟨w.heap.size, 0, none⟩) = some (.int .i64 0) := by simp [go_sem, g0, g1, g2]
      have c1 : ((((w2.setCell ⟨w.heap.size, 0, none⟩ (.int .i64 0)).setCell ⟨w.heap.size, 1, none⟩ (.int .i64 0)).setCell ⟨w.heap.size + 1, 0, none⟩ (.bool false)).cell? ⟨w.heap.size, 1, none⟩) = some (.int .i64 0) := by simp [go_sem, g0, g1, g2]
      have c2 : ((((w2.setCell ⟨w.heap.size, 0, none⟩ (.int .i64 0)).setCell ⟨w.heap.size, 1, none⟩ (.int .i64 0)).setCell ⟨w.heap.size + 1, 0, none⟩ (.bool false)).cell? ⟨w.heap.size + 1, 0, none⟩) = some (.bool false) := by simp [go_sem, g0, g1, g2]
      refine ⟨_, by simp [results, Try.results16, go_sem, c0, c1, c2]; try rfl, rfl, ?_⟩
      exact ((HB1.out.setCell (by simp) _).setCell (by simp) _).setCell (by simp) _
end Go.Proofs.Ytlpdilmdhfemdaa
