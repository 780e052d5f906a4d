/- The program's ops: what each does to the stack. -/
import Derived.Test.YtnkeibahaiibpaaGreatDoorBunY6
import Derived.Test.YtnkeibahaiibpaaGreatDoorBunY7
import Derived.BigQuiet
namespace Go.Proofs.YtnkeibahaiibpaaGreatDoor
open Go.RowKit Go.PlainAid
set_option linter.unusedSimpArgs false
set_option linter.unusedVariables false

theorem Stk.alloc {p : Nat} {w : World} {st : List Int} (h : Stk p w st) (o : Obj) : Stk p (w.alloc o) st := by
  have hlt := h.lt
  obtain ⟨v, hc, hf, hown⟩ := h
  exact ⟨v, (World.cell?_alloc_past _ _ _ hlt).trans hc, (World.frozen?_alloc_past _ _ _ hlt).trans hf, hown.alloc _⟩

theorem runNum_any (p : Nat) (k n : Int) (a : Option Addr) (m c : Nat) (st : List Int) (w : World) (hs : Stk p w st) (hl : st.length ≤ 1048576) :
    Calls Tryz.prog 217 #[.pointer (some ⟨p, 0, none⟩), .agg #[.int .i64 k, .int .i64 n], .slice a m c] w fun e w' => e = .returned (.tuple #[]) ∧ Stk p w' (wr32 n :: st) ∧ Below p w w' := by
  have hlt := hs.lt
  have HS : Hid (Stk p w st) := hs
  clear hs
  go_enter Tryz.func217, Tryz.ntmps217
  go_wp2_with fail
  refine (push_any p _ st _ (HS.out.alloc _) hl).mono ?_
  rintro e w1 ⟨rfl, h1, h2⟩
  go_wp2_with fail
  go_end0
  refine ⟨rfl, ?_, ((Below.refl p w).alloc (by omega) _).trans h2⟩
  rw [← wr32_is]; exact h1

theorem runName_any (p : Nat) (n : Nat) (a : Option Addr) (m c : Nat) (vs : List Int) (st : List Int) (w : World) (hs : Stk p w st) (hl : st.length ≤ 1048576) (hv : IsInts p w a m vs) (hn : n < m) (hm : m ≤ 1048576) :
    Calls Tryz.prog 218 #[.pointer (some ⟨p, 0, none⟩), .agg #[.int .i64 2, .int .i64 n], .slice a m c] w fun e w' => e = .returned (.tuple #[]) ∧ Stk p w' (wr32 (vs.getD n 0) :: st) ∧ Below p w w' := by
  have hlt := hs.lt
  obtain ⟨h1, h2⟩ := hv
  rcases h2 with h2 | ⟨b, off, rfl, hb, hc⟩
  · omega
  have hcn := hc n hn
  have HS : Hid (Stk p w st) := hs
  have hbw : b < w.heap.size := by omega
  clear hs hc
  go_enter Tryz.func218, Tryz.ntmps218
  go_wp2_with fail
  refine (push_any p _ st _ (HS.out.alloc _) hl).mono ?_
  rintro e w1 ⟨rfl, h1, h2⟩
  go_wp2_with fail
  go_end0
  refine ⟨rfl, ?_, ((Below.refl p w).alloc (by omega) _).trans h2⟩
  rw [← wr32_is, show vs.getD n 0 = vs[n] from by have : n < vs.length := (by omega); simp [this]]
  exact h1

theorem runAhead_any (p : Nat) (k n x : Int) (a : Option Addr) (m c : Nat) (st : List Int) (w : World) (hk : k = 3 ∨ k = 4) (hs : Stk p w (x :: st)) (hl : st.length ≤ 1048576) :
    Calls Tryz.prog 219 #[.pointer (some ⟨p, 0, none⟩), .agg #[.int .i64 k, .int .i64 n], .slice a m c] w fun e w' => e = .returned (.tuple #[]) ∧ Stk p w' (one k x :: st) ∧ Below p w w' := by
  have hlt := hs.lt
  have HS : Hid (Stk p w (x :: st)) := hs
  have HK : Hid (k = 3 ∨ k = 4) := hk
  clear hs hk
  go_enter Tryz.func219, Tryz.ntmps219
  go_wp2_with fail
  refine (pop_any p x st _ (HS.out.alloc _) hl).mono ?_
  rintro e w1 ⟨rfl, h1, h2, h3, h4⟩
  have H1 : Hid (Stk p w1 st) := h1
  have H2 : Hid (Below p w w1) := ((Below.refl p w).alloc (by omega) _).trans h2
  have c0 := h4 w.heap.size 0 (by omega)
  simp at c0
  clear h1 h2 h3 h4
  go_wp2_with fail
  refine (aheadValue_any k x _ HK.out).mono ?_
  rintro e w2 ⟨rfl, rfl⟩
  go_wp2_with fail
  refine (push_any p _ st _ H1.out hl).mono ?_
  rintro e w3 ⟨rfl, h5, h6⟩
  go_wp2_with fail
  go_end0
  exact ⟨rfl, h5, H2.out.trans h6⟩

theorem runPair_any (p : Nat) (k n x y : Int) (a : Option Addr) (m c : Nat) (st : List Int) (w : World) (hk : 5 ≤ k ∧ k ≤ 13) (hs : Stk p w (y :: x :: st)) (hl : st.length + 1 ≤ 1048576) :
    Calls Tryz.prog 220 #[.pointer (some ⟨p, 0, none⟩), .agg #[.int .i64 k, .int .i64 n], .slice a m c] w fun e w' => e = .returned (.tuple #[]) ∧ Stk p w' (two k x y :: st) ∧ Below p w w' := by
  have hlt := hs.lt
  have HS : Hid (Stk p w (y :: x :: st)) := hs
  have HK : Hid (5 ≤ k ∧ k ≤ 13) := hk
  clear hs hk
  go_enter Tryz.func220, Tryz.ntmps220
  go_wp2_with fail
  refine (pop_any p y (x :: st) _ (HS.out.alloc _) (by simp; omega)).mono ?_
  rintro e w1 ⟨rfl, h1, h2, h3, h4⟩
  have H1 : Hid (Stk p w1 (x :: st)) := h1
  have H2 : Hid (Below p w w1) := ((Below.refl p w).alloc (by omega) _).trans h2
  have c0 := h4 w.heap.size 0 (by omega)
  simp at c0
  clear h1 h2 h3 h4
  go_wp2_with fail
  refine (pop_any p x st _ H1.out (by omega)).mono ?_
  rintro e w2 ⟨rfl, h1, h2, h3, h4⟩
  have H3 : Hid (Stk p w2 st) := h1
  have H4 : Hid (Below p w w2) := H2.out.trans h2
  have c1 := (h4 w.heap.size 0 (by omega)).trans c0
  clear h1 h2 h3 h4 c0
  go_wp2_with fail
  refine (pairValue_any k x y _ HK.out).mono ?_
  rintro e w3 ⟨rfl, rfl⟩
  go_wp2_with fail
  refine (push_any p _ st _ H3.out (by omega)).mono ?_
  rintro e w4 ⟨rfl, h5, h6⟩
  go_wp2_with fail
  go_end0
  exact ⟨rfl, h5, H4.out.trans h6⟩
end Go.Proofs.YtnkeibahaiibpaaGreatDoor

/- The law's copies and comparisons of numbers. -/
namespace Go.Proofs.YtnkeibahaiibpaaGreatDoor
open Go Go.RowKit Go.PlainAid
set_option linter.unusedSimpArgs false
set_option linter.unusedVariables false

set_option maxHeartbeats 400000 in
theorem toIntS_open (B : Nat) (a : Option Addr) (n cap : Nat) (vs : List Int) (w : World) (hn : n ≤ 1048576) (hB : B ≤ w.heap.size) (hz : IsInts B w a n vs) :
    Calls Tryz.prog 32 #[.slice a n cap] w fun e w' => ∃ b, e = .returned (.slice (some ⟨b, 0, none⟩) n n) ∧ w.heap.size ≤ b ∧ IsInts w'.heap.size w' (some ⟨b, 0, none⟩) n vs ∧ Below w.heap.size w w' ∧ Open b n w' := by
  obtain ⟨hlen, hcells⟩ := hz
  obtain ⟨i0, hi, hz0, hz1, hz2⟩ := info_parts infoInt
  have hmk : ∀ u : World, (Instr.makeSlice 44 (.int .i64 (n : Int)) (.int .i64 (n : Int))).run Tryz.prog u =
      .ok (.slice (some ⟨u.heap.size, 0, none⟩) n n) (u.alloc (.cells (madeCells #[.int .i64 0] n) 3)) := fun u => by
    have h := run_make (P := Tryz.prog) u 44 3 i0 (.int .i64 0) Tryz.underlying44 hi hz0 .i64 .i64 (n : Int) (n : Int) (by omega) (Int.le_refl _) (by rw [hz2]; omega) (by omega)
    have e : ((n : Int)).toNat = n := by omega
    rw [e] at h
    simpa [hz1, Value.cells] using h
  go_enter Tryz.func32, Tryz.ntmps32
  go_wp2
  go_loopw [4] (fun i wr => ∃ k : Nat, k ≤ n ∧ i = .int .i64 k ∧ Fill w.heap.size w wr n k (intCell vs)) (fun i _ => n - (intOf i).toNat)
  case atStart =>
    have h := Fill.start w (madeCells #[.int .i64 0] n) 3 (intCell vs)
    rw [size_madeCells] at h
    exact ⟨0, Nat.zero_le _, rfl, h⟩
  case round =>
    obtain ⟨k, hk, rfl, hfill⟩ := hrel
    by_cases hlt : k < n
    · rcases hcells with h0 | ⟨b, off, rfl, hb, hc⟩
      · omega
      have c0 := (hfill.below.cell (p := ⟨b, off + k, none⟩) (by simp; omega)).trans (hc k hlt)
      obtain ⟨x, hx⟩ : ∃ x, vs.getD k 0 = x := ⟨_, rfl⟩
      rw [hx] at c0
      have HX : Hid (vs.getD k 0 = x) := hx
      obtain ⟨v0, f0⟩ := hfill.there k (by omega)
      have hfz := hfill.open_
      have hsz := hfill.lt
      clear hmk hc hx
      go_wp2
      go_roundw
      case rel => exact ⟨k + 1, by omega, by go_num, hfill.store (by omega) (by unfold intCell; rw [HX.out])⟩
      case measure => simp [intOf]; omega
    · have : k = n := by omega
      subst this
      go_wp2
      go_ret
      exact ⟨_, rfl, Nat.le_refl _, ⟨hlen, .inr ⟨_, _, rfl, hfill.lt, fun i hi => by simpa [intCell] using hfill.done i (by omega)⟩⟩, hfill.below, hfill.lt, fun j hj => ⟨hfill.there j hj, hfill.open_ j⟩⟩

theorem toIntS_any (B : Nat) (a : Option Addr) (n cap : Nat) (vs : List Int) (w : World) (hn : n ≤ 1048576) (hB : B ≤ w.heap.size) (hz : IsInts B w a n vs) :
    Calls Tryz.prog 32 #[.slice a n cap] w fun e w' => ∃ b, e = .returned (.slice (some ⟨b, 0, none⟩) n n) ∧ w.heap.size ≤ b ∧ IsInts w'.heap.size w' (some ⟨b, 0, none⟩) n vs ∧ Below w.heap.size w w' :=
  (toIntS_open B a n cap vs w hn hB hz).mono fun _ _ ⟨b, h1, h2, h3, h4, _⟩ => ⟨b, h1, h2, h3, h4⟩

theorem eqIntS_same (a a' : Option Addr) (n cap cap' : Nat) (vs : List Int) (w : World) (hn : n ≤ 1048576) (hz : IsInts w.heap.size w a n vs) (hz' : IsInts w.heap.size w a' n vs) :
    Calls Tryz.prog 35 #[.slice a n cap, .slice a' n cap'] w fun e w' => e = .returned (.bool true) ∧ Below w.heap.size w w' := by
  obtain ⟨hlen, hcells⟩ := hz
  obtain ⟨_, hcells'⟩ := hz'
  go_enter Tryz.func35, Tryz.ntmps35
  go_wp2
  go_loopw [5] (fun i wr => ∃ k : Nat, k ≤ n ∧ i = .int .i64 k ∧ Below w.heap.size w wr) (fun i _ => n - (intOf i).toNat)
  case atStart => exact ⟨0, Nat.zero_le _, rfl, Below.refl _ _⟩
  case round =>
    obtain ⟨k, hk, rfl, hbel⟩ := hrel
    by_cases hlt : k < n
    · rcases hcells with h0 | ⟨b, off, rfl, hb, hc⟩
      · omega
      rcases hcells' with h0 | ⟨b', off', rfl, hb', hc'⟩
      · omega
      obtain ⟨x, hx⟩ : ∃ x, vs.getD k 0 = x := ⟨_, rfl⟩
      have c0 := (hbel.cell (p := ⟨b, off + k, none⟩) hb).trans (hc k hlt)
      have d0 := (hbel.cell (p := ⟨b', off' + k, none⟩) hb').trans (hc' k hlt)
      rw [hx] at c0 d0
      clear hc hc' hx
      go_wp2
      go_quiet (fail)
      go_wp2
      go_roundw
      case rel => exact ⟨k + 1, by omega, by go_num, drewN hbel _⟩
      case measure => simp [intOf]; omega
    · go_wp2
      go_ret
      exact ⟨rfl, hbel⟩

end Go.Proofs.YtnkeibahaiibpaaGreatDoor
