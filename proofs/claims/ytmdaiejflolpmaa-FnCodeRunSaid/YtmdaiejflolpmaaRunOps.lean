/- The program's ops: what each does to the stack. -/
import Derived.Test.YtmdaiejflolpmaaStack
namespace Go.Proofs.Ytmdaiejflolpmaa
open Go.RowKit Go.PlainAid
set_option linter.unusedSimpArgs false
set_option linter.unusedVariables false

theorem Stk.alloc {p : Nat} {w : World} {st : List Int} (h : Stk p w st) (o : Obj) : Stk p (w.alloc o) st := by
  have hlt := h.lt
  obtain ⟨v, hc, hf, hown⟩ := h
  exact ⟨v, (World.cell?_alloc_past _ _ _ hlt).trans hc, (World.frozen?_alloc_past _ _ _ hlt).trans hf, hown.alloc _⟩

/-- the slice (a, n), below block B, reads in w as these numbers -/
def IsInts (B : Nat) (w : World) (a : Option Addr) (n : Nat) (vs : List Int) : Prop :=
  vs.length = n ∧ (n = 0 ∨ ∃ b off, a = some ⟨b, off, none⟩ ∧ b < B ∧ ∀ i, i < n → w.cell? ⟨b, off + i, none⟩ = some (.int .i64 (vs.getD i 0)))
theorem IsInts.below {B : Nat} {w w' : World} {a : Option Addr} {n : Nat} {vs : List Int} (h : IsInts B w a n vs) (hb : Below B w w') : IsInts B w' a n vs := by
  obtain ⟨h1, h2⟩ := h
  refine ⟨h1, ?_⟩
  rcases h2 with h2 | ⟨b, off, rfl, hlt, hc⟩
  · exact .inl h2
  · exact .inr ⟨b, off, rfl, hlt, fun i hi => (hb.cell hlt).trans (hc i hi)⟩
theorem IsInts.mono {B B' : Nat} {w : World} {a : Option Addr} {n : Nat} {vs : List Int} (h : IsInts B w a n vs) (hb : B ≤ B') : IsInts B' w a n vs := by
  obtain ⟨h1, h2⟩ := h
  refine ⟨h1, ?_⟩
  rcases h2 with h2 | ⟨b, off, rfl, hlt, hc⟩
  · exact .inl h2
  · exact .inr ⟨b, off, rfl, by omega, hc⟩

theorem runNum_any (p : Nat) (k n : Int) (a : Option Addr) (m c : Nat) (st : List Int) (w : World) (hs : Stk p w st) (hl : st.length ≤ 1048576) :
    Calls Try.prog 38 #[.pointer (some ⟨p, 0, none⟩), .agg #[.int .i64 k, .int .i64 n], .slice a m c] w fun e w' => e = .returned (.tuple #[]) ∧ Stk p w' (wr32 n :: st) ∧ Below p w w' := by
  have hlt := hs.lt
  have HS : Hid (Stk p w st) := hs
  clear hs
  go_enter Try.func38, Try.ntmps38
  go_wp2_with fail
  refine (push_any p _ st _ (HS.out.alloc _) hl).mono ?_
  rintro e w1 ⟨rfl, h1, h2⟩
  go_wp2_with fail
  go_end0
  refine ⟨rfl, ?_, ((Below.refl p w).alloc (by omega) _).trans h2⟩
  rw [← wr32_is]; exact h1

theorem runName_any (p : Nat) (n : Nat) (a : Option Addr) (m c : Nat) (vs : List Int) (st : List Int) (w : World) (hs : Stk p w st) (hl : st.length ≤ 1048576) (hv : IsInts p w a m vs) (hn : n < m) (hm : m ≤ 1048576) :
    Calls Try.prog 39 #[.pointer (some ⟨p, 0, none⟩), .agg #[.int .i64 2, .int .i64 n], .slice a m c] w fun e w' => e = .returned (.tuple #[]) ∧ Stk p w' (wr32 (vs.getD n 0) :: st) ∧ Below p w w' := by
  have hlt := hs.lt
  obtain ⟨h1, h2⟩ := hv
  rcases h2 with h2 | ⟨b, off, rfl, hb, hc⟩
  · omega
  have hcn := hc n hn
  have HS : Hid (Stk p w st) := hs
  have hbw : b < w.heap.size := by omega
  clear hs hc
  go_enter Try.func39, Try.ntmps39
  go_wp2_with fail
  refine (push_any p _ st _ (HS.out.alloc _) hl).mono ?_
  rintro e w1 ⟨rfl, h1, h2⟩
  go_wp2_with fail
  go_end0
  refine ⟨rfl, ?_, ((Below.refl p w).alloc (by omega) _).trans h2⟩
  rw [← wr32_is, show vs.getD n 0 = vs[n] from by have : n < vs.length := (by omega); simp [this]]
  exact h1

theorem runAhead_any (p : Nat) (k n x : Int) (a : Option Addr) (m c : Nat) (st : List Int) (w : World) (hk : k = 3 ∨ k = 4) (hs : Stk p w (x :: st)) (hl : st.length ≤ 1048576) :
    Calls Try.prog 40 #[.pointer (some ⟨p, 0, none⟩), .agg #[.int .i64 k, .int .i64 n], .slice a m c] w fun e w' => e = .returned (.tuple #[]) ∧ Stk p w' (one k x :: st) ∧ Below p w w' := by
  have hlt := hs.lt
  have HS : Hid (Stk p w (x :: st)) := hs
  have HK : Hid (k = 3 ∨ k = 4) := hk
  clear hs hk
  go_enter Try.func40, Try.ntmps40
  go_wp2_with fail
  refine (pop_any p x st _ (HS.out.alloc _) hl).mono ?_
  rintro e w1 ⟨rfl, h1, h2, h3, h4⟩
  have H1 : Hid (Stk p w1 st) := h1
  have H2 : Hid (Below p w w1) := ((Below.refl p w).alloc (by omega) _).trans h2
  have c0 := h4 w.heap.size 0 (by omega)
  simp at c0
  clear h1 h2 h3 h4
  go_wp2_with fail
  refine (aheadValue_any k x _ HK.out).mono ?_
  rintro e w2 ⟨rfl, rfl⟩
  go_wp2_with fail
  refine (push_any p _ st _ H1.out hl).mono ?_
  rintro e w3 ⟨rfl, h5, h6⟩
  go_wp2_with fail
  go_end0
  exact ⟨rfl, h5, H2.out.trans h6⟩

theorem runPair_any (p : Nat) (k n x y : Int) (a : Option Addr) (m c : Nat) (st : List Int) (w : World) (hk : 5 ≤ k ∧ k ≤ 13) (hs : Stk p w (y :: x :: st)) (hl : st.length + 1 ≤ 1048576) :
    Calls Try.prog 41 #[.pointer (some ⟨p, 0, none⟩), .agg #[.int .i64 k, .int .i64 n], .slice a m c] w fun e w' => e = .returned (.tuple #[]) ∧ Stk p w' (two k x y :: st) ∧ Below p w w' := by
  have hlt := hs.lt
  have HS : Hid (Stk p w (y :: x :: st)) := hs
  have HK : Hid (5 ≤ k ∧ k ≤ 13) := hk
  clear hs hk
  go_enter Try.func41, Try.ntmps41
  go_wp2_with fail
  refine (pop_any p y (x :: st) _ (HS.out.alloc _) (by simp; omega)).mono ?_
  rintro e w1 ⟨rfl, h1, h2, h3, h4⟩
  have H1 : Hid (Stk p w1 (x :: st)) := h1
  have H2 : Hid (Below p w w1) := ((Below.refl p w).alloc (by omega) _).trans h2
  have c0 := h4 w.heap.size 0 (by omega)
  simp at c0
  clear h1 h2 h3 h4
  go_wp2_with fail
  refine (pop_any p x st _ H1.out (by omega)).mono ?_
  rintro e w2 ⟨rfl, h1, h2, h3, h4⟩
  have H3 : Hid (Stk p w2 st) := h1
  have H4 : Hid (Below p w w2) := H2.out.trans h2
  have c1 := (h4 w.heap.size 0 (by omega)).trans c0
  clear h1 h2 h3 h4 c0
  go_wp2_with fail
  refine (pairValue_any k x y _ HK.out).mono ?_
  rintro e w3 ⟨rfl, rfl⟩
  go_wp2_with fail
  refine (push_any p _ st _ H3.out (by omega)).mono ?_
  rintro e w4 ⟨rfl, h5, h6⟩
  go_wp2_with fail
  go_end0
  exact ⟨rfl, h5, H4.out.trans h6⟩
end Go.Proofs.Ytmdaiejflolpmaa
