/- A range over an iterator that keeps memory of its own and writes into it between two rounds: what each side owes the other is said by the blocks' numbers: from lo to h the loop and its iterator write, and nobody else. -/
import Derived.RangeFuncLeaves
import Derived.RangeFuncCalls
import Derived.Below
namespace Go.Proofs.Ytlpdilmdhfemdaa
open Go Go.RowKit
set_option linter.unusedSimpArgs false
set_option linter.unusedVariables false

/-- from A to B of what lay nothing was turned but blocks from lo on and ahead of hi -/
structure Turned (lo hi : Nat) (A B : World) : Prop where
  os : B.os = A.os
  tape : B.tape = A.tape
  output : B.output = A.output
  size : A.heap.size ≤ B.heap.size
  block : ∀ k, k < A.heap.size → (k < lo ∨ hi ≤ k) → B.heap[k]? = A.heap[k]?
theorem Turned.refl (lo hi : Nat) (A : World) : Turned lo hi A A := ⟨rfl, rfl, rfl, Nat.le_refl _, fun _ _ _ => rfl⟩
theorem Turned.trans {lo hi : Nat} {A B C : World} (h : Turned lo hi A B) (k : Turned lo hi B C) : Turned lo hi A C :=
  ⟨k.os.trans h.os, k.tape.trans h.tape, k.output.trans h.output, Nat.le_trans h.size k.size, fun i hi hn => (k.block i (Nat.lt_of_lt_of_le hi h.size) hn).trans (h.block i hi hn)⟩
theorem Turned.of_below {lo hi : Nat} {A B : World} (h : Below A.heap.size A B) : Turned lo hi A B := ⟨h.os, h.tape, h.output, h.size, fun k hk _ => h.block k hk⟩
theorem Turned.wider {lo hi lo' hi' : Nat} {A B : World} (h : Turned lo hi A B) (h1 : lo' ≤ lo) (h2 : hi ≤ hi') : Turned lo' hi' A B :=
  ⟨h.os, h.tape, h.output, h.size, fun k hk hn => h.block k hk (by omega)⟩
theorem Turned.obj {lo hi : Nat} {A : World} {r : Nat} (o : Obj) (h1 : lo ≤ r) (h2 : r < hi) : Turned lo hi A (A.putObj r o) :=
  ⟨rfl, rfl, rfl, by simp, fun k _ hn => World.putObj_heap_other (by omega)⟩
/-- what lies below lo reads as before -/
theorem Turned.below {lo hi : Nat} {A B : World} (h : Turned lo hi A B) (hl : lo ≤ A.heap.size) : Below lo A B := ⟨h.os, h.tape, h.output, h.size, fun k hk => h.block k (by omega) (.inl hk)⟩
/-- the blocks from lo on and ahead of hi lie as they lay -/
def Stay (lo hi : Nat) (A B : World) : Prop := A.heap.size ≤ B.heap.size ∧ ∀ k, lo ≤ k → k < hi → B.heap[k]? = A.heap[k]?
theorem Stay.refl (lo hi : Nat) (A : World) : Stay lo hi A A := ⟨Nat.le_refl _, fun _ _ _ => rfl⟩
theorem Stay.trans {lo hi : Nat} {A B C : World} (h : Stay lo hi A B) (k : Stay lo hi B C) : Stay lo hi A C := ⟨Nat.le_trans h.1 k.1, fun i h1 h2 => (k.2 i h1 h2).trans (h.2 i h1 h2)⟩
theorem Stay.of_below {lo hi : Nat} {A B : World} (h : Below A.heap.size A B) (hs : hi ≤ A.heap.size) : Stay lo hi A B := ⟨h.size, fun k _ hk => h.block k (by omega)⟩

theorem Stay.setCell {lo hi : Nat} {A B : World} (h : Stay lo hi A B) {p : Addr} (hp : p.block < lo ∨ hi ≤ p.block) (u : Value) : Stay lo hi A (B.setCell p u) :=
  ⟨by simpa [World.setCell] using h.1, fun k h1 h2 => (Below.heap_setCell _ _ _ _ (by omega)).trans (h.2 k h1 h2)⟩
theorem Stay.alloc {lo hi : Nat} {A B : World} (h : Stay lo hi A B) (hs : hi ≤ B.heap.size) (o : Obj) : Stay lo hi A (B.alloc o) :=
  ⟨Nat.le_trans h.1 (by simp), fun k h1 h2 => (Below.heap_alloc _ _ _ (by omega)).trans (h.2 k h1 h2)⟩
/-- an iterator without an end (or, where E, without a beginning): its k-th round gets enc k -/
def Stream (F : Fence) (n : Nat) (P : Program) (g : Nat) (lb : Array Value) (enc : Nat → Array Value) (E : Prop) (w : World) : Prop :=
  ∀ (l : Nat) (J Jx : Nat → Nat → World → Prop) (N : Nat) (W : World), Below w.heap.size w W →
    N ≤ 1000000 →
    (∀ h k A B, J h k A → Turned W.heap.size h A B → J h k B) →
    (∀ h k A B, Jx h k A → Turned W.heap.size h A B → Jx h k B) →
    (∀ h k A, J h k A → W.heap.size ≤ h ∧ h ≤ A.heap.size) →
    (∀ h k A, ¬ E → J h k A → YieldAt F (n - 1) P l (enc k) A fun e B => (e = .returned (.bool true) ∧ k + 1 ≤ N ∧ J h (k + 1) B ∧ Stay W.heap.size h A B) ∨ (e = .returned (.bool false) ∧ Jx h k B)) →
    (∀ B, Below W.heap.size W B → J B.heap.size 0 B) →
    CallsIn F n P g (#[.func (.yield l) #[] #[]] ++ lb) W fun e B => (∃ v, e = .returned v) ∧ ∃ h, (E ∧ J h 0 B) ∨ ∃ k, Jx h k B

/-- how the body of the k-th round may be left -/
def stPost (lo h N : Nat) (I : Nat → Nat → World → Prop) (Ix : Code → Nat → Nat → World → Prop) (k : Nat) (W : World) : Exit → Act → World → Prop
  | .normal, _, W' => Stay lo h W W' ∧ k + 1 ≤ N ∧ I h (k + 1) W'
  | .ret, _, W' => Stay lo h W W' ∧ Ix .ret h k W'
  | .exit id, _, W' => Stay lo h W W' ∧ Ix (.exit id) h k W'
  | .goto t, _, W' => Stay lo h W W' ∧ Ix (.goto t) h k W'
  | .panic _, _, _ => False
  | .outgrown, _, _ => False

variable {F : Fence} {n : Nat} {P : Program}

/-- the loop's statement, over such an iterator -/
theorem wpIn_range_st {g : Operand} {ps : Array Tmp} {assign body : Code} {Q : Exit → Act → World → Prop} {a : Act} {w : World}
    (hro : F.round = none) (h1 : 1 ≤ n) {gf : Nat} {lb : Array Value} (hg : a.eval g = .func (.func gf) #[] lb) (hFg : F.fn gf) (eg : ∀ args w, (callFunc gf args).run P w = .ok (.enter gf args) w)
    {enc : Nat → Array Value} {E : Prop} {w0 : World} (hseq : Stream F (n - 1) P gf lb enc E w0) (hb0 : Below w0.heap.size w0 w) (hps : ∀ k, (enc k).size = ps.size)
    (I : Nat → Nat → World → Prop) (Ix : Code → Nat → Nat → World → Prop) (R : Nat → Nat → Act → World → Prop) (N : Nat) (hN : N ≤ 1000000)
    (hI : ∀ h k A B, I h k A → Turned w.heap.size h A B → I h k B) (hIx : ∀ c h k A B, Ix c h k A → Turned w.heap.size h A B → Ix c h k B)
    (hR : ∀ h k a' A B, R h k a' A → Turned w.heap.size h A B → R h k a' B) (hs : ∀ h k A, I h k A → h ≤ A.heap.size) (hRs : ∀ h k a' A, R h k a' A → h ≤ A.heap.size)
    (h0 : ∀ B, Below w.heap.size w B → w.heap.size + 2 ≤ B.heap.size → I B.heap.size 0 B)
    (hassign : ∀ (l h k : Nat) (W : World) (K : Act → World → Prop), I h k W → (∀ a' B, Stay w.heap.size h W B → R h k a' B → K a' B) →
      assign.wpIn (F.inRound l) (n - 1 - 1) P (Exit.then K (fun _ _ _ => False)) { tmps := (ps.zip (enc k)).foldl (fun t (p, v) => t.setIfInBounds p v) a.tmps, defers := [] } W)
    (hbody : ∀ (l h k : Nat) (a' : Act) (W : World), ¬ E → R h k a' W → body.wpIn (F.inRound l) (n - 1 - 1) P (stPost w.heap.size h N I Ix k W) a' W)
    (hdone : ∀ (D h : Nat) (W : World), w.heap.size ≤ D → D < h → E → I h 0 W → W.heap[D]? = some (.deferred (some [])) → Q .normal { a with defers := { target := .collected D, args := #[] } :: a.defers } W)
    (hstop : ∀ (D h k : Nat) (c : Code) (W : World), w.heap.size ≤ D → D < h → Ix c h k W → W.heap[D]? = some (.deferred (some [])) → c.wpIn F n P Q { a with defers := { target := .collected D, args := #[] } :: a.defers } W) :
    (Code.rangeFunc g ps assign body).wpIn F n P Q a w := by
  refine wpIn_rangeFunc ?_
  intro fn hfn
  rw [hro]
  obtain ⟨rec, hrec⟩ : ∃ rec : LoopState → Option Code → Loop, rec = fun st pe => { state := st, pending := pe, fn, tmps := a.tmps, params := ps, assign, body, defers := w.heap.size } := ⟨_, rfl⟩
  obtain ⟨D, hD⟩ : ∃ D, w.heap.size = D := ⟨_, rfl⟩
  obtain ⟨W1, hW1⟩ : ∃ W1, (w.alloc (.deferred (some []))).alloc (.loop (rec .ready none)) = W1 := ⟨_, rfl⟩
  have hsz1 : W1.heap.size = D + 2 := by rw [← hW1, ← hD]; simp
  have hrec1 : W1.heap[D + 1]? = some (.loop (rec .ready none)) := by
    have := World.alloc_heap_new (w.alloc (.deferred (some []))) (.loop (rec .ready none))
    rw [World.size_alloc, hW1, hD] at this
    exact this
  have hdef1 : W1.heap[D]? = some (.deferred (some [])) := by
    rw [← hW1, ← hD]
    exact (Below.heap_alloc _ _ _ (by simp)).trans (World.alloc_heap_new w _)
  have hbw : Below w.heap.size w W1 := by rw [← hW1]; exact ((Below.refl _ w).alloc (Nat.le_refl _) _).alloc (by simp) _
  refine ⟨D + 1, [{ target := .collected D, args := #[] }], W1, { target := .fn (.func gf) lb, args := #[.func (.yield (D + 1)) #[] #[]] }, W1, gf, #[.func (.yield (D + 1)) #[] #[]] ++ lb, W1, ?_, ?_, ?_, ?_, fun _ => h1, ?_⟩
  · rw [← hW1, hrec, ← hD]; exact run_enterLoop_outer _ _ _ _ _
  · simp only [resolve, hg]
    simp [go_sem]
  · intro f' hf'; simp [Target.leads] at hf'; subst hf'; exact hFg
  · simp [invoke, go_sem, eg]
  have key := hseq (D + 1) (fun h k W => I h k W ∧ W.heap[D + 1]? = some (.loop (rec .ready none)) ∧ W.heap[D]? = some (.deferred (some [])) ∧ D + 2 ≤ h)
    (fun h k W => ∃ c, Ix c h k W ∧ W.heap[D + 1]? = some (.loop (rec .done (some c))) ∧ W.heap[D]? = some (.deferred (some [])) ∧ D + 2 ≤ h) N W1 (hb0.trans (hbw.mono hb0.size)) hN
    (fun h k A B hj ht => by
      rw [hsz1] at ht
      have h3 := hs _ _ _ hj.1
      have hh := hj.2.2.2
      exact ⟨hI _ _ _ _ hj.1 (ht.wider (by omega) (Nat.le_refl _)), (ht.block (D + 1) (by omega) (.inl (by omega))).trans hj.2.1, (ht.block D (by omega) (.inl (by omega))).trans hj.2.2.1, hj.2.2.2⟩)
    (fun h k A B hj ht => by
      obtain ⟨c, hc, hl, hd, hh⟩ := hj
      rw [hsz1] at ht
      have h3 := (Array.getElem?_eq_some_iff.1 hl).1
      exact ⟨c, hIx _ _ _ _ _ hc (ht.wider (by omega) (Nat.le_refl _)), (ht.block (D + 1) (by omega) (.inl (by omega))).trans hl, (ht.block D (by omega) (.inl (by omega))).trans hd, hh⟩)
    (fun h k A hj => ⟨by rw [hsz1]; exact hj.2.2.2, hs _ _ _ hj.1⟩) ?_
    (fun B hb => by
      have hszB := hb.size
      exact ⟨h0 B (hbw.trans (hb.mono hbw.size)) (by omega), (hb.block (D + 1) (by omega)).trans hrec1, (hb.block D (by omega)).trans hdef1, by omega⟩)
  · refine key.mono ?_
    rintro e W2 ⟨⟨v, rfl⟩, h, ⟨hE, hi, hl, hd, hh⟩ | ⟨k, c, hi, hl, hd, hh⟩⟩
    · refine ⟨none, _, by have := run_endLoop (P := P) hl (by rw [hrec]; simp); rw [hrec] at this; exact this, ?_⟩
      exact hdone D h _ (by omega) (by omega) hE (hI _ _ _ _ hi (Turned.obj _ (by omega) (by omega))) ((World.putObj_heap_other (by omega)).trans hd)
    · refine ⟨some c, _, by have := run_endLoop (P := P) hl (by rw [hrec]; simp); rw [hrec] at this; exact this, ?_⟩
      exact hstop D h k c _ (by omega) (by omega) (hIx _ _ _ _ _ hi (Turned.obj _ (by omega) (by omega))) ((World.putObj_heap_other (by omega)).trans hd)
  · rintro h k W hnE ⟨hi, hl, hd, hh⟩
    have hy := run_yield (P := P) (args := enc k) hl (by rw [hrec]; exact hps k)
    rw [hrec] at hy
    refine ⟨fn, _, assign, body, hy, roundIn_of_wpIn hfn (hassign _ h k W _ hi ?_)⟩
    clear hy
    intro a' Wa hst hr
    have hl2 : Wa.heap[D + 1]? = some (.loop (rec .ready none)) := (hst.2 (D + 1) (by omega) (by omega)).trans hl
    have hd2 : Wa.heap[D]? = some (.deferred (some [])) := (hst.2 D (by omega) (by omega)).trans hd
    have hlt : D + 1 < Wa.heap.size := (Array.getElem?_eq_some_iff.1 hl2).1
    refine ⟨_, run_beginRound hl2 (by rw [hrec]), ?_⟩
    obtain ⟨Wb, hWb⟩ : ∃ Wb, Wa.putObj (D + 1) (.loop { rec .ready none with state := .busy }) = Wb := ⟨_, rfl⟩
    have hl3 : Wb.heap[D + 1]? = some (.loop { rec .ready none with state := .busy }) := by rw [← hWb]; exact World.putObj_heap_same hlt
    have hd3 : Wb.heap[D]? = some (.deferred (some [])) := by rw [← hWb]; exact (World.putObj_heap_other (by omega)).trans hd2
    have ht3 : Turned w.heap.size h Wa Wb := by rw [← hWb]; exact Turned.obj _ (by omega) (by omega)
    have hso : ∀ j, D + 2 ≤ j → Wb.heap[j]? = Wa.heap[j]? := fun j hj => by rw [← hWb]; exact World.putObj_heap_other (by omega)
    have hsb : Wb.heap.size = Wa.heap.size := by rw [← hWb]; simp
    rw [hWb]
    clear hWb
    refine wpIn_mono (hbody _ h k a' _ hnE (hR _ _ _ _ _ hr ht3)) ?_
    -- behind the body: the record is written once more
    have fin : ∀ (jump : Option Code) (W3 : World), Stay w.heap.size h Wb W3 →
        (Instr.endRound (D + 1) jump).run P W3 = .ok (.bool jump.isNone) (W3.putObj (D + 1) (.loop (rec (if jump.isNone then .ready else .done) jump))) ∧
        Turned w.heap.size h W3 (W3.putObj (D + 1) (.loop (rec (if jump.isNone then .ready else .done) jump))) ∧
        (W3.putObj (D + 1) (.loop (rec (if jump.isNone then .ready else .done) jump))).heap[D + 1]? = some (.loop (rec (if jump.isNone then .ready else .done) jump)) ∧
        (W3.putObj (D + 1) (.loop (rec (if jump.isNone then .ready else .done) jump))).heap[D]? = some (.deferred (some [])) ∧
        Stay W1.heap.size h W (W3.putObj (D + 1) (.loop (rec (if jump.isNone then .ready else .done) jump))) := fun jump W3 h3 => by
      have hl4 := (h3.2 (D + 1) (by omega) (by omega)).trans hl3
      have hd4 := (h3.2 D (by omega) (by omega)).trans hd3
      have hr4 := run_endRound (P := P) jump hl4
      refine ⟨?_, Turned.obj _ (by omega) (by omega), World.putObj_heap_same (Array.getElem?_eq_some_iff.1 hl4).1, (World.putObj_heap_other (by omega)).trans hd4, ?_, ?_⟩
      · rw [hrec] at hr4 ⊢; exact hr4
      · have h5 := hst.1
        have h6 := h3.1
        simp only [World.putObj_size]
        omega
      · intro j hj1 hj2
        rw [hsz1] at hj1
        exact (World.putObj_heap_other (by omega)).trans ((h3.2 j (by omega) hj2).trans ((hso j hj1).trans (hst.2 j (by omega) hj2)))
    rintro e a3 W3 hp
    cases e with
    | normal =>
      obtain ⟨hk3, hkN, hi3⟩ := hp
      obtain ⟨hr4, ht4, hl4, hd4, hs4⟩ := fin none W3 hk3
      exact ⟨_, _, hr4, .inl ⟨rfl, hkN, ⟨hI _ _ _ _ hi3 ht4, hl4, hd4, hh⟩, hs4⟩⟩
    | ret =>
      obtain ⟨hk3, hi3⟩ := hp
      obtain ⟨hr4, ht4, hl4, hd4, hs4⟩ := fin (some .ret) W3 hk3
      exact ⟨_, _, hr4, .inr ⟨rfl, .ret, hIx _ _ _ _ _ hi3 ht4, hl4, hd4, hh⟩⟩
    | exit id =>
      obtain ⟨hk3, hi3⟩ := hp
      obtain ⟨hr4, ht4, hl4, hd4, hs4⟩ := fin (some (.exit id)) W3 hk3
      exact ⟨_, _, hr4, .inr ⟨rfl, .exit id, hIx _ _ _ _ _ hi3 ht4, hl4, hd4, hh⟩⟩
    | goto t =>
      obtain ⟨hk3, hi3⟩ := hp
      obtain ⟨hr4, ht4, hl4, hd4, hs4⟩ := fin (some (.goto t)) W3 hk3
      exact ⟨_, _, hr4, .inr ⟨rfl, .goto t, hIx _ _ _ _ _ hi3 ht4, hl4, hd4, hh⟩⟩
    | panic ch => exact hp.elim
    | outgrown => exact hp.elim
end Go.Proofs.Ytlpdilmdhfemdaa
