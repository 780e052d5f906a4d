/- The model's reader of sums in memory, and what its smallest methods do. -/
import Derived.Test.YtchemhjcknkbgaaGreatDoorProg
import Derived.Test.YtchemhjcknkbgaaGreatDoorBunY0
import Derived.BigQuiet
import Derived.Deep.RegionHeld3
import Derived.Deep.RegionWith
import Derived.Deep.Slices
import Derived.WideShapes
import Derived.ChangeAt
import Derived.Deep.Upon
import Derived.Deep.AppendLies
import Derived.WalkKit
import Derived.ProofKit
import Derived.Handy
import Derived.PlainAid
namespace Go.Proofs.YtchemhjcknkbgaaGreatDoor
open Go.RowKit Go.PlainAid
set_option linter.unusedSimpArgs false
set_option linter.unusedVariables false

/-- a node: kind, number, name -/
abbrev Nd := Int × Int × ByteArray
def ndCells (l : List Nd) : List Value := l.flatMap fun x => [.int .i64 x.1, .int .i64 x.2.1, .string x.2.2]
theorem ndCells_len (l : List Nd) : (ndCells l).length = l.length * 3 := by
  induction l with
  | nil => rfl
  | cons x r ih => simp only [ndCells, List.flatMap_cons, List.length_append, List.length_cons, List.length_nil] at *; omega
theorem ndCells_snoc (l : List Nd) (x : Nd) : ndCells (l ++ [x]) = ndCells l ++ [.int .i64 x.1, .int .i64 x.2.1, .string x.2.2] := by
  simp [ndCells]

/-- what the reader holds -/
structure Par where
  at_ : Nat
  deep : Nat
  bad : Bool
  out : List Nd

/-- block p is a reader of s that holds st; its nodes' slice is v -/
structure ParAt (p : Nat) (w : World) (s : ByteArray) (st : Par) (v : Value) : Prop where
  c0 : w.cell? ⟨p, 0, none⟩ = some (.string s)
  c1 : w.cell? ⟨p, 1, none⟩ = some (.int .i64 st.at_)
  c2 : w.cell? ⟨p, 2, none⟩ = some (.int .i64 st.deep)
  c3 : w.cell? ⟨p, 3, none⟩ = some (.bool st.bad)
  c4 : w.cell? ⟨p, 4, none⟩ = some v
  open_ : ∀ j, w.frozen? ⟨p, j, none⟩ = false
  own : w.ownsRow (p + 1) 121 3 v st.out.length (ndCells st.out)

/-- between w and w' only the block p, the row that v owns and new blocks were written; the row of v' is v's or new -/
structure Touch (p : Nat) (v : Value) (w w' : World) (v' : Value) : Prop where
  os : w'.os = w.os
  tape : w'.tape = w.tape
  output : w'.output = w.output
  size : w.heap.size ≤ w'.heap.size
  block : ∀ k, k < w.heap.size → k ≠ p → some k ≠ v.ownBlock → w'.heap[k]? = w.heap[k]?
  own : v'.ownBlock = v.ownBlock ∨ ∀ k, v'.ownBlock = some k → w.heap.size ≤ k

theorem Touch.refl (p : Nat) (v : Value) (w : World) : Touch p v w w v := ⟨rfl, rfl, rfl, Nat.le_refl _, fun _ _ _ _ => rfl, .inl rfl⟩
theorem Touch.trans {p : Nat} {v v1 v2 : Value} {w w1 w2 : World} (h : Touch p v w w1 v1) (k : Touch p v1 w1 w2 v2) : Touch p v w w2 v2 := by
  refine ⟨k.os.trans h.os, k.tape.trans h.tape, k.output.trans h.output, Nat.le_trans h.size k.size, fun i hi hp hv => ?_, ?_⟩
  · refine (k.block i (Nat.lt_of_lt_of_le hi h.size) hp ?_).trans (h.block i hi hp hv)
    rcases h.own with e | e
    · rw [e]; exact hv
    · intro hc; have := e i hc.symm; omega
  · rcases k.own with e | e
    · rcases h.own with e' | e'
      · exact .inl (e.trans e')
      · exact .inr fun j hj => e' j (by rw [← e]; exact hj)
    · exact .inr fun j hj => Nat.le_trans h.size (e j hj)
theorem Touch.drewN {p : Nat} {v v' : Value} {w w' : World} (h : Touch p v w w' v') (n : Nat) : Touch p v w (w'.drewN n) v' := ⟨h.os, h.tape, h.output, h.size, h.block, h.own⟩
theorem Touch.drew {p : Nat} {v v' : Value} {w w' : World} (h : Touch p v w w' v') : Touch p v w w'.drew v' := ⟨h.os, h.tape, h.output, h.size, h.block, h.own⟩
theorem Touch.setCell {p : Nat} {v v' : Value} {w w' : World} (h : Touch p v w w' v') (j : Nat) (u : Value) : Touch p v w (w'.setCell ⟨p, j, none⟩ u) v' :=
  ⟨h.os, h.tape, h.output, by simpa [World.setCell] using h.size, fun k hk hp hv => (Below.heap_setCell _ _ _ _ (by simpa using hp)).trans (h.block k hk hp hv), h.own⟩
theorem Touch.below {p : Nat} {v v' : Value} {w w' : World} (h : Touch p v w w' v') {st : Par} {s : ByteArray} (hp : ParAt p w s st v) : Below p w w' := by
  have hlt : p < w.heap.size := World.block_lt_of_cell? w _ hp.c0
  refine ⟨h.os, h.tape, h.output, h.size, fun k hk => h.block k (by omega) (by omega) fun e => ?_⟩
  have := (hp.own.lt k e.symm).1
  omega
theorem ParAt.lt {p : Nat} {w : World} {s : ByteArray} {st : Par} {v : Value} (h : ParAt p w s st v) : p < w.heap.size := World.block_lt_of_cell? w _ h.c0

/-- one of the reader's cells is written -/
theorem ParAt.at1 {p : Nat} {w : World} {s : ByteArray} {st : Par} {v : Value} (h : ParAt p w s st v) (a : Nat) : ParAt p (w.setCell ⟨p, 1, none⟩ (.int .i64 a)) s { st with at_ := a } v :=
  ⟨by rw [setCell_ne _ _ _ _ _ (by decide)]; exact h.c0, World.cell?_setCell_same _ _ _ h.c1, by rw [setCell_ne _ _ _ _ _ (by decide)]; exact h.c2, by rw [setCell_ne _ _ _ _ _ (by decide)]; exact h.c3,
   by rw [setCell_ne _ _ _ _ _ (by decide)]; exact h.c4, fun j => by simpa using h.open_ j, ownsRow_setCell_below h.own (by simp) _⟩
theorem ParAt.deep1 {p : Nat} {w : World} {s : ByteArray} {st : Par} {v : Value} (h : ParAt p w s st v) (a : Nat) : ParAt p (w.setCell ⟨p, 2, none⟩ (.int .i64 a)) s { st with deep := a } v :=
  ⟨by rw [setCell_ne _ _ _ _ _ (by decide)]; exact h.c0, by rw [setCell_ne _ _ _ _ _ (by decide)]; exact h.c1, World.cell?_setCell_same _ _ _ h.c2, by rw [setCell_ne _ _ _ _ _ (by decide)]; exact h.c3,
   by rw [setCell_ne _ _ _ _ _ (by decide)]; exact h.c4, fun j => by simpa using h.open_ j, ownsRow_setCell_below h.own (by simp) _⟩
theorem ParAt.bad1 {p : Nat} {w : World} {s : ByteArray} {st : Par} {v : Value} (h : ParAt p w s st v) (a : Bool) : ParAt p (w.setCell ⟨p, 3, none⟩ (.bool a)) s { st with bad := a } v :=
  ⟨by rw [setCell_ne _ _ _ _ _ (by decide)]; exact h.c0, by rw [setCell_ne _ _ _ _ _ (by decide)]; exact h.c1, by rw [setCell_ne _ _ _ _ _ (by decide)]; exact h.c2, World.cell?_setCell_same _ _ _ h.c3,
   by rw [setCell_ne _ _ _ _ _ (by decide)]; exact h.c4, fun j => by simpa using h.open_ j, ownsRow_setCell_below h.own (by simp) _⟩
theorem ParAt.drewN {p : Nat} {w : World} {s : ByteArray} {st : Par} {v : Value} (h : ParAt p w s st v) (n : Nat) : ParAt p (w.drewN n) s st v := ⟨h.c0, h.c1, h.c2, h.c3, h.c4, h.open_, h.own⟩
theorem ParAt.drew {p : Nat} {w : World} {s : ByteArray} {st : Par} {v : Value} (h : ParAt p w s st v) : ParAt p w.drew s st v := ⟨h.c0, h.c1, h.c2, h.c3, h.c4, h.open_, h.own⟩
theorem ParAt.alloc {p : Nat} {w : World} {s : ByteArray} {st : Par} {v : Value} (h : ParAt p w s st v) (o : Obj) : ParAt p (w.alloc o) s st v := by
  have hlt := h.lt
  exact ⟨(World.cell?_alloc_past _ _ _ hlt).trans h.c0, (World.cell?_alloc_past _ _ _ hlt).trans h.c1, (World.cell?_alloc_past _ _ _ hlt).trans h.c2, (World.cell?_alloc_past _ _ _ hlt).trans h.c3,
    (World.cell?_alloc_past _ _ _ hlt).trans h.c4, fun j => (World.frozen?_alloc_past _ _ _ hlt).trans (h.open_ j), h.own.alloc o⟩
end Go.Proofs.YtchemhjcknkbgaaGreatDoor

/- The reader's skip, look and take. -/
namespace Go.Proofs.YtchemhjcknkbgaaGreatDoor
open Go.RowKit Go.PlainAid
set_option linter.unusedSimpArgs false
set_option linter.unusedVariables false

/-- the place of the next byte that is no blank -/
def skipF (s : ByteArray) : Nat → Nat → Nat
  | 0, a => a
  | f + 1, a => if a < s.size ∧ bt s a = 32 then skipF s f (a + 1) else a
def skipTo (s : ByteArray) (a : Nat) : Nat := skipF s (s.size - a) a
theorem skipTo_step {s : ByteArray} {a : Nat} (h : a < s.size) (hb : bt s a = 32) : skipTo s a = skipTo s (a + 1) := by
  unfold skipTo
  rw [show s.size - a = (s.size - (a + 1)) + 1 from by omega, skipF, if_pos ⟨h, hb⟩]
theorem skipTo_stop {s : ByteArray} {a : Nat} (h : ¬ (a < s.size ∧ bt s a = 32)) : skipTo s a = a := by
  unfold skipTo
  cases s.size - a with
  | zero => rfl
  | succ f => rw [skipF, if_neg h]
theorem skipF_le (s : ByteArray) (f : Nat) : ∀ a, a ≤ skipF s f a ∧ (a ≤ s.size → skipF s f a ≤ s.size) := by
  induction f with
  | zero => intro a; simp [skipF]
  | succ f ih =>
    intro a
    unfold skipF
    split
    · have := ih (a + 1); omega
    · omega
theorem skipTo_le {s : ByteArray} {a : Nat} (h : a ≤ s.size) : a ≤ skipTo s a ∧ skipTo s a ≤ s.size := ⟨(skipF_le s _ a).1, (skipF_le s _ a).2 h⟩

set_option maxHeartbeats 800000 in
theorem skip_any (p : Nat) (s : ByteArray) (st : Par) (v : Value) (w : World) (hs : s.size ≤ maxLen) (ha : st.at_ ≤ s.size) (h : ParAt p w s st v) :
    Calls Tryz.prog 117 #[.pointer (some ⟨p, 0, none⟩)] w fun e w' => e = .returned (.tuple #[]) ∧ ParAt p w' s { st with at_ := skipTo s st.at_ } v ∧ Touch p v w w' v := by
  unfold maxLen at hs
  have hb := get_bt s
  have HP : Hid (ParAt p w s st v) := h
  clear h
  go_enter Tryz.func117, Tryz.ntmps117
  go_wp2_with fail
  go_loopw [] (fun wr => ∃ k : Nat, k ≤ s.size ∧ Hid (skipTo s k = skipTo s st.at_) ∧ Hid (ParAt p wr s { st with at_ := k } v) ∧ Touch p v w wr v) (fun wr => s.size - (intOf ((wr.cell? ⟨p, 1, none⟩).getD undef)).toNat)
  case atStart => exact ⟨st.at_, ha, rfl, HP.out, Touch.refl _ _ _⟩
  case round =>
    obtain ⟨k, hk, hsk, hpar, ht⟩ := hrel
    obtain ⟨c0, c1, c2, c3, c4, ho, hown⟩ := hpar.out
    simp only at c1 c2 c3 c4
    clear c2 c3 c4 hown
    by_cases hlt : k < s.size
    · have hltI : (k : Int) < s.size := by omega
      by_cases h32 : bt s k = 32
      · have h32' : (bt s k == 32) = true := by simp [h32]
        have HN : Hid (skipTo s (k + 1) = skipTo s st.at_) := (skipTo_step hlt h32).symm.trans hsk.out
        clear h32
        go_wp2_with fail
        go_quiet (fail)
        go_wp2_with fail
        go_roundw
        case rel => exact ⟨k + 1, by omega, HN.out, (hpar.out.drewN _).at1 (k + 1), (ht.drewN _).setCell _ _⟩
        case measure =>
          rw [World.cell?_setCell_same (wr.drewN nq) ⟨p, 1, none⟩ _ (u := .int .i64 k) c1, c1]
          simp [intOf]; omega
      · have h32' : (bt s k == 32) = false := by simp [h32]
        have HN : Hid (k = skipTo s st.at_) := (skipTo_stop (fun h => h32 h.2)).symm.trans hsk.out
        clear h32
        go_wp2_with fail
        go_quiet (fail)
        go_wp2_with fail
        go_end0
        refine ⟨rfl, ?_, ht.drewN _⟩
        rw [← HN.out]; exact hpar.out.drewN _
    · have hd : decide ((k : Int) < s.size) = false := by simp; omega
      have HN : Hid (k = skipTo s st.at_) := (skipTo_stop (fun h => hlt h.1)).symm.trans hsk.out
      go_wp2_with fail
      go_quiet (fail)
      go_wp2_with fail
      go_end0
      refine ⟨rfl, ?_, ht.drewN _⟩
      rw [← HN.out]; exact hpar.out.drewN _

/-- the byte at a place; 0 behind the end -/
theorem look_any (p : Nat) (s : ByteArray) (st : Par) (v : Value) (w : World) (hs : s.size ≤ maxLen) (ha : st.at_ ≤ s.size) (h : ParAt p w s st v) :
    Calls Tryz.prog 198 #[.pointer (some ⟨p, 0, none⟩)] w fun e w' => e = .returned (.int .u8 (bt s (skipTo s st.at_))) ∧ ParAt p w' s { st with at_ := skipTo s st.at_ } v ∧ Touch p v w w' v := by
  have hb := get_bt s
  have HP : Hid (ParAt p w s st v) := h
  have hle := skipTo_le ha
  clear h
  go_enter Tryz.func198, Tryz.ntmps198
  go_wp2_with fail
  refine (skip_any p s st v _ hs ha HP.out).mono ?_
  rintro e w1 ⟨rfl, hp1, ht1⟩
  have HP1 : Hid (ParAt p w1 s { st with at_ := skipTo s st.at_ } v) := hp1
  obtain ⟨c0, c1, c2, c3, c4, ho, hown⟩ := hp1
  simp only at c1
  unfold maxLen at hs
  obtain ⟨k, hk⟩ : ∃ k, skipTo s st.at_ = k := ⟨_, rfl⟩
  have HK : Hid (skipTo s st.at_ = k) := hk
  rw [hk] at HP1 c1 hle
  clear c2 c3 c4 hown ho hk
  by_cases hlt : k < s.size
  · have hltI : (k : Int) < s.size := by omega
    have hd : decide ((k : Int) < s.size) = true := by simp; omega
    go_wp2_with fail
    go_quiet (fail)
    go_wp2_with fail
    go_quiet (fail)
    go_wp2_with fail
    go_ret
    rw [HK.out]
    exact ⟨rfl, (HP1.out.drewN _).drewN _, (ht1.drewN _).drewN _⟩
  · have hd : decide ((k : Int) < s.size) = false := by simp; omega
    have HB : Hid (bt s k = 0) := bt_end s (by omega)
    go_wp2_with fail
    go_quiet (fail)
    go_wp2_with fail
    go_ret
    rw [HK.out]
    exact ⟨by rw [HB.out]; rfl, HP1.out.drewN _, ht1.drewN _⟩
end Go.Proofs.YtchemhjcknkbgaaGreatDoor

/- Walks in a finite graph: with as many edges as there are places, a walk goes on for ever. What a block's rings and most turn on. Plain: no program. -/
namespace Go.Proofs.YtchemhjcknkbgaaGreatDoor
set_option linter.unusedSimpArgs false
set_option linter.unusedVariables false

/-- there is a walk of so many edges from here -/
def Wk (E : Nat → List Nat) : Nat → Nat → Bool
  | 0, _ => true
  | k + 1, i => (E i).any (Wk E k)
theorem Wk_anti {E : Nat → List Nat} : ∀ {k i : Nat}, Wk E (k + 1) i = true → Wk E k i = true
  | 0, _, _ => rfl
  | k + 1, i, h => by
    simp only [Wk, List.any_eq_true] at h ⊢
    obtain ⟨j, hj, hw⟩ := h
    exact ⟨j, hj, Wk_anti (k := k) (by simp only [Wk, List.any_eq_true]; exact hw)⟩
theorem Wk_le {E : Nat → List Nat} {k m i : Nat} (h : k ≤ m) (hw : Wk E m i = true) : Wk E k i = true := by
  induction m with
  | zero => have : k = 0 := by omega
            subst this; exact hw
  | succ m ih =>
    by_cases e : k = m + 1
    · subst e; exact hw
    · exact ih (by omega) (Wk_anti hw)
theorem Wk_stay {E : Nat → List Nat} {n k : Nat} (hE : ∀ i, i < n → ∀ j ∈ E i, j < n) (h : ∀ i, i < n → Wk E k i = Wk E (k + 1) i) : ∀ i, i < n → Wk E (k + 1) i = Wk E (k + 1 + 1) i := by
  intro i hi
  cases e : Wk E (k + 1) i with
  | false =>
    cases e2 : Wk E (k + 1 + 1) i with
    | false => rfl
    | true => rw [Wk_anti e2] at e; cases e
  | true =>
    symm
    simp only [Wk, List.any_eq_true] at e
    obtain ⟨j, hj, hw⟩ := e
    have hw2 : Wk E (k + 1) j = true := by rw [← h j (hE i hi j hj)]; exact hw
    show (E i).any (Wk E (k + 1)) = true
    rw [List.any_eq_true]
    exact ⟨j, hj, hw2⟩
def cntW (E : Nat → List Nat) (n k : Nat) : Nat := (List.range n).countP (Wk E k)
theorem count_le {p q : Nat → Bool} (h : ∀ i, q i = true → p i = true) : ∀ l : List Nat, l.countP q ≤ l.countP p ∧ (l.countP q = l.countP p → ∀ i ∈ l, p i = q i)
  | [] => ⟨by simp, fun _ i hi => by simp at hi⟩
  | x :: r => by
    obtain ⟨h1, h2⟩ := count_le h r
    rw [List.countP_cons, List.countP_cons]
    cases hq : q x with
    | true =>
      have hp := h x hq
      rw [hp]
      refine ⟨by simp; omega, fun e i hi => ?_⟩
      rcases List.mem_cons.1 hi with rfl | hi
      · rw [hq, hp]
      · exact h2 (by simp at e; omega) i hi
    | false =>
      cases hp : p x with
      | true =>
        refine ⟨by simp; omega, fun e => ?_⟩
        simp at e
        omega
      | false =>
        refine ⟨by simp; omega, fun e i hi => ?_⟩
        rcases List.mem_cons.1 hi with rfl | hi
        · rw [hq, hp]
        · exact h2 (by simpa using e) i hi
theorem stay_or {E : Nat → List Nat} {n : Nat} (hE : ∀ i, i < n → ∀ j ∈ E i, j < n) : ∀ k, (∀ i, i < n → Wk E k i = Wk E (k + 1) i) ∨ cntW E n (k + 1) + (k + 1) ≤ n
  | 0 => by
    obtain ⟨h1, h2⟩ := count_le (p := Wk E 0) (q := Wk E 1) (fun i h => rfl) (List.range n)
    by_cases e : (List.range n).countP (Wk E 1) = (List.range n).countP (Wk E 0)
    · exact .inl fun i hi => h2 e i (List.mem_range.2 hi)
    · right
      have h3 : (List.range n).countP (Wk E 0) ≤ n := by simpa using List.countP_le_length (p := Wk E 0) (l := List.range n)
      show (List.range n).countP (Wk E 1) + 1 ≤ n
      omega
  | k + 1 => by
    rcases stay_or hE k with h | h
    · exact .inl (Wk_stay hE h)
    · obtain ⟨h1, h2⟩ := count_le (p := Wk E (k + 1)) (q := Wk E (k + 1 + 1)) (fun i h => Wk_anti h) (List.range n)
      by_cases e : (List.range n).countP (Wk E (k + 1 + 1)) = (List.range n).countP (Wk E (k + 1))
      · exact .inl fun i hi => h2 e i (List.mem_range.2 hi)
      · right
        unfold cntW at h ⊢
        omega
/-- with as many edges as there are places a walk goes on -/
theorem Wk_on {E : Nat → List Nat} {n : Nat} (hE : ∀ i, i < n → ∀ j ∈ E i, j < n) : ∀ i, i < n → Wk E n i = Wk E (n + 1) i := by
  rcases stay_or hE n with h | h
  · exact h
  · omega
theorem Wk_ever {E : Nat → List Nat} {n : Nat} (hE : ∀ i, i < n → ∀ j ∈ E i, j < n) : ∀ d i, i < n → Wk E (n + d) i = Wk E n i := by
  have key : ∀ d, ∀ i, i < n → Wk E (n + d) i = Wk E (n + d + 1) i := by
    intro d
    induction d with
    | zero => exact Wk_on hE
    | succ d ih => exact Wk_stay hE ih
  intro d
  induction d with
  | zero => intro i _; rfl
  | succ d ih => intro i hi; rw [← ih i hi]; exact (key d i hi).symm
theorem Wk_far {E : Nat → List Nat} {n : Nat} (hE : ∀ i, i < n → ∀ j ∈ E i, j < n) {m : Nat} (hm : n ≤ m) {i : Nat} (hi : i < n) : Wk E m i = Wk E n i := by
  have := Wk_ever hE (m - n) i hi
  rwa [show n + (m - n) = m from by omega] at this

/-! ### the program's way: round by round, in place -/
def updE (E : Nat → List Nat) (ends : List Bool) (i : Nat) : List Bool := ends.set i ((E i).all fun j => ends.getD j false)
def roundE (E : Nat → List Nat) (ends : List Bool) : Nat → List Bool
  | 0 => ends
  | i + 1 => updE E (roundE E ends i) i
def roundsE (E : Nat → List Nat) (n : Nat) : Nat → List Bool
  | 0 => List.replicate n false
  | r + 1 => roundE E (roundsE E n r) n
theorem roundE_len (E : Nat → List Nat) (ends : List Bool) : ∀ i, (roundE E ends i).length = ends.length
  | 0 => rfl
  | i + 1 => by unfold roundE updE; rw [List.length_set, roundE_len E ends i]
theorem roundsE_len (E : Nat → List Nat) (n : Nat) : ∀ r, (roundsE E n r).length = n
  | 0 => by simp [roundsE]
  | r + 1 => by unfold roundsE; rw [roundE_len, roundsE_len E n r]
theorem ends_set {l : List Bool} {i j : Nat} {v : Bool} (hi : i < l.length) : (l.set i v).getD j false = if i = j then v else l.getD j false := by
  simp only [List.getD_eq_getElem?_getD, List.getElem?_set]
  split
  · rename_i e; subst e; simp [hi]
  · rfl
/-- what is found to end has no long walk: sound -/
def Sound (E : Nat → List Nat) (t : Nat) (ends : List Bool) : Prop := ∀ i, ends.getD i false = true → Wk E t i = false
theorem Sound.upd {E : Nat → List Nat} {t : Nat} {ends : List Bool} (h : Sound E t ends) {i : Nat} (hi : i < ends.length) : Sound E (t + 1) (updE E ends i) := by
  intro j hj
  unfold updE at hj
  rw [ends_set hi] at hj
  split at hj
  · rename_i e
    subst e
    rw [List.all_eq_true] at hj
    show (E i).any (Wk E t) = false
    rw [List.any_eq_false]
    intro x hx
    rw [h x (hj x hx)]
    simp
  · cases e : Wk E (t + 1) j with
    | false => rfl
    | true => have := h j hj; rw [Wk_anti e] at this; cases this
theorem Sound.round {E : Nat → List Nat} {t : Nat} {ends : List Bool} (h : Sound E t ends) : ∀ i, i ≤ ends.length → Sound E (t + i) (roundE E ends i)
  | 0, _ => h
  | i + 1, hi => Sound.upd (h.round i (by omega)) (by rw [roundE_len]; omega)
theorem Sound.rounds {E : Nat → List Nat} {n : Nat} : ∀ r, Sound E (n * r) (roundsE E n r)
  | 0 => fun i h => by simp [roundsE, List.getD_eq_getElem?_getD, List.getElem?_replicate] at h; split at h <;> simp at h
  | r + 1 => by
    have := (Sound.rounds (E := E) (n := n) r).round n (by rw [roundsE_len]; exact Nat.le_refl _)
    unfold roundsE
    rw [Nat.mul_succ]; exact this
/-- what has no walk of r edges is found to end in r rounds -/
theorem found_round {E : Nat → List Nat} {n r : Nat} (hE : ∀ i, i < n → ∀ j ∈ E i, j < n) {ends : List Bool} (hl : ends.length = n) (h : ∀ i, i < n → Wk E r i = false → ends.getD i false = true) :
    ∀ m, m ≤ n → ∀ i, i < n → (if i < m then Wk E (r + 1) i = false else Wk E r i = false) → (roundE E ends m).getD i false = true
  | 0, _, i, hi, hw => by
    rw [if_neg (by omega)] at hw
    exact h i hi hw
  | m + 1, hm, i, hi, hw => by
    have ih := found_round hE hl h m (by omega)
    unfold roundE updE
    rw [ends_set (by rw [roundE_len, hl]; omega)]
    split
    · rename_i e
      subst e
      rw [if_pos (by omega)] at hw
      rw [List.all_eq_true]
      intro j hj
      have hjn := hE m hi j hj
      have hwj : Wk E r j = false := by
        have h2 : (E m).any (Wk E r) = false := hw
        rw [List.any_eq_false] at h2
        have := h2 j hj
        simpa using this
      refine ih j hjn ?_
      split
      · cases e : Wk E (r + 1) j with
        | false => rfl
        | true => rw [Wk_anti e] at hwj; cases hwj
      · exact hwj
    · rename_i e
      refine ih i hi ?_
      by_cases e2 : i < m
      · rw [if_pos e2]; rw [if_pos (by omega)] at hw; exact hw
      · rw [if_neg e2]; rw [if_neg (by omega)] at hw; exact hw
theorem found_rounds {E : Nat → List Nat} {n : Nat} (hE : ∀ i, i < n → ∀ j ∈ E i, j < n) : ∀ r, ∀ i, i < n → Wk E r i = false → (roundsE E n r).getD i false = true
  | 0, i, hi, hw => by cases hw
  | r + 1, i, hi, hw => found_round hE (roundsE_len E n r) (found_rounds hE r) n (Nat.le_refl _) i hi (by rw [if_pos hi]; exact hw)
/-- as many rounds as places find just what ends -/
theorem rounds_all {E : Nat → List Nat} {n : Nat} (hE : ∀ i, i < n → ∀ j ∈ E i, j < n) {i : Nat} (hi : i < n) : (roundsE E n n).getD i false = !(Wk E (n + 1) i) := by
  rw [← Wk_on hE i hi]
  cases e : Wk E n i with
  | false => rw [found_rounds hE n i hi e]; rfl
  | true =>
    cases e2 : (roundsE E n n).getD i false with
    | false => rfl
    | true =>
      have h1 := Sound.rounds (E := E) (n := n) n i e2
      rw [Wk_far hE (Nat.le_mul_self n) hi, e] at h1
      cases h1
end Go.Proofs.YtchemhjcknkbgaaGreatDoor

/- Lists of things of several cells in memory. -/
namespace Go.Proofs.YtchemhjcknkbgaaGreatDoor
open Go Go.ChangeShapes Go.WideShapes Go.ChangeAt Go.RowKit Go.Deep Go.PlainAid
set_option linter.unusedSimpArgs false
set_option linter.unusedVariables false

/-- a slice of things of sz cells each, whose cells mean them -/
def IsArr {α : Type} (sz : Nat) (Q : Nat → World → List Value → α → Prop) (B : Nat) (w : World) (a : Option Addr) (n : Nat) (l : List α) : Prop :=
  l.length = n ∧ (n = 0 ∨ ∃ b off, a = some ⟨b, off, none⟩ ∧ b < B ∧ ∀ i, (h : i < l.length) → ∃ cs, Q B w cs l[i] ∧ ∀ j u, cs[j]? = some u → j < sz ∧ w.cell? ⟨b, off + i * sz + j, none⟩ = some u)
theorem IsArr.below {α : Type} {sz : Nat} {Q : Nat → World → List Value → α → Prop} {B : Nat} {w w' : World} {a : Option Addr} {n : Nat} {l : List α} (h : IsArr sz Q B w a n l) (hQ : ∀ cs x, Q B w cs x → Q B w' cs x) (hb : Below B w w') : IsArr sz Q B w' a n l := by
  obtain ⟨h1, h2⟩ := h
  refine ⟨h1, ?_⟩
  rcases h2 with h2 | ⟨b, off, rfl, hlt, hc⟩
  · exact .inl h2
  · refine .inr ⟨b, off, rfl, hlt, fun i hi => ?_⟩
    obtain ⟨cs, q, hcell⟩ := hc i hi
    exact ⟨cs, hQ cs _ q, fun j u hu => ⟨(hcell j u hu).1, (hb.cell (p := ⟨b, off + i * sz + j, none⟩) hlt).trans (hcell j u hu).2⟩⟩
theorem IsArr.mono {α : Type} {sz : Nat} {Q : Nat → World → List Value → α → Prop} {B B' : Nat} {w : World} {a : Option Addr} {n : Nat} {l : List α} (h : IsArr sz Q B w a n l) (hQ : ∀ cs x, Q B w cs x → Q B' w cs x) (hb : B ≤ B') : IsArr sz Q B' w a n l := by
  obtain ⟨h1, h2⟩ := h
  refine ⟨h1, ?_⟩
  rcases h2 with h2 | ⟨b, off, rfl, hlt, hc⟩
  · exact .inl h2
  · refine .inr ⟨b, off, rfl, Nat.lt_of_lt_of_le hlt hb, fun i hi => ?_⟩
    obtain ⟨cs, q, hcell⟩ := hc i hi
    exact ⟨cs, hQ cs _ q, hcell⟩
/-- one of them -/
theorem IsArr.at {α : Type} {sz : Nat} {Q : Nat → World → List Value → α → Prop} {B : Nat} {w : World} {a : Option Addr} {n : Nat} {l : List α} (h : IsArr sz Q B w a n l) {k : Nat} (hk : k < n) (hl : k < l.length) : ∃ b off cs, a = some ⟨b, off, none⟩ ∧ b < B ∧ Q B w cs l[k] ∧ ∀ j u, cs[j]? = some u → w.cell? ⟨b, off + k * sz + j, none⟩ = some u := by
  rcases h.2 with h2 | ⟨b, off, rfl, hlt, hc⟩
  · omega
  · obtain ⟨cs, q, hcell⟩ := hc k hl
    exact ⟨b, off, cs, rfl, hlt, q, fun j u hu => (hcell j u hu).2⟩

/-- a slice that came in -/
theorem open_arr {α : Type} [Inhabited α] {H : Type} {enc : TypeId × Value → H} {W : World} {base : Nat} {spare : Nat → Bool} {held : Bool} {fuel : Nat} {tS tE : TypeId} {sz : Nat} {a0 : Option Addr} {len0 cap0 : Nat} {x : DataW H × List MemPlace} {Q : Nat → World → List Value → α → Prop} {F : α → Prop}
    (hu : Tryz.prog.underlying tS = some (.slice tE)) (hc : Tryz.prog.cellsOf tE = sz) (hz : 0 < sz)
    (each : ∀ fuel cs y, cs.length = sz → DataW.trod enc Tryz.prog W base spare held fuel tE cs = some y → ∃ q, Q W.heap.size W cs q ∧ F q)
    (h : DataW.trod enc Tryz.prog W base spare held fuel tS (Value.slice a0 len0 cap0).cells.toList = some x) :
    ∃ l, (len0 ≤ cap0 ∧ cap0 ≤ maxLen) ∧ IsArr sz Q W.heap.size W a0 len0 l ∧ ∀ y ∈ l, F y := by
  rcases open_slice hu h with ⟨hcs, _⟩ | ⟨a, len, cap, m, nn, D, Pl, hcs, hb, hl, hm, hmm, _, hel⟩
  · simp [Value.cells] at hcs
    obtain ⟨rfl, rfl, rfl⟩ := hcs
    exact ⟨[], ⟨Nat.le_refl _, by unfold maxLen; omega⟩, ⟨rfl, .inl rfl⟩, fun _ h => by simp at h⟩
  · simp [Value.cells] at hcs
    obtain ⟨rfl, rfl, rfl⟩ := hcs
    rw [hc] at hel
    have ea : ∀ i, i < len0 → ∃ q : α, (∃ cs, Q W.heap.size W cs q ∧ cs.length = sz ∧ ∀ j, j < sz → W.cell? (a.add (i * sz + j)) = cs[j]?) ∧ F q := by
      intro i hi
      have him : i < m := by rw [hmm]; split <;> omega
      obtain ⟨cs', h1, h2⟩ := hel i him
      obtain ⟨_, hlen, hcell⟩ := World.cells?_some h1
      obtain ⟨q, hq, hf⟩ := each _ _ _ hlen h2
      refine ⟨q, ⟨cs', hq, hlen, fun j hj => ?_⟩, hf⟩
      have := hcell j (by omega)
      rw [add_add] at this
      rw [this]
    obtain ⟨q, hq⟩ := choose_lt ea
    refine ⟨(List.range len0).map q, ⟨hl, hm⟩, ⟨by simp, ?_⟩, ?_⟩
    · by_cases hz0 : len0 = 0
      · exact .inl hz0
      obtain ⟨b, off, spot⟩ := a
      obtain ⟨cs0, _, hl0, hc0⟩ := (hq 0 (by omega)).1
      have h00 := hc0 0 hz
      rw [List.getElem?_eq_getElem (by omega)] at h00
      have hspot : spot = none := by simpa [Addr.add] using World.cell?_spot h00
      subst hspot
      rw [add_plain] at h00
      refine .inr ⟨b, off, rfl, World.block_lt_of_cell? _ _ h00, fun i hi => ?_⟩
      simp at hi
      obtain ⟨cs, h1, h2, h3⟩ := (hq i hi).1
      refine ⟨cs, by simpa using h1, fun j u hu => ?_⟩
      have hj : j < sz := by rw [← h2]; exact (List.getElem?_eq_some_iff.1 hu).1
      have := h3 j hj
      rw [add_plain, hu] at this
      exact ⟨hj, by rw [Nat.add_assoc]; exact this⟩
    · intro y hy
      obtain ⟨i, hi, rfl⟩ := List.mem_map.1 hy
      exact (hq i (List.mem_range.1 hi)).2
end Go.Proofs.YtchemhjcknkbgaaGreatDoor

/- append from whatever source to a row of one's own. -/
namespace Go.Proofs.YtchemhjcknkbgaaGreatDoor
open Go Go.RowKit Go.PlainAid
set_option linter.unusedSimpArgs false
set_option linter.unusedVariables false

theorem wpList_append_from {P : Program} {w : World} {ops : Array Oper} {rest : List Oper} {o : Oper} {a : Act} {Q : Exit → Act → World → Prop} (hgd : o.guard = none) (s x : Operand) (t : TypeId)
    (ho : o.op = .call { callee := .builtin .append, args := #[s, x], argTypes := #[t, t] })
    (base : Nat) (e : TypeId) (i : TypeInfo) (z : Value) (size bytes : Nat) (ht : P.underlying t = some (.slice e)) (hi : P.info? e = some i) (hz : i.zero = some z)
    (hsize : i.size = size) (hby : i.bytes = bytes) (hzs : z.cells.size = size) (hsz : 0 < size)
    (v : Value) (n : Nat) (xs : List Value) (hs : a.eval s = v) (hown : w.ownsRow base e size v n xs)
    (ax : Option Addr) (m c : Nat) (news : List Value) (hx : a.eval x = .slice ax m c) (hl : news.length = m * size) (hsrc : m = 0 ∧ ax = none ∨ ∃ ad, ax = some ad ∧ ∀ j u, news[j]? = some u → w.cell? (ad.add j) = some u) (h1 : ∀ u ∈ news, u.oneCell' = true)
    (h63 : n + m ≤ maxLen) (hbytes : (n + m) * bytes ≤ 140737488355328) (hbase : base ≤ w.heap.size)
    (h : ∀ v' w', w'.ownsRow base e size v' (n + m) (xs ++ news) → Below base w w' → wpList P ops Q rest (a.put o.dst v') w') : wpList P ops Q (o :: rest) a w := by
  rcases hsrc with ⟨rfl, rfl⟩ | ⟨ad, rfl, hnews⟩
  · have hn0 : news = [] := List.eq_nil_of_length_eq_zero (by simpa using hl)
    subst hn0
    obtain ⟨b0, cp, hv, hle⟩ : ∃ b0 cp, v = .slice b0 n cp ∧ n ≤ cp := by
      rcases hown.2 with ⟨h1, h2⟩ | ⟨g, cp, cur, h1, _, _, h4, _⟩
      · exact ⟨none, 0, by rw [h1, h2], by omega⟩
      · exact ⟨_, cp, h1, h4⟩
    refine wpList_plain hgd fun K hK' => ?_
    have hrun := run_append_nothing (P := P) w t t o.type e i ht hi b0 n cp hle (.slice none 0 c) (by rw [hsize]; exact Src.ofNil w ht c)
    rw [← hv] at hrun
    unfold Oper.wp
    simp [execOp, ho, resolve, invoke, builtin, hs, hx, hrun, Result.andThen]
    exact hK' _ _ (h v w (by simpa using hown) (Below.refl _ _))
  · refine wpList_append_own w hgd s x t ho base e i z size bytes ht hi hz hsize hby hzs hsz v n xs hs hown ad m c news hx hl hnews h1 h63 hbytes hbase ?_
    intro v' w' h2 h3 _
    exact h v' w' h2 ((Below.refl base w).grown h3 hbase (fun q hq => (hown.lt q hq).1))

end Go.Proofs.YtchemhjcknkbgaaGreatDoor
