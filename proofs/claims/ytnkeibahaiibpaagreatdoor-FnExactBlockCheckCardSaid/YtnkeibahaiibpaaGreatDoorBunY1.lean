/- The model's reader of sums in memory, and what its smallest methods do. -/
import Derived.Test.YtnkeibahaiibpaaGreatDoorProg
import Derived.Test.YtnkeibahaiibpaaGreatDoorBunY0
import Derived.BigQuiet
import Derived.Deep.RegionHeld3
import Derived.Deep.RegionWith
import Derived.WalkKit
import Derived.Orders
import Derived.Deep.Upon
import Derived.Deep.AppendLies
import Derived.ProofKit
import Derived.Handy
import Derived.PlainAid
namespace Go.Proofs.YtnkeibahaiibpaaGreatDoor
open Go.RowKit Go.PlainAid
set_option linter.unusedSimpArgs false
set_option linter.unusedVariables false

/-- a node: kind, number, name -/
abbrev Nd := Int × Int × ByteArray
def ndCells (l : List Nd) : List Value := l.flatMap fun x => [.int .i64 x.1, .int .i64 x.2.1, .string x.2.2]
theorem ndCells_len (l : List Nd) : (ndCells l).length = l.length * 3 := by
  induction l with
  | nil => rfl
  | cons x r ih => simp only [ndCells, List.flatMap_cons, List.length_append, List.length_cons, List.length_nil] at *; omega
theorem ndCells_snoc (l : List Nd) (x : Nd) : ndCells (l ++ [x]) = ndCells l ++ [.int .i64 x.1, .int .i64 x.2.1, .string x.2.2] := by
  simp [ndCells]

/-- what the reader holds -/
structure Par where
  at_ : Nat
  deep : Nat
  bad : Bool
  out : List Nd

/-- block p is a reader of s that holds st; its nodes' slice is v -/
structure ParAt (p : Nat) (w : World) (s : ByteArray) (st : Par) (v : Value) : Prop where
  c0 : w.cell? ⟨p, 0, none⟩ = some (.string s)
  c1 : w.cell? ⟨p, 1, none⟩ = some (.int .i64 st.at_)
  c2 : w.cell? ⟨p, 2, none⟩ = some (.int .i64 st.deep)
  c3 : w.cell? ⟨p, 3, none⟩ = some (.bool st.bad)
  c4 : w.cell? ⟨p, 4, none⟩ = some v
  open_ : ∀ j, w.frozen? ⟨p, j, none⟩ = false
  own : w.ownsRow (p + 1) 243 3 v st.out.length (ndCells st.out)

/-- between w and w' only the block p, the row that v owns and new blocks were written; the row of v' is v's or new -/
structure Touch (p : Nat) (v : Value) (w w' : World) (v' : Value) : Prop where
  os : w'.os = w.os
  tape : w'.tape = w.tape
  output : w'.output = w.output
  size : w.heap.size ≤ w'.heap.size
  block : ∀ k, k < w.heap.size → k ≠ p → some k ≠ v.ownBlock → w'.heap[k]? = w.heap[k]?
  own : v'.ownBlock = v.ownBlock ∨ ∀ k, v'.ownBlock = some k → w.heap.size ≤ k

theorem Touch.refl (p : Nat) (v : Value) (w : World) : Touch p v w w v := ⟨rfl, rfl, rfl, Nat.le_refl _, fun _ _ _ _ => rfl, .inl rfl⟩
theorem Touch.trans {p : Nat} {v v1 v2 : Value} {w w1 w2 : World} (h : Touch p v w w1 v1) (k : Touch p v1 w1 w2 v2) : Touch p v w w2 v2 := by
  refine ⟨k.os.trans h.os, k.tape.trans h.tape, k.output.trans h.output, Nat.le_trans h.size k.size, fun i hi hp hv => ?_, ?_⟩
  · refine (k.block i (Nat.lt_of_lt_of_le hi h.size) hp ?_).trans (h.block i hi hp hv)
    rcases h.own with e | e
    · rw [e]; exact hv
    · intro hc; have := e i hc.symm; omega
  · rcases k.own with e | e
    · rcases h.own with e' | e'
      · exact .inl (e.trans e')
      · exact .inr fun j hj => e' j (by rw [← e]; exact hj)
    · exact .inr fun j hj => Nat.le_trans h.size (e j hj)
theorem Touch.drewN {p : Nat} {v v' : Value} {w w' : World} (h : Touch p v w w' v') (n : Nat) : Touch p v w (w'.drewN n) v' := ⟨h.os, h.tape, h.output, h.size, h.block, h.own⟩
theorem Touch.drew {p : Nat} {v v' : Value} {w w' : World} (h : Touch p v w w' v') : Touch p v w w'.drew v' := ⟨h.os, h.tape, h.output, h.size, h.block, h.own⟩
theorem Touch.setCell {p : Nat} {v v' : Value} {w w' : World} (h : Touch p v w w' v') (j : Nat) (u : Value) : Touch p v w (w'.setCell ⟨p, j, none⟩ u) v' :=
  ⟨h.os, h.tape, h.output, by simpa [World.setCell] using h.size, fun k hk hp hv => (Below.heap_setCell _ _ _ _ (by simpa using hp)).trans (h.block k hk hp hv), h.own⟩
theorem Touch.below {p : Nat} {v v' : Value} {w w' : World} (h : Touch p v w w' v') {st : Par} {s : ByteArray} (hp : ParAt p w s st v) : Below p w w' := by
  have hlt : p < w.heap.size := World.block_lt_of_cell? w _ hp.c0
  refine ⟨h.os, h.tape, h.output, h.size, fun k hk => h.block k (by omega) (by omega) fun e => ?_⟩
  have := (hp.own.lt k e.symm).1
  omega
theorem ParAt.lt {p : Nat} {w : World} {s : ByteArray} {st : Par} {v : Value} (h : ParAt p w s st v) : p < w.heap.size := World.block_lt_of_cell? w _ h.c0

/-- one of the reader's cells is written -/
theorem ParAt.at1 {p : Nat} {w : World} {s : ByteArray} {st : Par} {v : Value} (h : ParAt p w s st v) (a : Nat) : ParAt p (w.setCell ⟨p, 1, none⟩ (.int .i64 a)) s { st with at_ := a } v :=
  ⟨by rw [setCell_ne _ _ _ _ _ (by decide)]; exact h.c0, World.cell?_setCell_same _ _ _ h.c1, by rw [setCell_ne _ _ _ _ _ (by decide)]; exact h.c2, by rw [setCell_ne _ _ _ _ _ (by decide)]; exact h.c3,
   by rw [setCell_ne _ _ _ _ _ (by decide)]; exact h.c4, fun j => by simpa using h.open_ j, ownsRow_setCell_below h.own (by simp) _⟩
theorem ParAt.deep1 {p : Nat} {w : World} {s : ByteArray} {st : Par} {v : Value} (h : ParAt p w s st v) (a : Nat) : ParAt p (w.setCell ⟨p, 2, none⟩ (.int .i64 a)) s { st with deep := a } v :=
  ⟨by rw [setCell_ne _ _ _ _ _ (by decide)]; exact h.c0, by rw [setCell_ne _ _ _ _ _ (by decide)]; exact h.c1, World.cell?_setCell_same _ _ _ h.c2, by rw [setCell_ne _ _ _ _ _ (by decide)]; exact h.c3,
   by rw [setCell_ne _ _ _ _ _ (by decide)]; exact h.c4, fun j => by simpa using h.open_ j, ownsRow_setCell_below h.own (by simp) _⟩
theorem ParAt.bad1 {p : Nat} {w : World} {s : ByteArray} {st : Par} {v : Value} (h : ParAt p w s st v) (a : Bool) : ParAt p (w.setCell ⟨p, 3, none⟩ (.bool a)) s { st with bad := a } v :=
  ⟨by rw [setCell_ne _ _ _ _ _ (by decide)]; exact h.c0, by rw [setCell_ne _ _ _ _ _ (by decide)]; exact h.c1, by rw [setCell_ne _ _ _ _ _ (by decide)]; exact h.c2, World.cell?_setCell_same _ _ _ h.c3,
   by rw [setCell_ne _ _ _ _ _ (by decide)]; exact h.c4, fun j => by simpa using h.open_ j, ownsRow_setCell_below h.own (by simp) _⟩
theorem ParAt.drewN {p : Nat} {w : World} {s : ByteArray} {st : Par} {v : Value} (h : ParAt p w s st v) (n : Nat) : ParAt p (w.drewN n) s st v := ⟨h.c0, h.c1, h.c2, h.c3, h.c4, h.open_, h.own⟩
theorem ParAt.drew {p : Nat} {w : World} {s : ByteArray} {st : Par} {v : Value} (h : ParAt p w s st v) : ParAt p w.drew s st v := ⟨h.c0, h.c1, h.c2, h.c3, h.c4, h.open_, h.own⟩
theorem ParAt.alloc {p : Nat} {w : World} {s : ByteArray} {st : Par} {v : Value} (h : ParAt p w s st v) (o : Obj) : ParAt p (w.alloc o) s st v := by
  have hlt := h.lt
  exact ⟨(World.cell?_alloc_past _ _ _ hlt).trans h.c0, (World.cell?_alloc_past _ _ _ hlt).trans h.c1, (World.cell?_alloc_past _ _ _ hlt).trans h.c2, (World.cell?_alloc_past _ _ _ hlt).trans h.c3,
    (World.cell?_alloc_past _ _ _ hlt).trans h.c4, fun j => (World.frozen?_alloc_past _ _ _ hlt).trans (h.open_ j), h.own.alloc o⟩
end Go.Proofs.YtnkeibahaiibpaaGreatDoor

/- The reader's skip, look and take. -/
namespace Go.Proofs.YtnkeibahaiibpaaGreatDoor
open Go.RowKit Go.PlainAid
set_option linter.unusedSimpArgs false
set_option linter.unusedVariables false

/-- the place of the next byte that is no blank -/
def skipF (s : ByteArray) : Nat → Nat → Nat
  | 0, a => a
  | f + 1, a => if a < s.size ∧ bt s a = 32 then skipF s f (a + 1) else a
def skipTo (s : ByteArray) (a : Nat) : Nat := skipF s (s.size - a) a
theorem skipTo_step {s : ByteArray} {a : Nat} (h : a < s.size) (hb : bt s a = 32) : skipTo s a = skipTo s (a + 1) := by
  unfold skipTo
  rw [show s.size - a = (s.size - (a + 1)) + 1 from by omega, skipF, if_pos ⟨h, hb⟩]
theorem skipTo_stop {s : ByteArray} {a : Nat} (h : ¬ (a < s.size ∧ bt s a = 32)) : skipTo s a = a := by
  unfold skipTo
  cases s.size - a with
  | zero => rfl
  | succ f => rw [skipF, if_neg h]
theorem skipF_le (s : ByteArray) (f : Nat) : ∀ a, a ≤ skipF s f a ∧ (a ≤ s.size → skipF s f a ≤ s.size) := by
  induction f with
  | zero => intro a; simp [skipF]
  | succ f ih =>
    intro a
    unfold skipF
    split
    · have := ih (a + 1); omega
    · omega
theorem skipTo_le {s : ByteArray} {a : Nat} (h : a ≤ s.size) : a ≤ skipTo s a ∧ skipTo s a ≤ s.size := ⟨(skipF_le s _ a).1, (skipF_le s _ a).2 h⟩

set_option maxHeartbeats 800000 in
theorem skip_any (p : Nat) (s : ByteArray) (st : Par) (v : Value) (w : World) (hs : s.size ≤ maxLen) (ha : st.at_ ≤ s.size) (h : ParAt p w s st v) :
    Calls Tryz.prog 210 #[.pointer (some ⟨p, 0, none⟩)] w fun e w' => e = .returned (.tuple #[]) ∧ ParAt p w' s { st with at_ := skipTo s st.at_ } v ∧ Touch p v w w' v := by
  unfold maxLen at hs
  have hb := get_bt s
  have HP : Hid (ParAt p w s st v) := h
  clear h
  go_enter Tryz.func210, Tryz.ntmps210
  go_wp2_with fail
  go_loopw [] (fun wr => ∃ k : Nat, k ≤ s.size ∧ Hid (skipTo s k = skipTo s st.at_) ∧ Hid (ParAt p wr s { st with at_ := k } v) ∧ Touch p v w wr v) (fun wr => s.size - (intOf ((wr.cell? ⟨p, 1, none⟩).getD undef)).toNat)
  case atStart => exact ⟨st.at_, ha, rfl, HP.out, Touch.refl _ _ _⟩
  case round =>
    obtain ⟨k, hk, hsk, hpar, ht⟩ := hrel
    obtain ⟨c0, c1, c2, c3, c4, ho, hown⟩ := hpar.out
    simp only at c1 c2 c3 c4
    clear c2 c3 c4 hown
    by_cases hlt : k < s.size
    · have hltI : (k : Int) < s.size := by omega
      by_cases h32 : bt s k = 32
      · have h32' : (bt s k == 32) = true := by simp [h32]
        have HN : Hid (skipTo s (k + 1) = skipTo s st.at_) := (skipTo_step hlt h32).symm.trans hsk.out
        clear h32
        go_wp2_with fail
        go_quiet (fail)
        go_wp2_with fail
        go_roundw
        case rel => exact ⟨k + 1, by omega, HN.out, (hpar.out.drewN _).at1 (k + 1), (ht.drewN _).setCell _ _⟩
        case measure =>
          rw [World.cell?_setCell_same (wr.drewN nq) ⟨p, 1, none⟩ _ (u := .int .i64 k) c1, c1]
          simp [intOf]; omega
      · have h32' : (bt s k == 32) = false := by simp [h32]
        have HN : Hid (k = skipTo s st.at_) := (skipTo_stop (fun h => h32 h.2)).symm.trans hsk.out
        clear h32
        go_wp2_with fail
        go_quiet (fail)
        go_wp2_with fail
        go_end0
        refine ⟨rfl, ?_, ht.drewN _⟩
        rw [← HN.out]; exact hpar.out.drewN _
    · have hd : decide ((k : Int) < s.size) = false := by simp; omega
      have HN : Hid (k = skipTo s st.at_) := (skipTo_stop (fun h => hlt h.1)).symm.trans hsk.out
      go_wp2_with fail
      go_quiet (fail)
      go_wp2_with fail
      go_end0
      refine ⟨rfl, ?_, ht.drewN _⟩
      rw [← HN.out]; exact hpar.out.drewN _

/-- the byte at a place; 0 behind the end -/
theorem look_any (p : Nat) (s : ByteArray) (st : Par) (v : Value) (w : World) (hs : s.size ≤ maxLen) (ha : st.at_ ≤ s.size) (h : ParAt p w s st v) :
    Calls Tryz.prog 247 #[.pointer (some ⟨p, 0, none⟩)] w fun e w' => e = .returned (.int .u8 (bt s (skipTo s st.at_))) ∧ ParAt p w' s { st with at_ := skipTo s st.at_ } v ∧ Touch p v w w' v := by
  have hb := get_bt s
  have HP : Hid (ParAt p w s st v) := h
  have hle := skipTo_le ha
  clear h
  go_enter Tryz.func247, Tryz.ntmps247
  go_wp2_with fail
  refine (skip_any p s st v _ hs ha HP.out).mono ?_
  rintro e w1 ⟨rfl, hp1, ht1⟩
  have HP1 : Hid (ParAt p w1 s { st with at_ := skipTo s st.at_ } v) := hp1
  obtain ⟨c0, c1, c2, c3, c4, ho, hown⟩ := hp1
  simp only at c1
  unfold maxLen at hs
  obtain ⟨k, hk⟩ : ∃ k, skipTo s st.at_ = k := ⟨_, rfl⟩
  have HK : Hid (skipTo s st.at_ = k) := hk
  rw [hk] at HP1 c1 hle
  clear c2 c3 c4 hown ho hk
  by_cases hlt : k < s.size
  · have hltI : (k : Int) < s.size := by omega
    have hd : decide ((k : Int) < s.size) = true := by simp; omega
    go_wp2_with fail
    go_quiet (fail)
    go_wp2_with fail
    go_quiet (fail)
    go_wp2_with fail
    go_ret
    rw [HK.out]
    exact ⟨rfl, (HP1.out.drewN _).drewN _, (ht1.drewN _).drewN _⟩
  · have hd : decide ((k : Int) < s.size) = false := by simp; omega
    have HB : Hid (bt s k = 0) := bt_end s (by omega)
    go_wp2_with fail
    go_quiet (fail)
    go_wp2_with fail
    go_ret
    rw [HK.out]
    exact ⟨by rw [HB.out]; rfl, HP1.out.drewN _, ht1.drewN _⟩
end Go.Proofs.YtnkeibahaiibpaaGreatDoor

/- What moves: one block that a reader owns, and new blocks. -/
namespace Go.Proofs.YtnkeibahaiibpaaGreatDoor
open Go Go.RowKit Go.PlainAid

/-- all that was is as it was, but the reader -/
structure Mv (p : Nat) (w w' : World) : Prop where
  os : w'.os = w.os
  tape : w'.tape = w.tape
  output : w'.output = w.output
  size : w.heap.size ≤ w'.heap.size
  block : ∀ g, g < w.heap.size → g ≠ p → w'.heap[g]? = w.heap[g]?
theorem Mv.refl (p : Nat) (w : World) : Mv p w w := ⟨rfl, rfl, rfl, Nat.le_refl _, fun _ _ _ => rfl⟩
theorem Mv.trans {p : Nat} {a b c : World} (h : Mv p a b) (k : Mv p b c) : Mv p a c :=
  ⟨k.os.trans h.os, k.tape.trans h.tape, k.output.trans h.output, Nat.le_trans h.size k.size, fun g h1 h2 => (k.block g (Nat.lt_of_lt_of_le h1 h.size) h2).trans (h.block g h1 h2)⟩
theorem Mv.of_below {p : Nat} {w w' : World} (h : Below w.heap.size w w') : Mv p w w' := ⟨h.os, h.tape, h.output, h.size, fun g h1 _ => h.block g h1⟩
theorem Mv.step (p : Nat) (w : World) (v : Value) (d : Nat) : Mv p w ((w.setCell ⟨p, 1, none⟩ v).drewN d) :=
  ⟨rfl, rfl, rfl, by simp [World.drewN, World.setCell], fun g _ h2 => Below.heap_setCell w ⟨p, 1, none⟩ v g h2⟩
theorem Mv.cell {p : Nat} {w w' : World} (h : Mv p w w') (j : Nat) (v : Value) : Mv p w (w'.setCell ⟨p, j, none⟩ v) :=
  ⟨h.os, h.tape, h.output, by simpa [World.setCell] using h.size, fun b h1 h2 => (Below.heap_setCell w' ⟨p, j, none⟩ v b (by simpa using h2)).trans (h.block b h1 h2)⟩
theorem Mv.drewN {p : Nat} {w w' : World} (h : Mv p w w') (n : Nat) : Mv p w (w'.drewN n) := ⟨h.os, h.tape, h.output, h.size, h.block⟩
theorem Mv.fresh {w w1 w2 : World} (hb : Below w.heap.size w w1) (hm : Mv w.heap.size w1 w2) : Below w.heap.size w w2 :=
  ⟨hm.os.trans hb.os, hm.tape.trans hb.tape, hm.output.trans hb.output, Nat.le_trans hb.size hm.size, fun q hq => (hm.block q (Nat.lt_of_lt_of_le hq hb.size) (by omega)).trans (hb.block q hq)⟩
end Go.Proofs.YtnkeibahaiibpaaGreatDoor

/- A region whose operations may come up in more than one order, by one invariant: it says what holds when these operations have come up and the others have not. -/
namespace Go.Proofs.YtnkeibahaiibpaaGreatDoor
open Go

/-- how many operations have not come up yet -/
def leftOf (listed : Array Bool) : Nat := (listed.toList.filter (fun b => !b)).length

theorem left_set (l : List Bool) : ∀ i, l[i]? = some false → ((l.set i true).filter (fun b => !b)).length + 1 = (l.filter (fun b => !b)).length := by
  induction l with
  | nil => intro i h; simp at h
  | cons x r ih =>
    intro i h
    cases i with
    | zero => simp at h; subst h; simp
    | succ i =>
      have := ih i (by simpa using h)
      cases x <;> simp [List.set] <;> omega
theorem leftOf_set {listed : Array Bool} {i : Nat} (hi : i < listed.size) (h : listed[i] = false) : leftOf (listed.setIfInBounds i true) + 1 = leftOf listed := by
  unfold leftOf
  rw [Array.toList_setIfInBounds]
  exact left_set _ i (by simp [hi, h])
theorem ready_mem {md : Region.Mode} {ops : Array Oper} {listed : Array Bool} {i : Nat} (h : i ∈ Region.ready md ops listed) : i < ops.size ∧ listed.getD i true = false ∧ ∀ o, ops[i]? = some o → ∀ e ∈ o.after, Region.binds md e = true → listed.getD e.on false = true := by
  unfold Region.ready at h
  rw [List.mem_filter] at h
  obtain ⟨h1, h2⟩ := h
  simp only [Bool.and_eq_true] at h2
  refine ⟨by simpa using h1, by simpa using h2.1, fun o ho e he hb => ?_⟩
  have h3 := h2.2
  rw [ho] at h3
  simp only [Option.map_some, Option.getD_some, Array.all_eq_true'] at h3
  have := h3 e he
  rw [hb] at this
  simpa using this

theorem wpAny_inv {P : Program} {md : Region.Mode} {ops : Array Oper} {Q : Exit → Act → World → Prop} (Inv : Array Bool → Act → World → Prop) (hsize : ∀ listed a w, Inv listed a w → listed.size = ops.size)
    (hstep : ∀ listed a w i, Inv listed a w → i ∈ Region.ready md ops listed → wpOp P ops Q i (Inv (listed.setIfInBounds i true)) a w)
    (hend : ∀ listed a w, Inv listed a w → Region.ready md ops listed = [] → Q .normal a w) :
    ∀ (fuel : Nat) (listed : Array Bool) (a : Act) (w : World), leftOf listed ≤ fuel → Inv listed a w → wpAny P md ops Q fuel listed a w := by
  intro fuel
  induction fuel with
  | zero =>
    intro listed a w hl hI
    have hr : Region.ready md ops listed = [] := by
      cases e : Region.ready md ops listed with
      | nil => rfl
      | cons i r =>
        have hm : i ∈ Region.ready md ops listed := by rw [e]; simp
        obtain ⟨h1, h2, _⟩ := ready_mem hm
        have hi : i < listed.size := by rw [hsize _ _ _ hI]; exact h1
        have h3 : listed[i] = false := by simpa [Array.getD, hi] using h2
        have := leftOf_set hi h3
        omega
    exact ⟨hr, hend _ _ _ hI hr⟩
  | succ fuel ih =>
    intro listed a w hl hI
    refine ⟨hend _ _ _ hI, fun i hi => ?_⟩
    obtain ⟨h1, h2, _⟩ := ready_mem hi
    have hlt : i < listed.size := by rw [hsize _ _ _ hI]; exact h1
    have h3 : listed[i] = false := by simpa [Array.getD, hlt] using h2
    have h4 := leftOf_set hlt h3
    exact wpOp_mono (fun a' w' hI' => ih _ a' w' (by omega) hI') (hstep _ _ _ i hI hi)
end Go.Proofs.YtnkeibahaiibpaaGreatDoor

/- What is left of a size, and sums over lists. -/
namespace Go.Proofs.YtnkeibahaiibpaaGreatDoor
open Go Go.RowKit Go.PlainAid
set_option linter.unusedSimpArgs false
set_option linter.unusedVariables false

/-- what is left, and that what was counted is small -/
def SzP (W : Nat) (left : Int) (w : World) (e : Ending) (w' : World) : Prop := ∃ r : Int, e = .returned (.int .i64 r) ∧ Below w.heap.size w w' ∧ r ≤ left ∧ -1 ≤ r ∧ (0 ≤ r → r + W = left)
def wsum {α : Type} (f : α → Nat) (l : List α) : Nat := (l.map f).sum
theorem wsum_take {α : Type} (f : α → Nat) (l : List α) {k : Nat} (h : k < l.length) : wsum f (l.take (k + 1)) = wsum f (l.take k) + f l[k] := by
  unfold wsum
  rw [List.take_succ_eq_append_getElem h, List.map_append, List.sum_append]; simp
theorem wsum_mem {α : Type} {f : α → Nat} {l : List α} {x : α} (h : x ∈ l) : f x ≤ wsum f l := by
  unfold wsum
  induction l with
  | nil => simp at h
  | cons y r ih =>
    simp only [List.map_cons, List.sum_cons]
    rcases List.mem_cons.1 h with rfl | h
    · omega
    · have := ih h; omega
theorem wrap_sub {left : Int} {n : Nat} (h0 : 0 ≤ left) (h1 : left ≤ 1048576) (hn : n ≤ 9223372036854775807) : IntKind.i64.wrap (left - n) = left - n := by rw [IntKind.wrap_i64]; omega
end Go.Proofs.YtnkeibahaiibpaaGreatDoor

/- append from whatever source to a row of one's own. -/
namespace Go.Proofs.YtnkeibahaiibpaaGreatDoor
open Go Go.RowKit Go.PlainAid
set_option linter.unusedSimpArgs false
set_option linter.unusedVariables false

theorem wpList_append_from {P : Program} {w : World} {ops : Array Oper} {rest : List Oper} {o : Oper} {a : Act} {Q : Exit → Act → World → Prop} (hgd : o.guard = none) (s x : Operand) (t : TypeId)
    (ho : o.op = .call { callee := .builtin .append, args := #[s, x], argTypes := #[t, t] })
    (base : Nat) (e : TypeId) (i : TypeInfo) (z : Value) (size bytes : Nat) (ht : P.underlying t = some (.slice e)) (hi : P.info? e = some i) (hz : i.zero = some z)
    (hsize : i.size = size) (hby : i.bytes = bytes) (hzs : z.cells.size = size) (hsz : 0 < size)
    (v : Value) (n : Nat) (xs : List Value) (hs : a.eval s = v) (hown : w.ownsRow base e size v n xs)
    (ax : Option Addr) (m c : Nat) (news : List Value) (hx : a.eval x = .slice ax m c) (hl : news.length = m * size) (hsrc : m = 0 ∧ ax = none ∨ ∃ ad, ax = some ad ∧ ∀ j u, news[j]? = some u → w.cell? (ad.add j) = some u) (h1 : ∀ u ∈ news, u.oneCell' = true)
    (h63 : n + m ≤ maxLen) (hbytes : (n + m) * bytes ≤ 140737488355328) (hbase : base ≤ w.heap.size)
    (h : ∀ v' w', w'.ownsRow base e size v' (n + m) (xs ++ news) → Below base w w' → wpList P ops Q rest (a.put o.dst v') w') : wpList P ops Q (o :: rest) a w := by
  rcases hsrc with ⟨rfl, rfl⟩ | ⟨ad, rfl, hnews⟩
  · have hn0 : news = [] := List.eq_nil_of_length_eq_zero (by simpa using hl)
    subst hn0
    obtain ⟨b0, cp, hv, hle⟩ : ∃ b0 cp, v = .slice b0 n cp ∧ n ≤ cp := by
      rcases hown.2 with ⟨h1, h2⟩ | ⟨g, cp, cur, h1, _, _, h4, _⟩
      · exact ⟨none, 0, by rw [h1, h2], by omega⟩
      · exact ⟨_, cp, h1, h4⟩
    refine wpList_plain hgd fun K hK' => ?_
    have hrun := run_append_nothing (P := P) w t t o.type e i ht hi b0 n cp hle (.slice none 0 c) (by rw [hsize]; exact Src.ofNil w ht c)
    rw [← hv] at hrun
    unfold Oper.wp
    simp [execOp, ho, resolve, invoke, builtin, hs, hx, hrun, Result.andThen]
    exact hK' _ _ (h v w (by simpa using hown) (Below.refl _ _))
  · refine wpList_append_own w hgd s x t ho base e i z size bytes ht hi hz hsize hby hzs hsz v n xs hs hown ad m c news hx hl hnews h1 h63 hbytes hbase ?_
    intro v' w' h2 h3 _
    exact h v' w' h2 ((Below.refl base w).grown h3 hbase (fun q hq => (hown.lt q hq).1))

end Go.Proofs.YtnkeibahaiibpaaGreatDoor
