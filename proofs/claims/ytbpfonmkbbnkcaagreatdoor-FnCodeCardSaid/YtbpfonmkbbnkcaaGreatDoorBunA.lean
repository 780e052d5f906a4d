/- Small facts on memory that serve every walk here: what a call leaves of old cells, a new row that is filled cell by cell. -/
import Derived.WalkKit
import Derived.ProofKit
import Derived.Handy
import Derived.PlainAid
import Derived.WalkLawsBesides
import Derived.Test.YtbpfonmkbbnkcaaGreatDoorRows
import Derived.BigQuiet
import Derived.Deep.RegionHeld3
import Derived.Deep.RegionWith
import Derived.WalkSpells
import Derived.Deep.RegionLaw
import Derived.Deep.AppendLies
import Derived.Lib.Strings
namespace Go.Proofs.YtbpfonmkbbnkcaaGreatDoor
open Go.RowKit Go.PlainAid

/-- behind a call that makes memory: all old cells and marks read as before -/
theorem bcell {W w1 : World} (hb : Below W.heap.size W w1) : (∀ b o, b < W.heap.size → w1.cell? ⟨b, o, none⟩ = W.cell? ⟨b, o, none⟩) ∧ (∀ b o, b < W.heap.size → w1.frozen? ⟨b, o, none⟩ = W.frozen? ⟨b, o, none⟩) :=
  ⟨fun b o h => hb.cell (p := ⟨b, o, none⟩) h, fun b o h => hb.frozen (p := ⟨b, o, none⟩) h⟩

theorem undrew {w w' : World} (h : Below w.drew.heap.size w.drew w') : Below w.heap.size w w' := ⟨h.os, h.tape, h.output, h.size, h.block⟩

theorem drewN {B : Nat} {a w : World} (h : Below B a w) (n : Nat) : Below B a (w.drewN n) := below_drewN h n

theorem ret_bool {a b : Bool} (h : a = b) : Ending.returned (.bool a) = .returned (.bool b) := by rw [h]
theorem ret_int {k : IntKind} {a b : Int} (h : a = b) : Ending.returned (.int k a) = .returned (.int k b) := by rw [h]

/-- the row B (of N cells) that is being filled: its first m cells are F's -/
structure Fill (B : Nat) (w wr : World) (N m : Nat) (F : Nat → Value) : Prop where
  below : Below B w wr
  lt : B < wr.heap.size
  open_ : ∀ j, wr.frozen? ⟨B, j, none⟩ = false
  there : ∀ j, j < N → ∃ v, wr.cell? ⟨B, j, none⟩ = some v
  done : ∀ j, j < m → wr.cell? ⟨B, j, none⟩ = some (F j)

theorem Fill.call {B : Nat} {w wr w' : World} {N m : Nat} {F : Nat → Value} (h : Fill B w wr N m F) (hb : Below wr.heap.size wr w') : Fill B w w' N m F := by
  have hlt := h.lt
  refine ⟨h.below.trans (hb.mono (by omega)), by have := hb.size; omega, fun j => ?_, fun j hj => ?_, fun j hj => ?_⟩
  · rw [hb.frozen hlt]; exact h.open_ j
  · obtain ⟨v, hv⟩ := h.there j hj; exact ⟨v, by rw [hb.cell hlt]; exact hv⟩
  · rw [hb.cell hlt]; exact h.done j hj

theorem Fill.store {B : Nat} {w wr : World} {N m : Nat} {F : Nat → Value} (h : Fill B w wr N m F) (hm : m < N) {v : Value} (hv : v = F m) : Fill B w (wr.setCell ⟨B, m, none⟩ v) N (m + 1) F := by
  obtain ⟨v0, h0⟩ := h.there m hm
  refine ⟨h.below.setCell (by simp) _, by simpa [World.setCell] using h.lt, fun j => ?_, fun j hj => ?_, fun j hj => ?_⟩
  · simpa using h.open_ j
  · by_cases e : j = m
    · subst e; exact ⟨v, World.cell?_setCell_same _ _ _ h0⟩
    · obtain ⟨u, hu⟩ := h.there j hj
      exact ⟨u, by rw [World.cell?_setCell_other _ _ _ _ (by intro hh; injection hh with _ h2; omega)]; exact hu⟩
  · by_cases e : j = m
    · subst e; subst hv; exact World.cell?_setCell_same _ _ _ h0
    · rw [World.cell?_setCell_other _ _ _ _ (by intro hh; injection hh with _ h2; omega)]; exact h.done j (by omega)

theorem Fill.start (w : World) (cs : Array Value) (t : TypeId) (F : Nat → Value) : Fill w.heap.size w (w.alloc (.cells cs t)) cs.size 0 F := by
  refine ⟨(Below.refl _ _).alloc (Nat.le_refl _) _, by simp, fun j => by simp, fun j hj => ⟨cs[j], by simp [hj]⟩, fun j hj => by omega⟩
end Go.Proofs.YtbpfonmkbbnkcaaGreatDoor

/- The walks for names: what NameOk of the program and of the model come to, for every string. -/
namespace Go.Proofs.YtbpfonmkbbnkcaaGreatDoor
open Go.RowKit Go.PlainAid

def letB (n : Int) : Bool := decide (97 ≤ n ∧ n ≤ 122)
def figB (n : Int) : Bool := decide (48 ≤ n ∧ n ≤ 57)

theorem isLetter_any (n : Int) (w : World) : Calls Tryz.prog 124 #[.int .u8 n] w fun e w' => e = .returned (.bool (letB n)) ∧ w' = w := by
  by_cases h1 : 97 ≤ n
  · go_enter Tryz.func124, Tryz.ntmps124
    go_wp2
    go_ret
    exact ⟨ret_bool (by simp [letB, h1]), rfl⟩
  · go_enter Tryz.func124, Tryz.ntmps124
    go_wp2
    go_ret
    exact ⟨ret_bool (by simp [letB]; omega), rfl⟩
theorem isFigure_any (n : Int) (w : World) : Calls Tryz.prog 129 #[.int .u8 n] w fun e w' => e = .returned (.bool (figB n)) ∧ w' = w := by
  by_cases h1 : 48 ≤ n
  · go_enter Tryz.func129, Tryz.ntmps129
    go_wp2
    go_ret
    exact ⟨ret_bool (by simp [figB, h1]), rfl⟩
  · go_enter Tryz.func129, Tryz.ntmps129
    go_wp2
    go_ret
    exact ⟨ret_bool (by simp [figB]; omega), rfl⟩
theorem l1Letter_any (n : Int) (w : World) : Calls Tryz.prog 113 #[.int .u8 n] w fun e w' => e = .returned (.bool (letB n)) ∧ w' = w := by
  by_cases h1 : 97 ≤ n
  · go_enter Tryz.func113, Tryz.ntmps113
    go_wp2
    go_ret
    exact ⟨ret_bool (by simp [letB, h1]), rfl⟩
  · go_enter Tryz.func113, Tryz.ntmps113
    go_wp2
    go_ret
    exact ⟨ret_bool (by simp [letB]; omega), rfl⟩
theorem l1Figure_any (n : Int) (w : World) : Calls Tryz.prog 114 #[.int .u8 n] w fun e w' => e = .returned (.bool (figB n)) ∧ w' = w := by
  by_cases h1 : 48 ≤ n
  · go_enter Tryz.func114, Tryz.ntmps114
    go_wp2
    go_ret
    exact ⟨ret_bool (by simp [figB, h1]), rfl⟩
  · go_enter Tryz.func114, Tryz.ntmps114
    go_wp2
    go_ret
    exact ⟨ret_bool (by simp [figB]; omega), rfl⟩
theorem l1In_any (n lo hi : Int) (w : World) : Calls Tryz.prog 95 #[.int .i64 n, .int .i64 lo, .int .i64 hi] w fun e w' => e = .returned (.bool (decide (lo ≤ n ∧ n ≤ hi))) ∧ w' = w := by
  by_cases h1 : lo ≤ n
  · go_enter Tryz.func95, Tryz.ntmps95
    go_wp2
    go_ret
    exact ⟨ret_bool (by simp [h1]), rfl⟩
  · go_enter Tryz.func95, Tryz.ntmps95
    go_wp2
    go_ret
    exact ⟨ret_bool (by simp; omega), rfl⟩
theorem isNameByte_any (n : Int) (w : World) : Calls Tryz.prog 125 #[.int .u8 n] w fun e w' => e = .returned (.bool (letB n || figB n)) ∧ w' = w := by
  cases h1 : letB n
  · go_enter Tryz.func125, Tryz.ntmps125
    go_wp2_with (first | (go_at_call 124; refine (isLetter_any _ _).mono ?_; rintro e w' ⟨rfl, rfl⟩) | (go_at_call 129; refine (isFigure_any _ _).mono ?_; rintro e w' ⟨rfl, rfl⟩))
    go_ret
    exact ⟨ret_bool (by simp), rfl⟩
  · go_enter Tryz.func125, Tryz.ntmps125
    go_wp2_with (first | (go_at_call 124; refine (isLetter_any _ _).mono ?_; rintro e w' ⟨rfl, rfl⟩) | (go_at_call 129; refine (isFigure_any _ _).mono ?_; rintro e w' ⟨rfl, rfl⟩))
    go_ret
    exact ⟨ret_bool (by simp), rfl⟩

/-- byte k may stand in a name -/
def okAt (s : ByteArray) (k : Nat) : Bool := letB (bt s k) || (!(k == 0) && figB (bt s k))
/-- the first k bytes may -/
def okTo (s : ByteArray) : Nat → Bool
  | 0 => true
  | k + 1 => okTo s k && okAt s k
def nmB (s : ByteArray) : Bool := decide (1 ≤ s.size ∧ s.size ≤ 6) && okTo s s.size

theorem okTo_le (s : ByteArray) {j k : Nat} (h : j ≤ k) (hk : okTo s k = true) : okTo s j = true := by
  induction k with
  | zero => have : j = 0 := by omega
            subst this; rfl
  | succ k ih =>
    by_cases e : j = k + 1
    · subst e; exact hk
    · simp [okTo] at hk; exact ih (by omega) hk.1
theorem okTo_no (s : ByteArray) {k n : Nat} (h : k < n) (hk : okAt s k = false) : okTo s n = false := by
  cases e : okTo s n with
  | false => rfl
  | true => have := okTo_le s (j := k + 1) (by omega) e
            simp [okTo, hk] at this

set_option maxHeartbeats 400000 in
theorem l1Name_any (s : ByteArray) (w : World) (hs : s.size ≤ maxLen) : Calls Tryz.prog 97 #[.string s] w fun e w' => e = .returned (.bool (nmB s)) ∧ w' = w := by
  unfold maxLen at hs
  have hb := get_bt s
  go_enter Tryz.func97, Tryz.ntmps97
  go_wp2
  go_loop [3] (fun i => ∃ k : Nat, k ≤ s.size ∧ i = .int .i64 k ∧ okTo s k = true) (fun i => s.size - (intOf i).toNat)
  case atStart => exact ⟨0, Nat.zero_le _, rfl, rfl⟩
  case round =>
    obtain ⟨k, hk, rfl, hok⟩ := hrel
    by_cases hlt : k < s.size
    · cases hl : letB (bt s k)
      · by_cases h0 : k = 0
        · subst h0
          have hno : okTo s s.size = false := okTo_no s hlt (by simp [okAt, hl])
          go_wp2_with (first | (go_at_call 113; refine (l1Letter_any _ _).mono ?_; rintro e w' ⟨rfl, rfl⟩) | (go_at_call 114; refine (l1Figure_any _ _).mono ?_; rintro e w' ⟨rfl, rfl⟩))
          go_ret
          exact ⟨ret_bool (by simp [nmB, hno]), rfl⟩
        · have h0' : ((k : Int) == 0) = false := by simp; omega
          cases hf : figB (bt s k)
          · have hno : okTo s s.size = false := okTo_no s hlt (by simp [okAt, hl, hf])
            go_wp2_with (first | (go_at_call 113; refine (l1Letter_any _ _).mono ?_; rintro e w' ⟨rfl, rfl⟩) | (go_at_call 114; refine (l1Figure_any _ _).mono ?_; rintro e w' ⟨rfl, rfl⟩))
            go_ret
            exact ⟨ret_bool (by simp [nmB, hno]), rfl⟩
          · go_wp2_with (first | (go_at_call 113; refine (l1Letter_any _ _).mono ?_; rintro e w' ⟨rfl, rfl⟩) | (go_at_call 114; refine (l1Figure_any _ _).mono ?_; rintro e w' ⟨rfl, rfl⟩))
            go_round
            case rel => exact ⟨k + 1, by omega, by go_num, by simp [okTo, hok, okAt, hf, h0]⟩
            case measure => simp [intOf]; omega
      · go_wp2_with (first | (go_at_call 113; refine (l1Letter_any _ _).mono ?_; rintro e w' ⟨rfl, rfl⟩) | (go_at_call 114; refine (l1Figure_any _ _).mono ?_; rintro e w' ⟨rfl, rfl⟩))
        go_round
        case rel => exact ⟨k + 1, by omega, by go_num, by simp [okTo, hok, okAt, hl]⟩
        case measure => simp [intOf]; omega
    · have : k = s.size := by omega
      subst this
      go_wp2_with (go_at_call 95; refine (l1In_any _ _ _ _).mono ?_; rintro e w' ⟨rfl, rfl⟩)
      go_ret
      exact ⟨ret_bool (by rw [nmB, hok, Bool.and_true, Bool.decide_and]; congr 1 <;> exact decide_eq_decide.2 (by omega)), rfl⟩

theorem okTo_one (s : ByteArray) : okTo s 1 = letB (bt s 0) := by simp [okTo, okAt]
set_option maxHeartbeats 400000 in
theorem implNameOk_any (s : ByteArray) (w : World) (hs : s.size ≤ maxLen) : Calls Tryz.prog 112 #[.string s] w fun e w' => e = .returned (.bool (nmB s)) ∧ w' = w := by
  unfold maxLen at hs
  have hb := get_bt s
  by_cases h1 : s.size < 1
  · have hn : nmB s = false := by simp [nmB]; omega
    go_enter Tryz.func112, Tryz.ntmps112
    go_wp2_with fail
    go_ret
    exact ⟨rfl, rfl⟩
  by_cases h2 : 6 < s.size
  · have hn : nmB s = false := by simp [nmB]; omega
    go_enter Tryz.func112, Tryz.ntmps112
    go_wp2_with fail
    go_ret
    exact ⟨rfl, rfl⟩
  have hs0 : 0 < s.size := by omega
  cases hl : letB (bt s 0)
  · have hn : nmB s = false := by simp [nmB, okTo_no s hs0 (by simp [okAt, hl])]
    go_enter Tryz.func112, Tryz.ntmps112
    go_wp2_with (go_at_call 124; refine (isLetter_any _ _).mono ?_; rintro e w' ⟨rfl, rfl⟩)
    go_ret
    exact ⟨ret_bool hn.symm, rfl⟩
  have H1 : okTo s 1 = true := by rw [okTo_one]; exact hl
  go_enter Tryz.func112, Tryz.ntmps112
  go_wp2_with (go_at_call 124; refine (isLetter_any _ _).mono ?_; rintro e w' ⟨rfl, rfl⟩)
  go_loop [3] (fun i => ∃ k : Nat, 1 ≤ k ∧ k ≤ s.size ∧ i = .int .i64 k ∧ okTo s k = true) (fun i => s.size - (intOf i).toNat)
  case atStart => exact ⟨1, by omega, by omega, rfl, H1⟩
  case round =>
    obtain ⟨k, hk1, hk, rfl, hok⟩ := hrel
    by_cases hlt : k < s.size
    · cases hl : (letB (bt s k) || figB (bt s k))
      · have hno : okTo s s.size = false := okTo_no s hlt (by simp at hl; simp [okAt, hl])
        go_wp2_with (go_at_call 125; refine (isNameByte_any _ _).mono ?_; rintro e w' ⟨rfl, rfl⟩)
        go_ret
        exact ⟨ret_bool (by simp [nmB, hno]), rfl⟩
      · have HS : Hid (okTo s (k + 1) = true) := by
          have : okTo s (k + 1) = true := by
            simp at hl; simp [okTo, hok, okAt]; rcases hl with h | h <;> simp [h]; omega
          exact this
        go_wp2_with (go_at_call 125; refine (isNameByte_any _ _).mono ?_; rintro e w' ⟨rfl, rfl⟩)
        go_round
        case rel => exact ⟨k + 1, by omega, by omega, by go_num, HS.out⟩
        case measure => simp [intOf]; omega
    · have : k = s.size := by omega
      subst this
      go_wp2
      go_ret
      exact ⟨ret_bool (by rw [nmB, hok, Bool.and_true]; simp; omega), rfl⟩
end Go.Proofs.YtbpfonmkbbnkcaaGreatDoor

/- The model's reader of sums in memory, and what its smallest methods do. -/
namespace Go.Proofs.YtbpfonmkbbnkcaaGreatDoor
open Go.RowKit Go.PlainAid
set_option linter.unusedSimpArgs false
set_option linter.unusedVariables false

/-- a node: kind, number, name -/
abbrev Nd := Int × Int × ByteArray
def ndCells (l : List Nd) : List Value := l.flatMap fun x => [.int .i64 x.1, .int .i64 x.2.1, .string x.2.2]
theorem ndCells_len (l : List Nd) : (ndCells l).length = l.length * 3 := by
  induction l with
  | nil => rfl
  | cons x r ih => simp only [ndCells, List.flatMap_cons, List.length_append, List.length_cons, List.length_nil] at *; omega
theorem ndCells_snoc (l : List Nd) (x : Nd) : ndCells (l ++ [x]) = ndCells l ++ [.int .i64 x.1, .int .i64 x.2.1, .string x.2.2] := by
  simp [ndCells]

/-- what the reader holds -/
structure Par where
  at_ : Nat
  deep : Nat
  bad : Bool
  out : List Nd

/-- block p is a reader of s that holds st; its nodes' slice is v -/
structure ParAt (p : Nat) (w : World) (s : ByteArray) (st : Par) (v : Value) : Prop where
  c0 : w.cell? ⟨p, 0, none⟩ = some (.string s)
  c1 : w.cell? ⟨p, 1, none⟩ = some (.int .i64 st.at_)
  c2 : w.cell? ⟨p, 2, none⟩ = some (.int .i64 st.deep)
  c3 : w.cell? ⟨p, 3, none⟩ = some (.bool st.bad)
  c4 : w.cell? ⟨p, 4, none⟩ = some v
  open_ : ∀ j, w.frozen? ⟨p, j, none⟩ = false
  own : w.ownsRow (p + 1) 38 3 v st.out.length (ndCells st.out)

/-- between w and w' only the block p, the row that v owns and new blocks were written; the row of v' is v's or new -/
structure Touch (p : Nat) (v : Value) (w w' : World) (v' : Value) : Prop where
  os : w'.os = w.os
  tape : w'.tape = w.tape
  output : w'.output = w.output
  size : w.heap.size ≤ w'.heap.size
  block : ∀ k, k < w.heap.size → k ≠ p → some k ≠ v.ownBlock → w'.heap[k]? = w.heap[k]?
  own : v'.ownBlock = v.ownBlock ∨ ∀ k, v'.ownBlock = some k → w.heap.size ≤ k

theorem Touch.refl (p : Nat) (v : Value) (w : World) : Touch p v w w v := ⟨rfl, rfl, rfl, Nat.le_refl _, fun _ _ _ _ => rfl, .inl rfl⟩
theorem Touch.trans {p : Nat} {v v1 v2 : Value} {w w1 w2 : World} (h : Touch p v w w1 v1) (k : Touch p v1 w1 w2 v2) : Touch p v w w2 v2 := by
  refine ⟨k.os.trans h.os, k.tape.trans h.tape, k.output.trans h.output, Nat.le_trans h.size k.size, fun i hi hp hv => ?_, ?_⟩
  · refine (k.block i (Nat.lt_of_lt_of_le hi h.size) hp ?_).trans (h.block i hi hp hv)
    rcases h.own with e | e
    · rw [e]; exact hv
    · intro hc; have := e i hc.symm; omega
  · rcases k.own with e | e
    · rcases h.own with e' | e'
      · exact .inl (e.trans e')
      · exact .inr fun j hj => e' j (by rw [← e]; exact hj)
    · exact .inr fun j hj => Nat.le_trans h.size (e j hj)
theorem Touch.drewN {p : Nat} {v v' : Value} {w w' : World} (h : Touch p v w w' v') (n : Nat) : Touch p v w (w'.drewN n) v' := ⟨h.os, h.tape, h.output, h.size, h.block, h.own⟩
theorem Touch.drew {p : Nat} {v v' : Value} {w w' : World} (h : Touch p v w w' v') : Touch p v w w'.drew v' := ⟨h.os, h.tape, h.output, h.size, h.block, h.own⟩
theorem Touch.setCell {p : Nat} {v v' : Value} {w w' : World} (h : Touch p v w w' v') (j : Nat) (u : Value) : Touch p v w (w'.setCell ⟨p, j, none⟩ u) v' :=
  ⟨h.os, h.tape, h.output, by simpa [World.setCell] using h.size, fun k hk hp hv => (Below.heap_setCell _ _ _ _ (by simpa using hp)).trans (h.block k hk hp hv), h.own⟩
theorem Touch.below {p : Nat} {v v' : Value} {w w' : World} (h : Touch p v w w' v') {st : Par} {s : ByteArray} (hp : ParAt p w s st v) : Below p w w' := by
  have hlt : p < w.heap.size := World.block_lt_of_cell? w _ hp.c0
  refine ⟨h.os, h.tape, h.output, h.size, fun k hk => h.block k (by omega) (by omega) fun e => ?_⟩
  have := (hp.own.lt k e.symm).1
  omega
theorem ParAt.lt {p : Nat} {w : World} {s : ByteArray} {st : Par} {v : Value} (h : ParAt p w s st v) : p < w.heap.size := World.block_lt_of_cell? w _ h.c0

theorem setCell_ne (w : World) (p i j : Nat) (u : Value) (h : i ≠ j) : (w.setCell ⟨p, i, none⟩ u).cell? ⟨p, j, none⟩ = w.cell? ⟨p, j, none⟩ :=
  World.cell?_setCell_other _ _ _ _ (by intro e; injection e with _ e2; exact h e2)
/-- one of the reader's cells is written -/
theorem ParAt.at1 {p : Nat} {w : World} {s : ByteArray} {st : Par} {v : Value} (h : ParAt p w s st v) (a : Nat) : ParAt p (w.setCell ⟨p, 1, none⟩ (.int .i64 a)) s { st with at_ := a } v :=
  ⟨by rw [setCell_ne _ _ _ _ _ (by decide)]; exact h.c0, World.cell?_setCell_same _ _ _ h.c1, by rw [setCell_ne _ _ _ _ _ (by decide)]; exact h.c2, by rw [setCell_ne _ _ _ _ _ (by decide)]; exact h.c3,
   by rw [setCell_ne _ _ _ _ _ (by decide)]; exact h.c4, fun j => by simpa using h.open_ j, ownsRow_setCell_below h.own (by simp) _⟩
theorem ParAt.deep1 {p : Nat} {w : World} {s : ByteArray} {st : Par} {v : Value} (h : ParAt p w s st v) (a : Nat) : ParAt p (w.setCell ⟨p, 2, none⟩ (.int .i64 a)) s { st with deep := a } v :=
  ⟨by rw [setCell_ne _ _ _ _ _ (by decide)]; exact h.c0, by rw [setCell_ne _ _ _ _ _ (by decide)]; exact h.c1, World.cell?_setCell_same _ _ _ h.c2, by rw [setCell_ne _ _ _ _ _ (by decide)]; exact h.c3,
   by rw [setCell_ne _ _ _ _ _ (by decide)]; exact h.c4, fun j => by simpa using h.open_ j, ownsRow_setCell_below h.own (by simp) _⟩
theorem ParAt.bad1 {p : Nat} {w : World} {s : ByteArray} {st : Par} {v : Value} (h : ParAt p w s st v) (a : Bool) : ParAt p (w.setCell ⟨p, 3, none⟩ (.bool a)) s { st with bad := a } v :=
  ⟨by rw [setCell_ne _ _ _ _ _ (by decide)]; exact h.c0, by rw [setCell_ne _ _ _ _ _ (by decide)]; exact h.c1, by rw [setCell_ne _ _ _ _ _ (by decide)]; exact h.c2, World.cell?_setCell_same _ _ _ h.c3,
   by rw [setCell_ne _ _ _ _ _ (by decide)]; exact h.c4, fun j => by simpa using h.open_ j, ownsRow_setCell_below h.own (by simp) _⟩
theorem ParAt.drewN {p : Nat} {w : World} {s : ByteArray} {st : Par} {v : Value} (h : ParAt p w s st v) (n : Nat) : ParAt p (w.drewN n) s st v := ⟨h.c0, h.c1, h.c2, h.c3, h.c4, h.open_, h.own⟩
theorem ParAt.drew {p : Nat} {w : World} {s : ByteArray} {st : Par} {v : Value} (h : ParAt p w s st v) : ParAt p w.drew s st v := ⟨h.c0, h.c1, h.c2, h.c3, h.c4, h.open_, h.own⟩
theorem ParAt.alloc {p : Nat} {w : World} {s : ByteArray} {st : Par} {v : Value} (h : ParAt p w s st v) (o : Obj) : ParAt p (w.alloc o) s st v := by
  have hlt := h.lt
  exact ⟨(World.cell?_alloc_past _ _ _ hlt).trans h.c0, (World.cell?_alloc_past _ _ _ hlt).trans h.c1, (World.cell?_alloc_past _ _ _ hlt).trans h.c2, (World.cell?_alloc_past _ _ _ hlt).trans h.c3,
    (World.cell?_alloc_past _ _ _ hlt).trans h.c4, fun j => (World.frozen?_alloc_past _ _ _ hlt).trans (h.open_ j), h.own.alloc o⟩
end Go.Proofs.YtbpfonmkbbnkcaaGreatDoor

/- The reader's skip, look and take. -/
namespace Go.Proofs.YtbpfonmkbbnkcaaGreatDoor
open Go.RowKit Go.PlainAid
set_option linter.unusedSimpArgs false
set_option linter.unusedVariables false

/-- the place of the next byte that is no blank -/
def skipF (s : ByteArray) : Nat → Nat → Nat
  | 0, a => a
  | f + 1, a => if a < s.size ∧ bt s a = 32 then skipF s f (a + 1) else a
def skipTo (s : ByteArray) (a : Nat) : Nat := skipF s (s.size - a) a
theorem skipTo_step {s : ByteArray} {a : Nat} (h : a < s.size) (hb : bt s a = 32) : skipTo s a = skipTo s (a + 1) := by
  unfold skipTo
  rw [show s.size - a = (s.size - (a + 1)) + 1 from by omega, skipF, if_pos ⟨h, hb⟩]
theorem skipTo_stop {s : ByteArray} {a : Nat} (h : ¬ (a < s.size ∧ bt s a = 32)) : skipTo s a = a := by
  unfold skipTo
  cases s.size - a with
  | zero => rfl
  | succ f => rw [skipF, if_neg h]
theorem skipF_le (s : ByteArray) (f : Nat) : ∀ a, a ≤ skipF s f a ∧ (a ≤ s.size → skipF s f a ≤ s.size) := by
  induction f with
  | zero => intro a; simp [skipF]
  | succ f ih =>
    intro a
    unfold skipF
    split
    · have := ih (a + 1); omega
    · omega
theorem skipTo_le {s : ByteArray} {a : Nat} (h : a ≤ s.size) : a ≤ skipTo s a ∧ skipTo s a ≤ s.size := ⟨(skipF_le s _ a).1, (skipF_le s _ a).2 h⟩

set_option maxHeartbeats 800000 in
theorem skip_any (p : Nat) (s : ByteArray) (st : Par) (v : Value) (w : World) (hs : s.size ≤ maxLen) (ha : st.at_ ≤ s.size) (h : ParAt p w s st v) :
    Calls Tryz.prog 74 #[.pointer (some ⟨p, 0, none⟩)] w fun e w' => e = .returned (.tuple #[]) ∧ ParAt p w' s { st with at_ := skipTo s st.at_ } v ∧ Touch p v w w' v := by
  unfold maxLen at hs
  have hb := get_bt s
  have HP : Hid (ParAt p w s st v) := h
  clear h
  go_enter Tryz.func74, Tryz.ntmps74
  go_wp2_with fail
  go_loopw [] (fun wr => ∃ k : Nat, k ≤ s.size ∧ Hid (skipTo s k = skipTo s st.at_) ∧ Hid (ParAt p wr s { st with at_ := k } v) ∧ Touch p v w wr v) (fun wr => s.size - (intOf ((wr.cell? ⟨p, 1, none⟩).getD undef)).toNat)
  case atStart => exact ⟨st.at_, ha, rfl, HP.out, Touch.refl _ _ _⟩
  case round =>
    obtain ⟨k, hk, hsk, hpar, ht⟩ := hrel
    obtain ⟨c0, c1, c2, c3, c4, ho, hown⟩ := hpar.out
    simp only at c1 c2 c3 c4
    clear c2 c3 c4 hown
    by_cases hlt : k < s.size
    · have hltI : (k : Int) < s.size := by omega
      by_cases h32 : bt s k = 32
      · have h32' : (bt s k == 32) = true := by simp [h32]
        have HN : Hid (skipTo s (k + 1) = skipTo s st.at_) := (skipTo_step hlt h32).symm.trans hsk.out
        clear h32
        go_wp2_with fail
        go_quiet (fail)
        go_wp2_with fail
        go_roundw
        case rel => exact ⟨k + 1, by omega, HN.out, (hpar.out.drewN _).at1 (k + 1), (ht.drewN _).setCell _ _⟩
        case measure =>
          rw [World.cell?_setCell_same (wr.drewN nq) ⟨p, 1, none⟩ _ (u := .int .i64 k) c1, c1]
          simp [intOf]; omega
      · have h32' : (bt s k == 32) = false := by simp [h32]
        have HN : Hid (k = skipTo s st.at_) := (skipTo_stop (fun h => h32 h.2)).symm.trans hsk.out
        clear h32
        go_wp2_with fail
        go_quiet (fail)
        go_wp2_with fail
        go_end0
        refine ⟨rfl, ?_, ht.drewN _⟩
        rw [← HN.out]; exact hpar.out.drewN _
    · have hd : decide ((k : Int) < s.size) = false := by simp; omega
      have HN : Hid (k = skipTo s st.at_) := (skipTo_stop (fun h => hlt h.1)).symm.trans hsk.out
      go_wp2_with fail
      go_quiet (fail)
      go_wp2_with fail
      go_end0
      refine ⟨rfl, ?_, ht.drewN _⟩
      rw [← HN.out]; exact hpar.out.drewN _

/-- the byte at a place; 0 behind the end -/
theorem look_any (p : Nat) (s : ByteArray) (st : Par) (v : Value) (w : World) (hs : s.size ≤ maxLen) (ha : st.at_ ≤ s.size) (h : ParAt p w s st v) :
    Calls Tryz.prog 118 #[.pointer (some ⟨p, 0, none⟩)] w fun e w' => e = .returned (.int .u8 (bt s (skipTo s st.at_))) ∧ ParAt p w' s { st with at_ := skipTo s st.at_ } v ∧ Touch p v w w' v := by
  have hb := get_bt s
  have HP : Hid (ParAt p w s st v) := h
  have hle := skipTo_le ha
  clear h
  go_enter Tryz.func118, Tryz.ntmps118
  go_wp2_with fail
  refine (skip_any p s st v _ hs ha HP.out).mono ?_
  rintro e w1 ⟨rfl, hp1, ht1⟩
  have HP1 : Hid (ParAt p w1 s { st with at_ := skipTo s st.at_ } v) := hp1
  obtain ⟨c0, c1, c2, c3, c4, ho, hown⟩ := hp1
  simp only at c1
  unfold maxLen at hs
  obtain ⟨k, hk⟩ : ∃ k, skipTo s st.at_ = k := ⟨_, rfl⟩
  have HK : Hid (skipTo s st.at_ = k) := hk
  rw [hk] at HP1 c1 hle
  clear c2 c3 c4 hown ho hk
  by_cases hlt : k < s.size
  · have hltI : (k : Int) < s.size := by omega
    have hd : decide ((k : Int) < s.size) = true := by simp; omega
    go_wp2_with fail
    go_quiet (fail)
    go_wp2_with fail
    go_quiet (fail)
    go_wp2_with fail
    go_ret
    rw [HK.out]
    exact ⟨rfl, (HP1.out.drewN _).drewN _, (ht1.drewN _).drewN _⟩
  · have hd : decide ((k : Int) < s.size) = false := by simp; omega
    have HB : Hid (bt s k = 0) := bt_end s (by omega)
    go_wp2_with fail
    go_quiet (fail)
    go_wp2_with fail
    go_ret
    rw [HK.out]
    exact ⟨by rw [HB.out]; rfl, HP1.out.drewN _, ht1.drewN _⟩
end Go.Proofs.YtbpfonmkbbnkcaaGreatDoor

/- The reader's take. -/
namespace Go.Proofs.YtbpfonmkbbnkcaaGreatDoor
open Go.RowKit Go.PlainAid
set_option linter.unusedSimpArgs false
set_option linter.unusedVariables false

/-- whether g stands at place k -/
def hasAt (s : ByteArray) (k : Nat) (g : ByteArray) : Bool := decide (k + g.size ≤ s.size) && ((s.extract k (k + g.size)).toList == g.toList)
/-- the place behind g, if it stands at place k -/
def takeAt (s : ByteArray) (k : Nat) (g : ByteArray) : Nat := if hasAt s k g then k + g.size else k

set_option maxHeartbeats 800000 in
theorem take_any (p : Nat) (s g : ByteArray) (st : Par) (v : Value) (w : World) (hs : s.size ≤ 1048576) (hg : g.size ≤ 1048576) (ha : st.at_ ≤ s.size) (h : ParAt p w s st v) :
    Calls Tryz.prog 119 #[.pointer (some ⟨p, 0, none⟩), .string g] w fun e w' => e = .returned (.bool (hasAt s (skipTo s st.at_) g)) ∧
      ParAt p w' s { st with at_ := takeAt s (skipTo s st.at_) g } v ∧ Touch p v w w' v := by
  have hb := get_bt s
  have HP : Hid (ParAt p w s st v) := h
  have hle := skipTo_le ha
  clear h
  go_enter Tryz.func119, Tryz.ntmps119
  go_wp2_with fail
  refine (skip_any p s st v _ (by unfold maxLen; omega) ha HP.out).mono ?_
  rintro e w1 ⟨rfl, hp1, ht1⟩
  have HP1 : Hid (ParAt p w1 s { st with at_ := skipTo s st.at_ } v) := hp1
  obtain ⟨c0, c1, c2, c3, c4, ho, hown⟩ := hp1
  simp only at c1
  obtain ⟨k, hk⟩ : ∃ k, skipTo s st.at_ = k := ⟨_, rfl⟩
  have HK : Hid (skipTo s st.at_ = k) := hk
  rw [hk] at HP1 c1 hle
  clear c2 c3 c4 hown hk
  by_cases hlt : k + g.size ≤ s.size
  · have hd : decide ((s.size : Int) < k + g.size) = false := by simp; omega
    cases he : ((s.extract k (k + g.size)).toList == g.toList)
    · have HH : Hid (hasAt s k g = false) := by
        show hasAt s k g = false
        simp only [hasAt, he, Bool.and_false]
      go_wp2_with fail
      go_quiet (fail)
      go_wp2_with fail
      go_ret
      rw [HK.out]
      refine ⟨by rw [HH.out]; rfl, ?_, ht1.drewN _⟩
      unfold takeAt; rw [HH.out]; exact HP1.out.drewN _
    · have HH : Hid (hasAt s k g = true) := by
        show hasAt s k g = true
        simp only [hasAt, he, Bool.and_true]; simp [hlt]
      go_wp2_with fail
      go_quiet (fail)
      go_wp2_with fail
      go_ret
      rw [HK.out]
      refine ⟨by rw [HH.out]; rfl, ?_, (ht1.drewN _).setCell _ _⟩
      unfold takeAt; rw [HH.out]; exact (HP1.out.drewN _).at1 (k + g.size)
  · have hd : decide ((s.size : Int) < k + g.size) = true := by simp; omega
    have HH : Hid (hasAt s k g = false) := by
      show hasAt s k g = false
      rw [hasAt, decide_eq_false (by omega)]; rfl
    go_wp2_with fail
    go_quiet (fail)
    go_wp2_with fail
    go_ret
    rw [HK.out]
    refine ⟨by rw [HH.out]; rfl, ?_, ht1.drewN _⟩
    unfold takeAt; rw [HH.out]; exact HP1.out.drewN _
end Go.Proofs.YtbpfonmkbbnkcaaGreatDoor

/- The reader's put: one node more, if there is room. -/
namespace Go.Proofs.YtbpfonmkbbnkcaaGreatDoor
open Go.RowKit Go.PlainAid
set_option linter.unusedSimpArgs false
set_option linter.unusedVariables false

theorem infoNode : (Tryz.prog.info? 38).map (fun i => (i.zero, i.size, i.bytes)) = some (some (.agg #[.int .i64 0, .int .i64 0, .string ByteArray.empty]), 3, 32) := by kernel_rfl

/-- a slice that owns something is written out -/
theorem own_form {w : World} {base size n : Nat} {e : TypeId} {v : Value} {xs : List Value} (h : w.ownsRow base e size v n xs) (hn : 0 < n) : ∃ g cap, v = .slice (some ⟨g, 0, none⟩) n cap := by
  rcases h.2 with ⟨_, h⟩ | ⟨g, cap, cur, h, _⟩
  · omega
  · exact ⟨g, cap, h⟩

theorem three_new (w : World) (x y z : Value) (t : TypeId) : ∀ j u, [x, y, z][j]? = some u → (w.alloc (.cells #[x, y, z] t)).cell? ((⟨w.heap.size, 0, none⟩ : Addr).add j) = some u := by
  intro j u hj
  match j, hj with
  | 0, hj => simp at hj; subst hj; simp [Addr.add]
  | 1, hj => simp at hj; subst hj; simp [Addr.add]
  | 2, hj => simp at hj; subst hj; simp [Addr.add]

def putNd (st : Par) (x : Nd) : Par := if 24 ≤ st.out.length then { st with bad := true } else { st with out := st.out ++ [x] }

/-- behind an append to the nodes, and the store of the slice -/
theorem ParAt.put {p : Nat} {w w1 : World} {s : ByteArray} {st : Par} {v : Value} (h : ParAt p w s st v) {x : Nd} {g cap : Nat} (ho : w1.ownsRow (p + 1) 38 3 (.slice (some ⟨g, 0, none⟩) (st.out.length + 1) cap) (st.out.length + 1) (ndCells st.out ++ [.int .i64 x.1, .int .i64 x.2.1, .string x.2.2])) (hg : w.grownBy w1 v.ownBlock)
    (hat : v.ownBlock = some g ∨ g = w.heap.size) :
    ParAt p (w1.setCell ⟨p, 4, none⟩ (.slice (some ⟨g, 0, none⟩) (st.out.length + 1) cap)) s { st with out := st.out ++ [x] } (.slice (some ⟨g, 0, none⟩) (st.out.length + 1) cap) ∧
    Touch p v w (w1.setCell ⟨p, 4, none⟩ (.slice (some ⟨g, 0, none⟩) (st.out.length + 1) cap)) (.slice (some ⟨g, 0, none⟩) (st.out.length + 1) cap) := by
  have hlt := h.lt
  have hne : some p ≠ v.ownBlock := fun e => by have := (h.own.lt p e.symm).1; omega
  have hc : ∀ j, w1.cell? ⟨p, j, none⟩ = w.cell? ⟨p, j, none⟩ := fun j => World.cell?_of_block (hg.block p hlt hne)
  have hf : ∀ j, w1.frozen? ⟨p, j, none⟩ = w.frozen? ⟨p, j, none⟩ := fun j => World.frozen?_of_block (hg.block p hlt hne)
  refine ⟨⟨?_, ?_, ?_, ?_, ?_, ?_, ?_⟩, ?_⟩
  · rw [setCell_ne _ _ _ _ _ (by decide), hc]; exact h.c0
  · rw [setCell_ne _ _ _ _ _ (by decide), hc]; exact h.c1
  · rw [setCell_ne _ _ _ _ _ (by decide), hc]; exact h.c2
  · rw [setCell_ne _ _ _ _ _ (by decide), hc]; exact h.c3
  · exact World.cell?_setCell_same _ _ _ ((hc 4).trans h.c4)
  · intro j; simpa [hf] using h.open_ j
  · have := ownsRow_setCell_below ho (a := ⟨p, 4, none⟩) (by simp) (.slice (some ⟨g, 0, none⟩) (st.out.length + 1) cap)
    simpa [ndCells_snoc] using this
  · refine Touch.setCell ⟨hg.os, hg.tape, hg.output, hg.size, fun k hk hp hv => hg.block k hk hv, ?_⟩ _ _
    rcases hat with e | e
    · exact .inl e.symm
    · exact .inr fun k hk => by simp [Value.ownBlock] at hk; omega

theorem Touch.alloc {p : Nat} {v v' : Value} {w w' : World} (h : Touch p v w w' v') (o : Obj) : Touch p v w (w'.alloc o) v' :=
  ⟨h.os, h.tape, h.output, by have := h.size; simp; omega, fun k hk hp hv => (Below.heap_alloc _ _ _ (by have := h.size; omega)).trans (h.block k hk hp hv), h.own⟩
theorem three_new' (W : World) (x y z : Value) (t : TypeId) (N : Nat) (hN : N = W.heap.size) : ∀ j u, [x, y, z][j]? = some u → (W.alloc (.cells #[x, y, z] t)).drew.cell? ((⟨N, 0, none⟩ : Addr).add j) = some u := by
  subst hN; exact three_new W x y z t
theorem grown_par {p : Nat} {w w1 : World} {s : ByteArray} {st : Par} {v : Value} (h : ParAt p w s st v) (hg : w.grownBy w1 v.ownBlock) : w1.cell? ⟨p, 4, none⟩ = some v ∧ w1.frozen? ⟨p, 4, none⟩ = false := by
  have hlt := h.lt
  have hne : some p ≠ v.ownBlock := fun e => by have := (h.own.lt p e.symm).1; omega
  exact ⟨(World.cell?_of_block (hg.block p hlt hne)).trans h.c4, (World.frozen?_of_block (hg.block p hlt hne)).trans (h.open_ 4)⟩
theorem touch_alloc {p : Nat} {w : World} {s : ByteArray} {st : Par} {v : Value} (h : ParAt p w s st v) (o : Obj) : Touch p v w (w.alloc o) v :=
  ⟨rfl, rfl, rfl, by simp, fun k hk _ _ => Below.heap_alloc _ _ _ hk, .inl rfl⟩

set_option maxHeartbeats 800000 in
set_option maxRecDepth 100000 in
theorem put_any (p : Nat) (s : ByteArray) (st : Par) (v : Value) (x : Nd) (w : World) (hl : st.out.length ≤ 24) (h : ParAt p w s st v) :
    Calls Tryz.prog 106 #[.pointer (some ⟨p, 0, none⟩), .agg #[.int .i64 x.1, .int .i64 x.2.1, .string x.2.2]] w fun e w' => e = .returned (.tuple #[]) ∧ ∃ v', ParAt p w' s (putNd st x) v' ∧ Touch p v w w' v' := by
  obtain ⟨x0, x1, x2⟩ := x
  simp only
  have hlt := h.lt
  have HP : Hid (ParAt p w s st v) := h
  obtain ⟨c0, c1, c2, c3, c4, ho, hown⟩ := h
  obtain ⟨i0, hi, hz0, hz1, hz2⟩ := info_parts infoNode
  clear c0 c1 c2
  by_cases hfull : 24 ≤ st.out.length
  · obtain ⟨g, cap, hv⟩ := own_form hown (by omega)
    rw [hv] at c4
    have HN : Hid (putNd st (x0, x1, x2) = { st with bad := true }) := by
      show putNd _ _ = _
      unfold putNd; rw [if_pos hfull]
    clear hv hown
    generalize st.out.length = n at *
    go_enter Tryz.func106, Tryz.ntmps106
    go_wp2_with fail
    go_returns
    rw [HN.out]
    exact ⟨rfl, v, (HP.out.bad1 true).alloc _, ((Touch.refl p v w).setCell _ _).alloc _⟩
  · obtain ⟨n, hn⟩ : ∃ n, st.out.length = n := ⟨_, rfl⟩
    have hfull' : ¬ 24 ≤ n := by omega
    have HN : Hid (putNd st (x0, x1, x2) = { st with out := st.out ++ [(x0, x1, x2)] }) := by
      show putNd _ _ = _
      unfold putNd; rw [if_neg hfull]
    have hlen : ∃ ao cap, v = .slice ao n cap := by
      rcases hown.2 with ⟨h1, h2⟩ | ⟨g, cap, cur, h1, _⟩
      · exact ⟨none, 0, by rw [h1, ← hn, h2]⟩
      · exact ⟨_, cap, by rw [h1, hn]⟩
    obtain ⟨ao, cap, hv⟩ := hlen
    subst hv
    rw [hn] at hown
    have HO : Hid (w.ownsRow (p + 1) 38 3 (.slice ao n cap) n (ndCells st.out)) := hown
    have HL : Hid (st.out.length = n) := hn
    clear hown hn hfull c3 hl
    go_enter Tryz.func106, Tryz.ntmps106
    go_wp2_with fail
    go_region_law (refine step_append_lies _ rfl (.tmp 17) (.tmp 19) 23 rfl (p + 1) 38 i0 (.agg #[.int .i64 0, .int .i64 0, .string ByteArray.empty]) 3 32 Tryz.underlying23 hi hz0 hz1 hz2 rfl (by decide) (.slice ao n cap) n (ndCells st.out) rfl (by exact ((HO.out.alloc _).alloc _)) ⟨w.heap.size + 1, 0, none⟩ 1 1 [.int .i64 x0, .int .i64 x1, .string x2] rfl rfl (by exact three_new' _ _ _ _ _ _ (by simp)) (by intro u hu; simp at hu; rcases hu with rfl | rfl | rfl <;> rfl) (by decide) (by unfold maxLen; omega) (by omega) (by simp; omega) _ rfl ?_; intro g cap' w1 hown1 hgrow1 hat1 hlt1; obtain ⟨g1, g2⟩ := grown_par (s := s) (st := st) (by exact ((HP.out.alloc _).alloc _).drew) hgrow1)
    all_goals
      go_wp2_with fail
      go_end0
      rw [HN.out]
      have hL := HL.out
      subst hL
      have R := ((HP.out.alloc _).alloc _).drew.put (x := (x0, x1, x2)) hown1 hgrow1 hat1
      exact ⟨rfl, _, R.1, (((Touch.refl p _ w).alloc _).alloc _).drew.trans R.2⟩
end Go.Proofs.YtbpfonmkbbnkcaaGreatDoor

/- The reader's word, and numbers. -/
namespace Go.Proofs.YtbpfonmkbbnkcaaGreatDoor
open Go.RowKit Go.PlainAid
set_option linter.unusedSimpArgs false
set_option linter.unusedVariables false

def alnB (n : Int) : Bool := letB n || figB n
/-- the place of the next byte that is no letter and no figure -/
def wordF (s : ByteArray) : Nat → Nat → Nat
  | 0, a => a
  | f + 1, a => if a < s.size ∧ alnB (bt s a) = true then wordF s f (a + 1) else a
def wordTo (s : ByteArray) (a : Nat) : Nat := wordF s (s.size - a) a
theorem wordTo_step {s : ByteArray} {a : Nat} (h : a < s.size) (hb : alnB (bt s a) = true) : wordTo s a = wordTo s (a + 1) := by
  unfold wordTo
  rw [show s.size - a = (s.size - (a + 1)) + 1 from by omega, wordF, if_pos ⟨h, hb⟩]
theorem wordTo_stop {s : ByteArray} {a : Nat} (h : ¬ (a < s.size ∧ alnB (bt s a) = true)) : wordTo s a = a := by
  unfold wordTo
  cases s.size - a with
  | zero => rfl
  | succ f => rw [wordF, if_neg h]
theorem wordF_le (s : ByteArray) (f : Nat) : ∀ a, a ≤ wordF s f a ∧ (a ≤ s.size → wordF s f a ≤ s.size) := by
  induction f with
  | zero => intro a; simp [wordF]
  | succ f ih =>
    intro a
    unfold wordF
    split
    · have := ih (a + 1); omega
    · omega
theorem wordTo_le {s : ByteArray} {a : Nat} (h : a ≤ s.size) : a ≤ wordTo s a ∧ wordTo s a ≤ s.size := ⟨(wordF_le s _ a).1, (wordF_le s _ a).2 h⟩

theorem l1Letter_is {n : Int} {b : Bool} (h : letB n = b) (w : World) : Calls Tryz.prog 113 #[.int .u8 n] w fun e w' => e = .returned (.bool b) ∧ w' = w := by
  rw [← h]; exact l1Letter_any n w
theorem l1Figure_is {n : Int} {b : Bool} (h : figB n = b) (w : World) : Calls Tryz.prog 114 #[.int .u8 n] w fun e w' => e = .returned (.bool b) ∧ w' = w := by
  rw [← h]; exact l1Figure_any n w

set_option maxHeartbeats 1600000 in
set_option maxRecDepth 100000 in
theorem word_any (p : Nat) (s : ByteArray) (st : Par) (v : Value) (w : World) (hs : s.size ≤ 1048576) (ha : st.at_ ≤ s.size) (h : ParAt p w s st v) :
    Calls Tryz.prog 132 #[.pointer (some ⟨p, 0, none⟩)] w fun e w' => e = .returned (.string (s.extract st.at_ (wordTo s st.at_))) ∧ ParAt p w' s { st with at_ := wordTo s st.at_ } v ∧ Touch p v w w' v := by
  have hb := get_bt s
  have HP : Hid (ParAt p w s st v) := h
  obtain ⟨a0, hat⟩ : ∃ a0, st.at_ = a0 := ⟨_, rfl⟩
  have HA : Hid (st.at_ = a0) := hat
  have c1 := h.c1
  rw [hat] at c1 ha
  have hle := wordTo_le ha
  clear h hat
  go_enter Tryz.func132, Tryz.ntmps132
  go_wp2_with fail
  go_loopw [] (fun wr => ∃ k : Nat, k ≤ s.size ∧ a0 ≤ k ∧ Hid (wordTo s k = wordTo s a0) ∧ Hid (ParAt p wr s { st with at_ := k } v) ∧ Touch p v w wr v) (fun wr => s.size - (intOf ((wr.cell? ⟨p, 1, none⟩).getD undef)).toNat)
  case atStart => exact ⟨a0, ha, Nat.le_refl _, rfl, by have h1 := HP.out; rw [show st = { st with at_ := a0 } from by rw [← HA.out]] at h1; exact h1, Touch.refl _ _ _⟩
  case round =>
    clear c1
    obtain ⟨k, hk, hk0, hsk, hpar, ht⟩ := hrel
    obtain ⟨c0, c1, c2, c3, c4, ho, hown⟩ := hpar.out
    simp only at c1 c2 c3 c4
    clear c2 c3 c4 hown
    by_cases hlt : k < s.size
    · have hltI : (k : Int) < s.size := by omega
      cases hl : letB (bt s k)
      · cases hf : figB (bt s k)
        · have HN : Hid (k = wordTo s a0) := (wordTo_stop (fun h => by simp [alnB, hl, hf] at h)).symm.trans hsk.out
          go_wp2_with fail
          go_quiet ((first | (go_at_call 113; exact Calls.quiet_of_same (l1Letter_any _ _)) | (go_at_call 114; exact Calls.quiet_of_same (l1Figure_any _ _))))
          go_wp2_with fail
          go_quiet (fail)
          go_wp2_with fail
          go_ret
          rw [HA.out]
          exact ⟨by rw [← HN.out]; rfl, by rw [← HN.out]; exact (hpar.out.drewN _).drewN _, (ht.drewN _).drewN _⟩
        · have HN : Hid (wordTo s (k + 1) = wordTo s a0) := (wordTo_step hlt (by simp [alnB, hf])).symm.trans hsk.out
          go_wp2_with fail
          go_quiet ((first | (go_at_call 113; exact Calls.quiet_of_same (l1Letter_any _ _)) | (go_at_call 114; exact Calls.quiet_of_same (l1Figure_any _ _))))
          go_wp2_with fail
          go_roundw
          case rel => exact ⟨k + 1, by omega, by omega, HN.out, (hpar.out.drewN _).at1 (k + 1), (ht.drewN _).setCell _ _⟩
          case measure =>
            rw [World.cell?_setCell_same (wr.drewN nq) ⟨p, 1, none⟩ _ (u := .int .i64 k) c1, c1]
            simp [intOf]; omega
      · have HN : Hid (wordTo s (k + 1) = wordTo s a0) := (wordTo_step hlt (by simp [alnB, hl])).symm.trans hsk.out
        go_wp2_with fail
        go_quiet ((go_at_call 113; exact Calls.quiet_of_same (l1Letter_is hl _)))
        go_wp2_with fail
        go_roundw
        case rel => exact ⟨k + 1, by omega, by omega, HN.out, (hpar.out.drewN _).at1 (k + 1), (ht.drewN _).setCell _ _⟩
        case measure =>
          rw [World.cell?_setCell_same (wr.drewN nq) ⟨p, 1, none⟩ _ (u := .int .i64 k) c1, c1]
          simp [intOf]; omega
    · have hd : decide ((k : Int) < s.size) = false := by simp; omega
      have HN : Hid (k = wordTo s a0) := (wordTo_stop (fun h => hlt h.1)).symm.trans hsk.out
      go_wp2_with fail
      go_quiet ((first | (go_at_call 113; exact Calls.quiet_of_same (l1Letter_any _ _)) | (go_at_call 114; exact Calls.quiet_of_same (l1Figure_any _ _))))
      go_wp2_with fail
      go_quiet (fail)
      go_wp2_with fail
      go_ret
      rw [HA.out]
      exact ⟨by rw [← HN.out]; rfl, by rw [← HN.out]; exact (hpar.out.drewN _).drewN _, (ht.drewN _).drewN _⟩
end Go.Proofs.YtbpfonmkbbnkcaaGreatDoor

/- Numbers of texts: the model's l1Num. -/
namespace Go.Proofs.YtbpfonmkbbnkcaaGreatDoor
open Go.RowKit Go.PlainAid
set_option linter.unusedSimpArgs false
set_option linter.unusedVariables false

/-- the number that the first k figures are -/
def numTo (s : ByteArray) : Nat → Int
  | 0 => 0
  | k + 1 => numTo s k * 10 + (bt s k - 48)
def figTo (s : ByteArray) : Nat → Bool
  | 0 => true
  | k + 1 => figTo s k && figB (bt s k)
def numOk (s : ByteArray) : Bool := figTo s s.size && decide (1 ≤ s.size ∧ s.size ≤ 6 ∧ ¬ (1 < s.size ∧ bt s 0 = 48))
/-- the number that a text is; -1, if it is none -/
def numOf (s : ByteArray) : Int := if numOk s then numTo s s.size else -1

theorem figTo_le (s : ByteArray) {j k : Nat} (h : j ≤ k) (hk : figTo s k = true) : figTo s j = true := by
  induction k with
  | zero => have : j = 0 := by omega
            subst this; rfl
  | succ k ih =>
    by_cases e : j = k + 1
    · subst e; exact hk
    · simp [figTo] at hk; exact ih (by omega) hk.1
theorem figTo_no (s : ByteArray) {k n : Nat} (h : k < n) (hk : figB (bt s k) = false) : figTo s n = false := by
  cases e : figTo s n with
  | false => rfl
  | true => have := figTo_le s (j := k + 1) (by omega) e
            simp [figTo, hk] at this
theorem numTo_range (s : ByteArray) : ∀ k, figTo s k = true → 0 ≤ numTo s k ∧ numTo s k < 10 ^ k
  | 0, _ => by simp [numTo]
  | k + 1, h => by
    simp [figTo, figB] at h
    obtain ⟨h1, h2, h3⟩ := h
    have := numTo_range s k h1
    have e : (10 : Int) ^ (k + 1) = 10 ^ k * 10 := Int.pow_succ 10 k
    rw [numTo, e]
    generalize (10 : Int) ^ k = t at *
    omega
theorem pow10_le {k : Nat} (h : k ≤ 6) : (10 : Int) ^ k ≤ 1000000 := by
  have : k = 0 ∨ k = 1 ∨ k = 2 ∨ k = 3 ∨ k = 4 ∨ k = 5 ∨ k = 6 := by omega
  rcases this with rfl | rfl | rfl | rfl | rfl | rfl | rfl <;> decide
theorem numTo_le {s : ByteArray} {k : Nat} (h : figTo s k = true) (hk : k ≤ 6) : 0 ≤ numTo s k ∧ numTo s k < 1000000 := by
  have h1 := numTo_range s k h
  have h2 := pow10_le hk
  omega

set_option maxHeartbeats 1600000 in
set_option maxRecDepth 100000 in
theorem l1Num_any (s : ByteArray) (w : World) (hs : s.size ≤ 1048576) : Calls Tryz.prog 133 #[.string s] w fun e w' => e = .returned (.int .i64 (numOf s)) ∧ w' = w := by
  have hb := get_bt s
  obtain ⟨D, hD⟩ : ∃ D, numOf s = D := ⟨_, rfl⟩
  have HD : Hid (numOf s = D) := hD
  rw [hD]; clear hD
  go_enter Tryz.func133, Tryz.ntmps133
  go_wp2_with fail
  go_loop [3, 4] (fun vn i => ∃ k : Nat, k ≤ s.size ∧ k ≤ 6 ∧ i = .int .i64 k ∧ vn = .int .i64 (numTo s k) ∧ Hid (figTo s k = true)) (fun _ i => s.size - (intOf i).toNat)
  case atStart => exact ⟨0, Nat.zero_le _, by omega, rfl, rfl, rfl⟩
  case round =>
    obtain ⟨k, hk, hk6, rfl, rfl, hfig⟩ := hrel
    obtain ⟨n1, n2⟩ := numTo_le hfig.out hk6
    by_cases hlt : k < s.size
    · cases hf : figB (bt s k)
      · have HN : Hid (D = -1) := by
          show D = -1
          rw [← HD.out, numOf, numOk, figTo_no s hlt hf]; rfl
        go_wp2_with (go_at_call 114; refine (l1Figure_is hf _).mono ?_; rintro e w' ⟨rfl, rfl⟩)
        go_ret
        exact ⟨ret_int HN.out.symm, rfl⟩
      · by_cases h6 : 6 ≤ k
        · have HN : Hid (D = -1) := by
            show D = -1
            rw [← HD.out, numOf, numOk, decide_eq_false (by omega)]; simp
          go_wp2_with (go_at_call 114; refine (l1Figure_is hf _).mono ?_; rintro e w' ⟨rfl, rfl⟩)
          go_ret
          exact ⟨ret_int HN.out.symm, rfl⟩
        · have hf2 := hf
          simp [figB] at hf2
          obtain ⟨f1, f2⟩ := hf2
          have HF : Hid (figTo s (k + 1) = true) := by
            show figTo s (k + 1) = true
            rw [figTo, hfig.out, hf]; rfl
          have HN : Hid (numTo s (k + 1) = numTo s k * 10 + (bt s k - 48)) := rfl
          generalize numTo s k = nn at *
          go_wp2_with (go_at_call 114; refine (l1Figure_is hf _).mono ?_; rintro e w' ⟨rfl, rfl⟩)
          go_round
          case rel => exact ⟨k + 1, by omega, by omega, by go_num, by rw [HN.out], HF.out⟩
          case measure => simp [intOf]; omega
    · have : k = s.size := by omega
      by_cases h0 : s.size = 0
      · have h0' : ((s.size : Int) == 0) = true := by simp [h0]
        have HN : Hid (D = -1) := by
          show D = -1
          rw [← HD.out, numOf, numOk, decide_eq_false (by omega)]; simp
        clear h0
        go_wp2_with fail
        go_ret
        exact ⟨ret_int HN.out.symm, rfl⟩
      have h0' : ((s.size : Int) == 0) = false := by simp [h0]
      by_cases h1 : 1 < s.size
      · by_cases h48 : bt s 0 = 48
        · have h48' : (bt s 0 == 48) = true := by simp [h48]
          have HN : Hid (D = -1) := by
            show D = -1
            rw [← HD.out, numOf, numOk, decide_eq_false (fun h => h.2.2 ⟨h1, h48⟩)]; simp
          clear h48
          go_wp2_with fail
          go_ret
          exact ⟨ret_int HN.out.symm, rfl⟩
        · have h48' : (bt s 0 == 48) = false := by simp [h48]
          have HN : Hid (D = numTo s s.size) := by
            show D = _
            rw [← HD.out, numOf, numOk, ← this, hfig.out, decide_eq_true (by rw [this]; exact ⟨by omega, by omega, fun h => h48 h.2⟩)]; rfl
          clear h48
          go_wp2_with fail
          go_ret
          exact ⟨ret_int HN.out.symm, rfl⟩
      · have HN : Hid (D = numTo s s.size) := by
          show D = _
          rw [← HD.out, numOf, numOk, ← this, hfig.out, decide_eq_true (by rw [this]; exact ⟨by omega, by omega, fun h => h1 h.1⟩)]; rfl
        go_wp2_with fail
        go_ret
        exact ⟨ret_int HN.out.symm, rfl⟩
end Go.Proofs.YtbpfonmkbbnkcaaGreatDoor

/- The reader's sign: which sign of a level stands next. -/
namespace Go.Proofs.YtbpfonmkbbnkcaaGreatDoor
open Go.RowKit Go.PlainAid
set_option linter.unusedSimpArgs false
set_option linter.unusedVariables false

/-- how tightly a sign binds -/
def lvl (k : Int) : Int := if k = 5 ∨ k = 6 ∨ k = 7 then 5 else if k = 8 ∨ k = 9 then 4 else if k = 10 ∨ k = 11 then 3 else if k = 12 then 2 else 1
theorem l1Level_any (k : Int) (w : World) : Calls Tryz.prog 99 #[.int .i64 k] w fun e w' => e = .returned (.int .i64 (lvl k)) ∧ w' = w := by
  by_cases h5 : k = 5
  · subst h5
    go_enter Tryz.func99, Tryz.ntmps99
    go_wp2
    go_ret
    exact ⟨rfl, rfl⟩
  have e5 : (k == 5) = false := by simp [h5]
  by_cases h6 : k = 6
  · subst h6
    go_enter Tryz.func99, Tryz.ntmps99
    go_wp2
    go_ret
    exact ⟨rfl, rfl⟩
  have e6 : (k == 6) = false := by simp [h6]
  by_cases h7 : k = 7
  · subst h7
    go_enter Tryz.func99, Tryz.ntmps99
    go_wp2
    go_ret
    exact ⟨rfl, rfl⟩
  have e7 : (k == 7) = false := by simp [h7]
  by_cases h8 : k = 8
  · subst h8
    go_enter Tryz.func99, Tryz.ntmps99
    go_wp2
    go_ret
    exact ⟨rfl, rfl⟩
  have e8 : (k == 8) = false := by simp [h8]
  by_cases h9 : k = 9
  · subst h9
    go_enter Tryz.func99, Tryz.ntmps99
    go_wp2
    go_ret
    exact ⟨rfl, rfl⟩
  have e9 : (k == 9) = false := by simp [h9]
  by_cases h10 : k = 10
  · subst h10
    go_enter Tryz.func99, Tryz.ntmps99
    go_wp2
    go_ret
    exact ⟨rfl, rfl⟩
  have e10 : (k == 10) = false := by simp [h10]
  by_cases h11 : k = 11
  · subst h11
    go_enter Tryz.func99, Tryz.ntmps99
    go_wp2
    go_ret
    exact ⟨rfl, rfl⟩
  have e11 : (k == 11) = false := by simp [h11]
  by_cases h12 : k = 12
  · subst h12
    go_enter Tryz.func99, Tryz.ntmps99
    go_wp2
    go_ret
    exact ⟨rfl, rfl⟩
  have e12 : (k == 12) = false := by simp [h12]
  have HN : Hid (lvl k = 1) := by
    show lvl k = 1
    simp [lvl, h5, h6, h7, h8, h9, h10, h11, h12]
  go_enter Tryz.func99, Tryz.ntmps99
  go_wp2
  go_ret
  exact ⟨ret_int HN.out.symm, rfl⟩

/-- how a sign is written -/
def sg (k : Nat) : ByteArray :=
  if k = 5 then ⟨#[42]⟩ else if k = 6 then ⟨#[47]⟩ else if k = 7 then ⟨#[37]⟩ else if k = 8 then ⟨#[43]⟩ else if k = 9 then ⟨#[45]⟩
  else if k = 10 then ⟨#[60]⟩ else if k = 11 then ⟨#[61, 61]⟩ else if k = 12 then ⟨#[38]⟩ else if k = 13 then ⟨#[124]⟩ else ⟨#[]⟩
theorem l1Signs_any (w : World) : Calls Tryz.prog 100 #[] w fun e w' => e = .returned (.slice (some ⟨w.heap.size, 0, none⟩) 14 14) ∧ Below w.heap.size w w' ∧ w.heap.size < w'.heap.size ∧
    ∀ k, k < 14 → w'.cell? ⟨w.heap.size, k, none⟩ = some (.string (sg k)) := by
  go_enter Tryz.func100, Tryz.ntmps100
  go_wp2
  go_ret
  refine ⟨rfl, (Below.refl _ _).alloc (Nat.le_refl _) _, by simp, fun k hk => ?_⟩
  have : k = 0 ∨ k = 1 ∨ k = 2 ∨ k = 3 ∨ k = 4 ∨ k = 5 ∨ k = 6 ∨ k = 7 ∨ k = 8 ∨ k = 9 ∨ k = 10 ∨ k = 11 ∨ k = 12 ∨ k = 13 := by omega
  rcases this with rfl | rfl | rfl | rfl | rfl | rfl | rfl | rfl | rfl | rfl | rfl | rfl | rfl | rfl <;> simp [sg]

theorem ParAt.old {p : Nat} {w w' : World} {s : ByteArray} {st : Par} {v : Value} (h : ParAt p w s st v) (hb : Below w.heap.size w w') : ParAt p w' s st v := by
  have hlt := h.lt
  exact ⟨(hb.cell hlt).trans h.c0, (hb.cell hlt).trans h.c1, (hb.cell hlt).trans h.c2, (hb.cell hlt).trans h.c3, (hb.cell hlt).trans h.c4, fun j => (hb.frozen hlt).trans (h.open_ j),
    h.own.kept (row := none) ⟨hb.os, hb.tape, hb.output, hb.size, fun k hk _ => hb.block k hk⟩ (by cases v.ownBlock <;> simp)⟩
theorem touch_old {p : Nat} {v : Value} {w w' : World} (hb : Below w.heap.size w w') : Touch p v w w' v := ⟨hb.os, hb.tape, hb.output, hb.size, fun k hk _ _ => hb.block k hk, .inl rfl⟩

theorem skipF_skip (s : ByteArray) (f : Nat) : ∀ a, s.size - a ≤ f → ¬ (skipF s f a < s.size ∧ bt s (skipF s f a) = 32) := by
  induction f with
  | zero => intro a h; simp only [skipF]; omega
  | succ f ih =>
    intro a h
    unfold skipF
    split
    · exact ih (a + 1) (by omega)
    · assumption
theorem skipTo_idem (s : ByteArray) (a : Nat) : skipTo s (skipTo s a) = skipTo s a := skipTo_stop (skipF_skip s _ a (Nat.le_refl _))

/-- whether kind j is a sign of a level that stands at place k -/
def isSign (s : ByteArray) (k : Nat) (level : Int) (j : Nat) : Bool := (lvl j == level) && hasAt s k (sg j)
/-- the kind of the sign of a level that stands at place k; 0, if there is none -/
def findSign (s : ByteArray) (k : Nat) (level : Int) : Nat := ((List.range' 5 9).find? (isSign s k level)).getD 0
theorem findSign_yes {s : ByteArray} {k : Nat} {level : Int} {j : Nat} (h : 5 ≤ j ∧ j ≤ 13) (hj : isSign s k level j = true) (hn : ∀ i, 5 ≤ i → i < j → isSign s k level i = false) : findSign s k level = j := by
  unfold findSign
  have : (List.range' 5 9).find? (isSign s k level) = some j := by
    rw [List.find?_range'_eq_some]
    exact ⟨hj, by simp; omega, fun i h1 h2 => by simp [hn i h1 h2]⟩
  rw [this]; rfl
theorem findSign_no {s : ByteArray} {k : Nat} {level : Int} (hn : ∀ i, 5 ≤ i → i < 14 → isSign s k level i = false) : findSign s k level = 0 := by
  unfold findSign
  have : (List.range' 5 9).find? (isSign s k level) = none := by
    rw [List.find?_eq_none]
    intro i hi
    simp at hi
    simp [hn i (by omega) (by omega)]
  rw [this]; rfl
/-- the place behind that sign -/
def signAt (s : ByteArray) (k : Nat) (level : Int) : Nat := k + (sg (findSign s k level)).size
theorem sg_size (k : Nat) : (sg k).size ≤ 2 := by
  unfold sg
  repeat' split
  all_goals decide

set_option maxHeartbeats 1600000 in
set_option maxRecDepth 100000 in
theorem sign_any (p : Nat) (s : ByteArray) (st : Par) (v : Value) (level : Int) (w : World) (hlev : 1 ≤ level ∧ level ≤ 5) (hs : s.size ≤ 1048576) (ha : st.at_ ≤ s.size) (h : ParAt p w s st v) :
    Calls Tryz.prog 105 #[.pointer (some ⟨p, 0, none⟩), .int .i64 level] w fun e w' => e = .returned (.int .i64 (findSign s (skipTo s st.at_) level)) ∧
      ParAt p w' s { st with at_ := signAt s (skipTo s st.at_) level } v ∧ Touch p v w w' v := by
  have HP : Hid (ParAt p w s st v) := h
  have hle := skipTo_le ha
  obtain ⟨K, hK⟩ : ∃ K, skipTo s st.at_ = K := ⟨_, rfl⟩
  have HK : Hid (skipTo s st.at_ = K) := hK
  rw [hK] at hle ⊢
  clear h hK
  go_enter Tryz.func105, Tryz.ntmps105
  go_wp2_with fail
  go_loopw [5] (fun i wr => ∃ (j : Nat) (a : Nat), 5 ≤ j ∧ j ≤ 14 ∧ i = .int .i64 j ∧ Hid (∀ i, 5 ≤ i → i < j → isSign s K level i = false) ∧ a ≤ s.size ∧ Hid (skipTo s a = K) ∧ Hid (∀ i, 5 ≤ i → i < j → lvl (i : Nat) = level → a = K) ∧
      Hid (ParAt p wr s { st with at_ := a } v) ∧ Touch p v w wr v) (fun i _ => 14 - (intOf i).toNat)
  case atStart => exact ⟨5, st.at_, by omega, by omega, rfl, fun i _ _ => by omega, ha, HK.out, fun i _ _ => by omega, HP.out, Touch.refl _ _ _⟩
  case round =>
    obtain ⟨j, a, hj5, hj14, rfl, hno, haz, hsk, htr, hpar, ht⟩ := hrel
    by_cases hlt : j ≤ 13
    · by_cases hlv : lvl j = level
      · have hlv' : (lvl (j : Int) == level) = true := by simp [hlv]
        have hg := sg_size j
        have hjI : (j : Int) < 14 := by omega
        cases hh : hasAt s K (sg j)
        · have HN : Hid (∀ i, 5 ≤ i → i < j + 1 → isSign s K level i = false) := fun i h1 h2 => by
            by_cases e : i = j
            · subst e; unfold isSign; rw [hh]; simp
            · exact hno.out i h1 (by omega)
          have HH : Hid (hasAt s K (sg j) = false) := hh
          clear hlv hh
          go_wp2_with (go_at_call 99; refine (l1Level_any _ _).mono ?_; rintro e w' ⟨rfl, hw'⟩; rw [hw']; clear hw' w')
          refine (l1Signs_any _).mono ?_
          rintro e w1 ⟨rfl, hb1, hz1, hc1⟩
          have cj := hc1 j (by omega)
          clear hc1
          go_wp2_with fail
          refine (take_any p s (sg j) { st with at_ := a } v _ hs (by omega) haz (hpar.out.old hb1)).mono ?_
          simp only
          rw [hsk.out, HH.out]
          rintro e w2 ⟨rfl, hp2, ht2⟩
          have HP2 : Hid (ParAt p w2 s { st with at_ := K } v) := by
            show ParAt _ _ _ _ _
            unfold takeAt at hp2; rw [HH.out] at hp2; exact hp2
          clear hp2
          go_wp2_with fail
          go_roundw
          case rel => exact ⟨j + 1, K, by omega, by omega, by go_num, HN.out, hle.2, by show skipTo s K = K; rw [← HK.out]; exact skipTo_idem _ _, fun _ _ _ _ => rfl, HP2.out, (ht.trans (touch_old hb1)).trans ht2⟩
          case measure => simp [intOf]; omega
        · have HN : Hid (findSign s K level = j) := findSign_yes ⟨hj5, hlt⟩ (by unfold isSign; rw [hh, hlv']; rfl) hno.out
          have HH : Hid (hasAt s K (sg j) = true) := hh
          clear hlv hh
          go_wp2_with (go_at_call 99; refine (l1Level_any _ _).mono ?_; rintro e w' ⟨rfl, hw'⟩; rw [hw']; clear hw' w')
          refine (l1Signs_any _).mono ?_
          rintro e w1 ⟨rfl, hb1, hz1, hc1⟩
          have cj := hc1 j (by omega)
          clear hc1
          go_wp2_with fail
          refine (take_any p s (sg j) { st with at_ := a } v _ hs (by omega) haz (hpar.out.old hb1)).mono ?_
          simp only
          rw [hsk.out, HH.out]
          rintro e w2 ⟨rfl, hp2, ht2⟩
          have HP2 : Hid (ParAt p w2 s { st with at_ := signAt s K level } v) := by
            show ParAt _ _ _ _ _
            unfold takeAt at hp2; rw [HH.out] at hp2
            unfold signAt; rw [HN.out]; exact hp2
          clear hp2
          go_wp2_with fail
          go_ret
          exact ⟨ret_int (by rw [HN.out]), HP2.out, (ht.trans (touch_old hb1)).trans ht2⟩
      · have hlv' : (lvl (j : Int) == level) = false := by simp [hlv]
        have HN : Hid (∀ i, 5 ≤ i → i < j + 1 → isSign s K level i = false) := fun i h1 h2 => by
          by_cases e : i = j
          · subst e; unfold isSign; rw [hlv']; rfl
          · exact hno.out i h1 (by omega)
        have HT : Hid (∀ i, 5 ≤ i → i < j + 1 → lvl (i : Nat) = level → a = K) := fun i h1 h2 h3 => by
          by_cases e : i = j
          · subst e; exact absurd h3 hlv
          · exact htr.out i h1 (by omega) h3
        clear hlv
        go_wp2_with (go_at_call 99; refine (l1Level_any _ _).mono ?_; rintro e w' ⟨rfl, hw'⟩; rw [hw']; clear hw' w')
        go_roundw
        case rel => exact ⟨j + 1, a, by omega, by omega, by go_num, HN.out, haz, hsk.out, HT.out, hpar.out, ht⟩
        case measure => simp [intOf]; omega
    · have : j = 14 := by omega
      subst this
      have HN : Hid (findSign s K level = 0) := findSign_no hno.out
      have HA : Hid (a = K) := by
        show a = K
        have h1 : level = 1 ∨ level = 2 ∨ level = 3 ∨ level = 4 ∨ level = 5 := by omega
        rcases h1 with rfl | rfl | rfl | rfl | rfl
        · exact htr.out 13 (by omega) (by omega) (by decide)
        · exact htr.out 12 (by omega) (by omega) (by decide)
        · exact htr.out 10 (by omega) (by omega) (by decide)
        · exact htr.out 8 (by omega) (by omega) (by decide)
        · exact htr.out 5 (by omega) (by omega) (by decide)
      have HP2 : Hid (ParAt p wr s { st with at_ := signAt s K level } v) := by
        show ParAt _ _ _ _ _
        have h1 := hpar.out
        rw [HA.out] at h1
        unfold signAt; rw [HN.out]; exact h1
      go_wp2_with fail
      go_ret
      exact ⟨ret_int (by rw [HN.out]; rfl), HP2.out, ht⟩
end Go.Proofs.YtbpfonmkbbnkcaaGreatDoor

/- The model's reader as a function: plain. -/
namespace Go.Proofs.YtbpfonmkbbnkcaaGreatDoor
open Go.PlainAid
set_option linter.unusedSimpArgs false
set_option linter.unusedVariables false

def lpar : ByteArray := ⟨#[40]⟩
def rpar : ByteArray := ⟨#[41]⟩
def minus : ByteArray := ⟨#[45]⟩
def bang : ByteArray := ⟨#[33]⟩
def noName : ByteArray := ⟨#[]⟩

/-- signs ahead: their kinds, and the place of what follows -/
def aheadF (s : ByteArray) : Nat → Nat → List Int × Nat
  | 0, a => ([], a)
  | f + 1, a => if bt s (skipTo s a) = 45 then (3 :: (aheadF s f (skipTo s a + 1)).1, (aheadF s f (skipTo s a + 1)).2)
    else if bt s (skipTo s a) = 33 then (4 :: (aheadF s f (skipTo s a + 1)).1, (aheadF s f (skipTo s a + 1)).2) else ([], skipTo s a)
def aheadTo (s : ByteArray) (a : Nat) : List Int × Nat := aheadF s (s.size - a + 1) a

/-- nodes of signs ahead, the last first, as long as nothing is bad -/
def putAll : List Int → Par → Par
  | [], st => st
  | k :: r, st => if st.bad then st else putAll r (putNd st (k, 0, noName))

def primM (rec : Int → Par → Par) (s : ByteArray) (st : Par) : Par :=
  if hasAt s (skipTo s st.at_) lpar then
    if 6 < st.deep + 1 then { st with at_ := skipTo s st.at_ + 1, deep := st.deep + 1, bad := true }
    else
      let st3 := rec 1 { st with at_ := skipTo s st.at_ + 1, deep := st.deep + 1 }
      { st3 with at_ := takeAt s (skipTo s st3.at_) rpar, deep := st3.deep - 1, bad := st3.bad || !hasAt s (skipTo s st3.at_) rpar }
  else
    let w := s.extract (skipTo s st.at_) (wordTo s (skipTo s st.at_))
    if figB (bt s (skipTo s st.at_)) then putNd { st with at_ := wordTo s (skipTo s st.at_), bad := st.bad || decide (numOf w < 0) } (1, numOf w, noName)
    else putNd { st with at_ := wordTo s (skipTo s st.at_), bad := st.bad || !nmB w } (2, 0, w)
def unaryM (rec : Int → Par → Par) (s : ByteArray) (st : Par) : Par :=
  putAll (aheadTo s st.at_).1.reverse (primM rec s { st with at_ := (aheadTo s st.at_).2 })
def loopS (rec : Int → Par → Par) (s : ByteArray) (level : Int) : Nat → Par → Par
  | 0, st => st
  | n + 1, st => if st.bad then st else if findSign s (skipTo s st.at_) level = 0 then { st with at_ := signAt s (skipTo s st.at_) level }
    else loopS rec s level n (putNd (rec (level + 1) { st with at_ := signAt s (skipTo s st.at_) level }) (findSign s (skipTo s st.at_) level, 0, noName))
def sumF (s : ByteArray) : Nat → Int → Par → Par
  | 0, _, st => st
  | f + 1, level, st => if 5 < level then unaryM (sumF s f) s st else loopS (sumF s f) s level (s.size + 1) (sumF s f (level + 1) st)

/-- what reading leaves can only go on -/
structure Adv (s : ByteArray) (st st' : Par) : Prop where
  lo : st.at_ ≤ st'.at_
  hi : st.at_ ≤ s.size → st'.at_ ≤ s.size
  dlo : st.deep ≤ st'.deep
  dhi : st'.deep + st.at_ ≤ st.deep + st'.at_
  len : st.out.length ≤ 24 → st'.out.length ≤ 24
theorem Adv.refl (s : ByteArray) (st : Par) : Adv s st st := ⟨Nat.le_refl _, id, Nat.le_refl _, Nat.le_refl _, id⟩
theorem Adv.trans {s : ByteArray} {a b c : Par} (h : Adv s a b) (k : Adv s b c) : Adv s a c :=
  ⟨Nat.le_trans h.lo k.lo, fun x => k.hi (h.hi x), Nat.le_trans h.dlo k.dlo, by have := h.dhi; have := k.dhi; omega, fun x => k.len (h.len x)⟩
theorem adv_put (s : ByteArray) (st : Par) (x : Nd) : Adv s st (putNd st x) := by
  unfold putNd
  split
  · exact ⟨Nat.le_refl _, id, Nat.le_refl _, Nat.le_refl _, id⟩
  · refine ⟨Nat.le_refl _, id, Nat.le_refl _, Nat.le_refl _, fun _ => ?_⟩
    simp; omega
theorem adv_putAll (s : ByteArray) (l : List Int) : ∀ st, Adv s st (putAll l st) := by
  induction l with
  | nil => exact Adv.refl s
  | cons k r ih =>
    intro st
    unfold putAll
    split
    · exact Adv.refl s st
    · exact (adv_put s st _).trans (ih _)
theorem bt_lt {s : ByteArray} {k : Nat} {c : Int} (h : bt s k = c) (hc : c ≠ 0) : k < s.size := by
  rcases Nat.lt_or_ge k s.size with h1 | h1
  · exact h1
  · exact absurd (h.symm.trans (bt_end s h1)) hc
theorem skipF_ge (s : ByteArray) (f : Nat) : ∀ a, s.size ≤ a → skipF s f a = a := by
  induction f with
  | zero => intro a _; rfl
  | succ f ih => intro a h; unfold skipF; rw [if_neg (by omega)]
theorem skipTo_mono (s : ByteArray) (a : Nat) : a ≤ skipTo s a := (skipF_le s _ a).1
theorem adv_at (s : ByteArray) (st : Par) (a : Nat) (h1 : st.at_ ≤ a) (h2 : st.at_ ≤ s.size → a ≤ s.size) : Adv s st { st with at_ := a } :=
  ⟨h1, h2, Nat.le_refl _, by simp only; omega, id⟩
theorem aheadF_le (s : ByteArray) (f : Nat) : ∀ a, a ≤ (aheadF s f a).2 ∧ (a ≤ s.size → (aheadF s f a).2 ≤ s.size) := by
  induction f with
  | zero => intro a; exact ⟨Nat.le_refl _, id⟩
  | succ f ih =>
    intro a
    have h1 := skipTo_mono s a
    unfold aheadF
    split
    · rename_i hb
      have h2 := bt_lt hb (by decide)
      have := ih (skipTo s a + 1)
      simp only
      exact ⟨by omega, fun _ => this.2 (by omega)⟩
    · split
      · rename_i hb
        have h2 := bt_lt hb (by decide)
        have := ih (skipTo s a + 1)
        simp only
        exact ⟨by omega, fun _ => this.2 (by omega)⟩
      · exact ⟨h1, fun h => (skipTo_le h).2⟩
theorem hasAt_lt {s : ByteArray} {k : Nat} {g : ByteArray} (h : hasAt s k g = true) : k + g.size ≤ s.size := by
  unfold hasAt at h; simp at h; exact h.1
theorem takeAt_le {s : ByteArray} {k : Nat} {g : ByteArray} (h : k ≤ s.size) : k ≤ takeAt s k g ∧ takeAt s k g ≤ s.size := by
  unfold takeAt
  split
  · rename_i h1; have := hasAt_lt h1; omega
  · omega
theorem takeAt_mono (s : ByteArray) (k : Nat) (g : ByteArray) : k ≤ takeAt s k g := by
  unfold takeAt; split <;> omega
theorem adv_prim {s : ByteArray} {rec : Int → Par → Par} (hrec : ∀ l st, Adv s st (rec l st)) (st : Par) : Adv s st (primM rec s st) := by
  have h1 := skipTo_mono s st.at_
  unfold primM
  split
  · rename_i hh
    have h2 := hasAt_lt hh
    have e : lpar.size = 1 := rfl
    split
    · exact ⟨by simp only; omega, fun _ => by simp only; omega, by simp only; omega, by simp only; omega, id⟩
    · have h3 := hrec 1 { st with at_ := skipTo s st.at_ + 1, deep := st.deep + 1 }
      generalize rec 1 { st with at_ := skipTo s st.at_ + 1, deep := st.deep + 1 } = st3 at *
      obtain ⟨a1, a2, a3, a4, a5⟩ := h3
      simp only at a1 a2 a3 a4 a5
      have h4 := skipTo_mono s st3.at_
      have h5 := takeAt_mono s (skipTo s st3.at_) rpar
      refine ⟨by simp only; omega, fun h => ?_, by simp only; omega, by simp only; omega, a5⟩
      simp only
      have := a2 (by omega)
      exact (takeAt_le (skipTo_le this).2).2
  · have h2 := (wordF_le s (s.size - skipTo s st.at_) (skipTo s st.at_)).1
    have h3 : ∀ b, Adv s st { st with at_ := wordTo s (skipTo s st.at_), bad := b } := fun b =>
      ⟨by simp only; unfold wordTo; omega, fun h => by simp only; exact (wordTo_le (skipTo_le h).2).2, Nat.le_refl _, by simp only; unfold wordTo; omega, id⟩
    simp only
    split
    · exact (h3 _).trans (adv_put s _ _)
    · exact (h3 _).trans (adv_put s _ _)
theorem adv_unary {s : ByteArray} {rec : Int → Par → Par} (hrec : ∀ l st, Adv s st (rec l st)) (st : Par) : Adv s st (unaryM rec s st) := by
  unfold unaryM
  have h1 := aheadF_le s (s.size - st.at_ + 1) st.at_
  exact ((adv_at s st _ h1.1 h1.2).trans (adv_prim hrec _)).trans (adv_putAll s _ _)
theorem findSign_lt {s : ByteArray} {k : Nat} {level : Int} (h : findSign s k level ≠ 0) : k + (sg (findSign s k level)).size ≤ s.size ∧ 1 ≤ (sg (findSign s k level)).size ∧ 5 ≤ findSign s k level ∧ findSign s k level ≤ 13 := by
  unfold findSign at *
  cases hf : (List.range' 5 9).find? (isSign s k level) with
  | none => rw [hf] at h; simp at h
  | some j =>
    have h1 := List.find?_some hf
    have h2 := List.mem_of_find?_eq_some hf
    simp at h2
    simp only [Option.getD_some]
    unfold isSign at h1
    simp at h1
    refine ⟨hasAt_lt h1.2, ?_, by omega, by omega⟩
    have : j = 5 ∨ j = 6 ∨ j = 7 ∨ j = 8 ∨ j = 9 ∨ j = 10 ∨ j = 11 ∨ j = 12 ∨ j = 13 := by omega
    rcases this with rfl | rfl | rfl | rfl | rfl | rfl | rfl | rfl | rfl <;> decide
theorem signAt_le (s : ByteArray) (a : Nat) (level : Int) : a ≤ signAt s (skipTo s a) level ∧ (a ≤ s.size → signAt s (skipTo s a) level ≤ s.size) := by
  have h1 := skipTo_mono s a
  unfold signAt
  by_cases h : findSign s (skipTo s a) level = 0
  · rw [h]
    have e : (sg 0).size = 0 := by decide
    exact ⟨by omega, fun h => by have := (skipTo_le h).2; omega⟩
  · have := findSign_lt h
    exact ⟨by omega, fun _ => this.1⟩
theorem adv_loop {s : ByteArray} {rec : Int → Par → Par} (hrec : ∀ l st, Adv s st (rec l st)) (level : Int) (n : Nat) : ∀ st, Adv s st (loopS rec s level n st) := by
  induction n with
  | zero => exact Adv.refl s
  | succ n ih =>
    intro st
    have h1 := signAt_le s st.at_ level
    unfold loopS
    split
    · exact Adv.refl s st
    · split
      · exact adv_at s st _ h1.1 h1.2
      · exact (((adv_at s st _ h1.1 h1.2).trans (hrec _ _)).trans (adv_put s _ _)).trans (ih _)
theorem adv_sum (s : ByteArray) (f : Nat) : ∀ level st, Adv s st (sumF s f level st) := by
  induction f with
  | zero => exact fun _ => Adv.refl s
  | succ f ih =>
    intro level st
    unfold sumF
    split
    · exact adv_unary ih st
    · exact (ih _ _).trans (adv_loop ih level _ _)
end Go.Proofs.YtbpfonmkbbnkcaaGreatDoor

/- The reader's prim, if its sum is as said. -/
namespace Go.Proofs.YtbpfonmkbbnkcaaGreatDoor
open Go.RowKit Go.PlainAid
set_option linter.unusedSimpArgs false
set_option linter.unusedVariables false

/-- what sum does, with so much to go on -/
def SumOk (s : ByteArray) (f : Nat) : Prop := ∀ (level : Int) (p : Nat) (st : Par) (v : Value) (w : World), 1 ≤ level → level ≤ 6 → ((7 * (s.size - st.at_) + 7 : Nat) : Int) ≤ f + level →
  st.at_ ≤ s.size → st.deep ≤ st.at_ → st.out.length ≤ 24 → ParAt p w s st v →
  Calls Tryz.prog 73 #[.pointer (some ⟨p, 0, none⟩), .int .i64 level] w fun e w' => e = .returned (.tuple #[]) ∧ ∃ v', ParAt p w' s (sumF s f level st) v' ∧ Touch p v w w' v'

theorem ParAt.deep_bad {p : Nat} {w : World} {s : ByteArray} {st : Par} {v : Value} (h : ParAt p w s st v) (b : Bool) (hb : b = st.bad) : ParAt p w s { st with bad := b } v := by subst hb; exact h

theorem put_any' (p : Nat) (s : ByteArray) (st : Par) (v : Value) (a b : Int) (c : ByteArray) (w : World) (hl : st.out.length ≤ 24) (h : ParAt p w s st v) :
    Calls Tryz.prog 106 #[.pointer (some ⟨p, 0, none⟩), .agg #[.int .i64 a, .int .i64 b, .string c]] w fun e w' => e = .returned (.tuple #[]) ∧ ∃ v', ParAt p w' s (putNd st (a, b, c)) v' ∧ Touch p v w w' v' :=
  put_any p s st v (a, b, c) w hl h

theorem extract_le (s : ByteArray) (a b : Nat) : (s.extract a b).size ≤ s.size := by
  rw [ByteArray.size_extract]; omega

set_option maxHeartbeats 1600000 in
set_option maxRecDepth 100000 in
theorem prim_any (s : ByteArray) (f : Nat) (hsum : SumOk s f) (hs : s.size ≤ 1048576) (p : Nat) (st : Par) (v : Value) (w : World) (hf : 7 * (s.size - st.at_) ≤ f) (ha : st.at_ ≤ s.size) (hd : st.deep ≤ st.at_) (hl : st.out.length ≤ 24) (h : ParAt p w s st v) :
    Calls Tryz.prog 120 #[.pointer (some ⟨p, 0, none⟩)] w fun e w' => e = .returned (.tuple #[]) ∧ ∃ v', ParAt p w' s (primM (sumF s f) s st) v' ∧ Touch p v w w' v' := by
  have HP : Hid (ParAt p w s st v) := h
  have HS : Hid (SumOk s f) := hsum
  have hle := skipTo_le ha
  obtain ⟨k, hk⟩ : ∃ k, skipTo s st.at_ = k := ⟨_, rfl⟩
  have HK : Hid (skipTo s st.at_ = k) := hk
  have HI : Hid (skipTo s k = k) := by
    show skipTo s k = k
    rw [← hk]; exact skipTo_idem s st.at_
  rw [hk] at hle
  clear h hk hsum
  cases hh : hasAt s k lpar
  · have HH : Hid (hasAt s k lpar = false) := hh
    have HT : Hid (takeAt s k lpar = k) := by
      show takeAt s k lpar = _
      unfold takeAt; rw [hh]; rfl
    have hw := wordTo_le hle.2
    obtain ⟨wd, hwd⟩ : ∃ wd, s.extract k (wordTo s k) = wd := ⟨_, rfl⟩
    have HW : Hid (s.extract k (wordTo s k) = wd) := hwd
    have hws : wd.size ≤ 1048576 := by rw [← hwd]; have := extract_le s k (wordTo s k); omega
    obtain ⟨k2, hk2⟩ : ∃ k2, wordTo s k = k2 := ⟨_, rfl⟩
    have HK2 : Hid (wordTo s k = k2) := hk2
    rw [hk2] at hw HW
    clear hh hwd hk2
    go_enter Tryz.func120, Tryz.ntmps120
    go_wp2_with fail
    refine (look_any p s st v _ (by unfold maxLen; omega) ha HP.out).mono ?_
    rw [HK.out]
    rintro e w1 ⟨rfl, hp1, ht1⟩
    have HP1 : Hid (ParAt p w1 s { st with at_ := k } v) := hp1
    clear hp1
    go_wp2_with fail
    refine (take_any p s lpar { st with at_ := k } v _ hs (by decide) hle.2 HP1.out).mono ?_
    simp only
    rw [HI.out, HH.out, HT.out]
    rintro e w2 ⟨rfl, hp2, ht2⟩
    have HP2 : Hid (ParAt p w2 s { st with at_ := k } v) := hp2
    clear hp2
    go_wp2_with fail
    refine (word_any p s { st with at_ := k } v _ hs hle.2 HP2.out).mono ?_
    simp only
    rw [HK2.out, HW.out]
    rintro e w3 ⟨rfl, hp3, ht3⟩
    have HP3 : Hid (ParAt p w3 s { st with at_ := k2 } v) := hp3
    have HT3 : Hid (Touch p v w w3 v) := (ht1.trans ht2).trans ht3
    have c3 := hp3.c3
    have ho := hp3.open_
    simp only at c3
    clear hp3 ht1 ht2 ht3
    cases hfb : figB (bt s k)
    · have HM : Hid (primM (sumF s f) s st = putNd { st with at_ := k2, bad := st.bad || !nmB wd } (2, 0, wd)) := by
        show primM _ _ _ = _
        unfold primM; rw [HK.out, HH.out, if_neg (by decide)]
        simp only
        rw [HK2.out, hfb, if_neg (by decide), HW.out]
      cases hbad : st.bad
      · rw [hbad] at c3
        have HB : Hid (st.bad = false) := hbad
        clear hbad
        go_wp2_with (first | (go_at_call 114; refine (l1Figure_is hfb _).mono ?_; rintro e w' ⟨rfl, hw'⟩; rw [hw']; clear hw' w') | (go_at_call 97; refine (l1Name_any wd _ (by unfold maxLen; omega)).mono ?_; rintro e w' ⟨rfl, hw'⟩; rw [hw']; clear hw' w'))
        refine (put_any' p s { st with at_ := k2, bad := !nmB wd } v _ _ _ _ hl (by exact HP3.out.bad1 _)).mono ?_
        rintro e w5 ⟨rfl, v5, hp5, ht5⟩
        go_wp2_with fail
        go_returns
        rw [HM.out, HB.out]
        exact ⟨rfl, v5, hp5, (HT3.out.setCell _ _).trans ht5⟩
      · rw [hbad] at c3
        have HB : Hid (st.bad = true) := hbad
        clear hbad
        go_wp2_with (go_at_call 114; refine (l1Figure_is hfb _).mono ?_; rintro e w' ⟨rfl, hw'⟩; rw [hw']; clear hw' w')
        refine (put_any' p s { st with at_ := k2, bad := true } v _ _ _ _ hl (by exact HP3.out.bad1 _)).mono ?_
        rintro e w5 ⟨rfl, v5, hp5, ht5⟩
        go_wp2_with fail
        go_returns
        rw [HM.out, HB.out]
        exact ⟨rfl, v5, hp5, (HT3.out.setCell _ _).trans ht5⟩
    · obtain ⟨nn, hnn⟩ : ∃ nn, numOf wd = nn := ⟨_, rfl⟩
      have HNN : Hid (numOf wd = nn) := hnn
      have HM : Hid (primM (sumF s f) s st = putNd { st with at_ := k2, bad := st.bad || decide (nn < 0) } (1, nn, noName)) := by
        show primM _ _ _ = _
        unfold primM; rw [HK.out, HH.out, if_neg (by decide)]
        simp only
        rw [HK2.out, hfb, if_pos rfl, HW.out, hnn]
      clear hnn
      go_wp2_with (go_at_call 114; refine (l1Figure_is hfb _).mono ?_; rintro e w' ⟨rfl, hw'⟩; rw [hw']; clear hw' w')
      refine (l1Num_any wd _ hws).mono ?_
      rw [HNN.out]
      rintro e w4 ⟨rfl, hw4⟩
      rw [hw4]
      clear hw4 w4
      cases hbad : st.bad
      · rw [hbad] at c3
        have HB : Hid (st.bad = false) := hbad
        clear hbad
        go_wp2_with fail
        refine (put_any' p s { st with at_ := k2, bad := decide (nn < 0) } v _ _ _ _ hl (by exact HP3.out.bad1 _)).mono ?_
        rintro e w5 ⟨rfl, v5, hp5, ht5⟩
        go_wp2_with fail
        go_returns
        rw [HM.out, HB.out]
        exact ⟨rfl, v5, hp5, (HT3.out.setCell _ _).trans ht5⟩
      · rw [hbad] at c3
        have HB : Hid (st.bad = true) := hbad
        clear hbad
        go_wp2_with fail
        refine (put_any' p s { st with at_ := k2, bad := true } v _ _ _ _ hl (by exact HP3.out.bad1 _)).mono ?_
        rintro e w5 ⟨rfl, v5, hp5, ht5⟩
        go_wp2_with fail
        go_returns
        rw [HM.out, HB.out]
        exact ⟨rfl, v5, hp5, (HT3.out.setCell _ _).trans ht5⟩
  · have h1 := hasAt_lt hh
    have e1 : lpar.size = 1 := rfl
    rw [e1] at h1
    have HH : Hid (hasAt s k lpar = true) := hh
    have HT : Hid (takeAt s k lpar = k + 1) := by
      show takeAt s k lpar = _
      unfold takeAt; rw [hh]; rfl
    clear hh
    go_enter Tryz.func120, Tryz.ntmps120
    go_wp2_with fail
    refine (look_any p s st v _ (by unfold maxLen; omega) ha HP.out).mono ?_
    rw [HK.out]
    rintro e w1 ⟨rfl, hp1, ht1⟩
    have HP1 : Hid (ParAt p w1 s { st with at_ := k } v) := hp1
    clear hp1
    go_wp2_with fail
    refine (take_any p s lpar { st with at_ := k } v _ hs (by omega) hle.2 HP1.out).mono ?_
    simp only
    rw [HI.out, HH.out, HT.out]
    rintro e w2 ⟨rfl, hp2, ht2⟩
    have HP2 : Hid (ParAt p w2 s { st with at_ := k + 1 } v) := hp2
    have c2 := hp2.c2
    have ho := hp2.open_
    simp only at c2
    clear hp2
    by_cases hdeep : 6 < st.deep + 1
    · have HM : Hid (primM (sumF s f) s st = { st with at_ := k + 1, deep := st.deep + 1, bad := true }) := by
        show primM _ _ _ = _
        unfold primM; rw [HK.out, HH.out, if_pos rfl, if_pos hdeep]
      have c3 := HP2.out.c3
      simp only at c3
      go_wp2_with fail
      go_returns
      rw [HM.out]
      refine ⟨rfl, v, ?_, ?_⟩
      · exact (HP2.out.deep1 (st.deep + 1)).bad1 true
      · exact ((ht1.trans ht2).setCell _ _).setCell _ _
    · have HM : Hid (primM (sumF s f) s st = (let st3 := sumF s f 1 { st with at_ := k + 1, deep := st.deep + 1 }
          { st3 with at_ := takeAt s (skipTo s st3.at_) rpar, deep := st3.deep - 1, bad := st3.bad || !hasAt s (skipTo s st3.at_) rpar })) := by
        show primM _ _ _ = _
        unfold primM; rw [HK.out, HH.out, if_pos rfl, if_neg hdeep]
      have HA : Hid (Adv s { st with at_ := k + 1, deep := st.deep + 1 } (sumF s f 1 { st with at_ := k + 1, deep := st.deep + 1 })) := adv_sum s f 1 _
      go_wp2_with fail
      refine (HS.out 1 p { st with at_ := k + 1, deep := st.deep + 1 } v _ (by decide) (by decide) (by simp only; omega) (by simp only; omega) (by simp only; omega) hl (by exact HP2.out.deep1 (st.deep + 1))).mono ?_
      rintro e w3 ⟨rfl, v3, hp3, ht3⟩
      obtain ⟨st3, hst3⟩ : ∃ st3, sumF s f 1 { st with at_ := k + 1, deep := st.deep + 1 } = st3 := ⟨_, rfl⟩
      rw [hst3] at hp3 HM HA
      clear hst3
      obtain ⟨a1, a2, a3, a4, a5⟩ := HA.out
      simp only at a1 a2 a3 a4 a5
      have a2' := a2 (by omega)
      have HP3 : Hid (ParAt p w3 s st3 v3) := hp3
      have HT3 : Hid (Touch p v w w3 v3) := ((ht1.trans ht2).setCell _ _).trans ht3
      have c2' := hp3.c2
      have ho' := hp3.open_
      obtain ⟨d3, hd3⟩ : ∃ d3, st3.deep = d3 + 1 := ⟨st3.deep - 1, by omega⟩
      rw [hd3] at c2' a4 a3
      have HD3 : Hid (st3.deep - 1 = d3) := by
        show st3.deep - 1 = d3
        omega
      clear hp3 ht3 a5 a2 c2 ho hd3
      go_wp2_with fail
      refine (take_any p s rpar { st3 with deep := d3 } v3 _ hs (by decide) a2' (by exact HP3.out.deep1 d3)).mono ?_
      simp only
      have HPk : Hid (ParAt p (w3.setCell ⟨p, 2, none⟩ (.int .i64 d3)) s { st3 with deep := d3 } v3) := HP3.out.deep1 d3
      cases hr : hasAt s (skipTo s st3.at_) rpar
      · rintro e w4 ⟨rfl, hp4, ht4⟩
        have HP4 : Hid (ParAt p w4 s { st3 with deep := d3, at_ := takeAt s (skipTo s st3.at_) rpar } v3) := hp4
        have ho4 := hp4.open_
        have c34 := hp4.c3
        simp only at c34
        have HR : Hid (hasAt s (skipTo s st3.at_) rpar = false) := hr
        clear hp4 c2' ho' hr
        go_wp2_with fail
        go_returns
        rw [HM.out]
        refine ⟨rfl, v3, ?_, ?_⟩
        · rw [HR.out, HD3.out]
          have := HP4.out.bad1 true
          simpa using this
        · exact ((HT3.out.setCell _ _).trans ht4).setCell _ _
      · rintro e w4 ⟨rfl, hp4, ht4⟩
        have HP4 : Hid (ParAt p w4 s { st3 with deep := d3, at_ := takeAt s (skipTo s st3.at_) rpar } v3) := hp4
        have HR : Hid (hasAt s (skipTo s st3.at_) rpar = true) := hr
        clear hp4 c2' ho' hr
        go_wp2_with fail
        go_returns
        rw [HM.out]
        refine ⟨rfl, v3, ?_, ?_⟩
        · rw [HR.out, HD3.out]
          simpa using HP4.out
        · exact (HT3.out.setCell _ _).trans ht4
end Go.Proofs.YtbpfonmkbbnkcaaGreatDoor

/- The reader's unary: signs ahead. -/
namespace Go.Proofs.YtbpfonmkbbnkcaaGreatDoor
open Go.RowKit Go.PlainAid
set_option linter.unusedSimpArgs false
set_option linter.unusedVariables false

theorem infoInt' : (Tryz.prog.info? 3).map (fun i => (i.zero, i.size, i.bytes)) = some (some (.int .i64 0), 1, 8) := by kernel_rfl

theorem own_of_block {w w' : World} {B : Nat} {e : TypeId} {size : Nat} {v : Value} {n : Nat} {xs : List Value} (h : w.ownsRow B e size v n xs) (hb : ∀ g, v.ownBlock = some g → w'.heap[g]? = w.heap[g]?) : w'.ownsRow B e size v n xs := by
  obtain ⟨h1, h2⟩ := h
  refine ⟨h1, ?_⟩
  rcases h2 with h2 | ⟨g, cap, cur, hv, h3, h4, h5⟩
  · exact .inl h2
  · exact .inr ⟨g, cap, cur, hv, h3, by rw [hb g (by rw [hv]; rfl)]; exact h4, h5⟩
theorem ParAt.of_block {p : Nat} {w w' : World} {s : ByteArray} {st : Par} {v : Value} (h : ParAt p w s st v) (hp : w'.heap[p]? = w.heap[p]?) (hv : ∀ g, v.ownBlock = some g → w'.heap[g]? = w.heap[g]?) : ParAt p w' s st v := by
  have hc : ∀ j, w'.cell? ⟨p, j, none⟩ = w.cell? ⟨p, j, none⟩ := fun j => World.cell?_of_block hp
  have hf : ∀ j, w'.frozen? ⟨p, j, none⟩ = w.frozen? ⟨p, j, none⟩ := fun j => World.frozen?_of_block hp
  exact ⟨(hc 0).trans h.c0, (hc 1).trans h.c1, (hc 2).trans h.c2, (hc 3).trans h.c3, (hc 4).trans h.c4, fun j => (hf j).trans (h.open_ j), own_of_block h.own hv⟩

theorem hasAt_one {s : ByteArray} {k : Nat} (c : UInt8) (hc : c ≠ 0) : hasAt s k ⟨#[c]⟩ = (bt s k == (c.toNat : Int)) := by
  unfold hasAt
  have e : (⟨#[c]⟩ : ByteArray).size = 1 := rfl
  rw [e]
  by_cases h : k + 1 ≤ s.size
  · have hk : k < s.data.toList.length := by simp; omega
    have h1 : (s.extract k (k + 1)).toList = [s[k]] := by
      rw [Lib.extract_toList, show k + 1 - k = 1 from by omega, List.drop_eq_getElem_cons hk]
      rfl
    rw [decide_eq_true h, h1, ← get_bt s k (by omega), Lib.toList_data]
    simp only [Bool.true_and]
    rw [Bool.eq_iff_iff]
    simp
    exact ⟨fun h => by rw [h], fun h => UInt8.toNat_inj.1 (by omega)⟩
  · have hc0 : c.toNat ≠ 0 := fun h => hc (UInt8.toNat_inj.1 h)
    rw [decide_eq_false h, bt_end s (by omega)]
    simp only [Bool.false_and]
    symm
    simp
    omega

theorem aheadF_eq (s : ByteArray) (f : Nat) : ∀ g a, s.size - a + 1 ≤ f → s.size - a + 1 ≤ g → a ≤ s.size → aheadF s f a = aheadF s g a := by
  induction f with
  | zero => intro g a h; omega
  | succ f ih =>
    intro g a hf hg ha
    obtain ⟨g, rfl⟩ : ∃ g', g = g' + 1 := ⟨g - 1, by omega⟩
    have h1 := skipTo_mono s a
    unfold aheadF
    split
    · rename_i hb
      have h2 := bt_lt hb (by decide)
      rw [ih g _ (by omega) (by omega) (by omega)]
    · split
      · rename_i hb
        have h2 := bt_lt hb (by decide)
        rw [ih g _ (by omega) (by omega) (by omega)]
      · rfl
def ints (l : List Int) : List Value := l.map (Value.int .i64)
theorem aheadTo_minus {s : ByteArray} {a : Nat} (ha : a ≤ s.size) (h : bt s (skipTo s a) = 45) : aheadTo s a = (3 :: (aheadTo s (skipTo s a + 1)).1, (aheadTo s (skipTo s a + 1)).2) := by
  have h1 := skipTo_mono s a
  have h2 := bt_lt h (by decide)
  have key : ∀ f g, s.size - (skipTo s a + 1) + 1 ≤ f → s.size - (skipTo s a + 1) + 1 ≤ g → aheadF s f (skipTo s a + 1) = aheadF s g (skipTo s a + 1) := by
    intro f g hf hg
    exact aheadF_eq s f g _ hf hg (by omega)
  unfold aheadTo
  rw [aheadF, if_pos h, key (s.size - a) (s.size - (skipTo s a + 1) + 1) (by omega) (Nat.le_refl _)]
theorem aheadTo_bang {s : ByteArray} {a : Nat} (ha : a ≤ s.size) (h : bt s (skipTo s a) = 33) : aheadTo s a = (4 :: (aheadTo s (skipTo s a + 1)).1, (aheadTo s (skipTo s a + 1)).2) := by
  have h1 := skipTo_mono s a
  have h2 := bt_lt h (by decide)
  have key : ∀ f g, s.size - (skipTo s a + 1) + 1 ≤ f → s.size - (skipTo s a + 1) + 1 ≤ g → aheadF s f (skipTo s a + 1) = aheadF s g (skipTo s a + 1) := by
    intro f g hf hg
    exact aheadF_eq s f g _ hf hg (by omega)
  unfold aheadTo
  rw [aheadF, if_neg (by omega), if_pos h, key (s.size - a) (s.size - (skipTo s a + 1) + 1) (by omega) (Nat.le_refl _)]
theorem aheadTo_none {s : ByteArray} {a : Nat} (h1 : bt s (skipTo s a) ≠ 45) (h2 : bt s (skipTo s a) ≠ 33) : aheadTo s a = ([], skipTo s a) := by
  unfold aheadTo
  rw [aheadF, if_neg h1, if_neg h2]
end Go.Proofs.YtbpfonmkbbnkcaaGreatDoor

/- The reader's unary, walked. -/
namespace Go.Proofs.YtbpfonmkbbnkcaaGreatDoor
open Go.RowKit Go.PlainAid
set_option linter.unusedSimpArgs false
set_option linter.unusedVariables false

theorem touch_grown {p : Nat} {v v' : Value} {w wr w1 : World} {row : Option Nat} (h : Touch p v w wr v') (hg : wr.grownBy w1 row) (hrow : ∀ g, row = some g → w.heap.size ≤ g) : Touch p v w w1 v' :=
  ⟨hg.os.trans h.os, hg.tape.trans h.tape, hg.output.trans h.output, Nat.le_trans h.size hg.size,
    fun k hk hp hv => (hg.block k (Nat.lt_of_lt_of_le hk h.size) (fun e => by have := hrow k e.symm; omega)).trans (h.block k hk hp hv), h.own⟩
theorem one_new' (W : World) (v : Value) (t : TypeId) (N : Nat) (hN : N = W.heap.size) : ∀ j u, [v][j]? = some u → (W.alloc (.cells #[v] t)).cell? ((⟨N, 0, none⟩ : Addr).add j) = some u := by
  subst hN
  intro j u hj
  match j, hj with
  | 0, hj => simp at hj; subst hj; simp [Addr.add]
theorem ints_snoc (l : List Int) (x : Int) : ints (l ++ [x]) = ints l ++ [.int .i64 x] := by simp [ints]

set_option maxHeartbeats 1600000 in
set_option maxRecDepth 100000 in
theorem unary_any (s : ByteArray) (f : Nat) (hsum : SumOk s f) (hs : s.size ≤ 1048576) (p : Nat) (st : Par) (v : Value) (w : World) (hf : 7 * (s.size - st.at_) ≤ f) (ha : st.at_ ≤ s.size) (hd : st.deep ≤ st.at_) (hl : st.out.length ≤ 24) (h : ParAt p w s st v) :
    Calls Tryz.prog 104 #[.pointer (some ⟨p, 0, none⟩)] w fun e w' => e = .returned (.tuple #[]) ∧ ∃ v', ParAt p w' s (unaryM (sumF s f) s st) v' ∧ Touch p v w w' v' := by
  have HP : Hid (ParAt p w s st v) := h
  have HS : Hid (SumOk s f) := hsum
  have hplt := h.lt
  have HV : Hid (∀ g, v.ownBlock = some g → g < w.heap.size) := fun g hg => (h.own.lt g hg).2
  obtain ⟨i0, hi, hz0, hz1, hz2⟩ := info_parts infoInt'
  clear h hsum
  go_enter Tryz.func104, Tryz.ntmps104
  go_wp2_with fail
  go_loopw [2] (fun vs wr => ∃ (L : List Int) (a g c : Nat), vs = .slice (some ⟨g, 0, none⟩) L.length c ∧ a ≤ s.size ∧ st.at_ ≤ a ∧ L.length ≤ a ∧ Hid (aheadTo s st.at_ = (L ++ (aheadTo s a).1, (aheadTo s a).2)) ∧
      Hid (wr.ownsRow w.heap.size 3 1 (.slice (some ⟨g, 0, none⟩) L.length c) L.length (ints L)) ∧ Hid (ParAt p wr s { st with at_ := a } v) ∧ Touch p v w wr v ∧ w.heap.size ≤ wr.heap.size)
    (fun _ wr => s.size - (intOf ((wr.cell? ⟨p, 1, none⟩).getD undef)).toNat)
  case atStart => exact ⟨[], st.at_, w.heap.size, 0, rfl, ha, Nat.le_refl _, Nat.zero_le _, rfl, World.ownsRow_made w #[] 0 (Nat.le_refl _) (Nat.zero_le _) rfl, HP.out.alloc _, (Touch.refl p v w).alloc _, by simp⟩
  case round =>
    obtain ⟨L, a, g, c, rfl, haz, hsa, hLa, HA, HO, HR, ht, hwz⟩ := hrel
    have HG : Hid (w.heap.size ≤ g ∧ g < wr.heap.size) := World.ownsRow.lt HO.out g rfl
    have c1 := HR.out.c1
    simp only at c1
    have hk1 := skipTo_le haz
    obtain ⟨k, hk⟩ : ∃ k, skipTo s a = k := ⟨_, rfl⟩
    have HK : Hid (skipTo s a = k) := hk
    have HI : Hid (skipTo s k = k) := by
      show skipTo s k = k
      rw [← hk]; exact skipTo_idem s a
    rw [hk] at hk1
    clear hk
    by_cases h45 : bt s k = 45
    · have e45 : (bt s k == 45) = true := by simp [h45]
      have hklt := bt_lt h45 (by decide)
      have HH : Hid (hasAt s k minus = true) := by
        show hasAt s k minus = true
        unfold minus; rw [hasAt_one 45 (by decide)]; exact e45
      have HT : Hid (takeAt s k minus = k + 1) := by
        show takeAt s k minus = _
        unfold takeAt; rw [HH.out]; rfl
      have HA2 : Hid (aheadTo s st.at_ = ((L ++ [3]) ++ (aheadTo s (k + 1)).1, (aheadTo s (k + 1)).2)) := by
        show aheadTo s st.at_ = _
        rw [HA.out, aheadTo_minus haz (by rw [HK.out]; exact h45), HK.out]; simp
      clear h45
      go_wp2_with fail
      refine (look_any p s { st with at_ := a } v _ (by unfold maxLen; omega) haz HR.out).mono ?_
      simp only
      rw [HK.out]
      rintro e w1 ⟨rfl, hp1, ht1⟩
      have HP1 : Hid (ParAt p w1 s { st with at_ := k } v) := hp1
      clear hp1
      go_wp2_with fail
      refine (take_any p s minus { st with at_ := k } v _ hs (by decide) hk1.2 HP1.out).mono ?_
      simp only
      rw [HI.out, HH.out, HT.out]
      rintro e w2 ⟨rfl, hp2, ht2⟩
      have HP2 : Hid (ParAt p w2 s { st with at_ := k + 1 } v) := hp2
      have HT2 : Hid (Touch p v wr w2 v) := ht1.trans ht2
      clear hp2 ht1 ht2
      have HO2 : Hid (w2.ownsRow w.heap.size 3 1 (.slice (some ⟨g, 0, none⟩) L.length c) L.length (ints L)) :=
        own_of_block HO.out (fun g' hg' => by
          have : g' = g := by simpa [Value.ownBlock] using hg'.symm
          subst this
          exact HT2.out.block g' HG.out.2 (by have := HG.out.1; omega) (fun e => by have := HV.out g' e.symm; have := HG.out.1; omega))
      have hz2w := HT2.out.size
      go_wp2_with (at_builtin; refine wpList_append_own _ rfl _ _ 32 rfl w.heap.size 3 i0 (.int .i64 0) 1 8 Tryz.underlying32 hi hz0 hz1 hz2 rfl (by decide) _ _ _ rfl (World.ownsRow.alloc HO2.out _) ⟨w2.heap.size, 0, none⟩ 1 1 [.int .i64 3] rfl rfl (by exact one_new' _ _ _ _ rfl) (by intro u hu; simp at hu; subst hu; rfl) (by unfold maxLen; omega) (by omega) (by simp; omega) ?_)
      intro v' w5 hown5 hgrow5 _
      obtain ⟨g5, c5, hv5⟩ := own_form hown5 (by omega)
      subst hv5
      have hg5 := hgrow5
      rw [← ints_snoc] at hown5
      have HO5 : Hid (w5.ownsRow w.heap.size 3 1 (.slice (some ⟨g5, 0, none⟩) (L ++ [3]).length c5) (L ++ [3]).length (ints (L ++ [3]))) := by
        show World.ownsRow _ _ _ _ _ _ _
        rw [List.length_append]; exact hown5
      have HP5 : Hid (ParAt p w5 s { st with at_ := k + 1 } v) := (ParAt.alloc HP2.out _).of_block (hgrow5.block p (by have := HP2.out.lt; simp; omega) (by simp [Value.ownBlock]; have := HG.out.1; omega))
        (fun q hq => hgrow5.block q (by have := (HP2.out.own.lt q hq).2; simp; omega) (by simp [Value.ownBlock]; have := HG.out.1; have := HV.out q hq; omega))
      have HT5 : Hid (Touch p v w w5 v) := touch_grown ((ht.trans HT2.out).alloc _) hgrow5 (fun q hq => by simp [Value.ownBlock] at hq; have := HG.out.1; omega)
      have hc5 := HP5.out.c1
      have hw5 : w.heap.size ≤ w5.heap.size := HT5.out.size
      have hL5 : (L ++ [3]).length = L.length + 1 := by simp
      have HL5 : Hid ((L ++ [(3 : Int)]).length = L.length + 1) := hL5
      simp only at hc5
      clear hown5 hgrow5 hg5 hL5
      go_wp2_with fail
      go_roundw
      case rel => exact ⟨L ++ [3], k + 1, g5, c5, by rw [HL5.out], by omega, by omega, by rw [HL5.out]; omega, HA2.out, HO5.out, HP5.out, HT5.out, hw5⟩
      case measure =>
        rw [hc5, c1]
        simp [intOf]; omega
    have e45 : (bt s k == 45) = false := by simp [h45]
    have HM : Hid (hasAt s k minus = false) := by
      show hasAt s k minus = false
      unfold minus; rw [hasAt_one 45 (by decide)]; exact e45
    have HTM : Hid (takeAt s k minus = k) := by
      show takeAt s k minus = _
      unfold takeAt; rw [HM.out]; rfl
    by_cases h33 : bt s k = 33
    · have e33 : (bt s k == 33) = true := by simp [h33]
      have hklt := bt_lt h33 (by decide)
      have HH : Hid (hasAt s k bang = true) := by
        show hasAt s k bang = true
        unfold bang; rw [hasAt_one 33 (by decide)]; exact e33
      have HT : Hid (takeAt s k bang = k + 1) := by
        show takeAt s k bang = _
        unfold takeAt; rw [HH.out]; rfl
      have HA2 : Hid (aheadTo s st.at_ = ((L ++ [4]) ++ (aheadTo s (k + 1)).1, (aheadTo s (k + 1)).2)) := by
        show aheadTo s st.at_ = _
        rw [HA.out, aheadTo_bang haz (by rw [HK.out]; exact h33), HK.out]; simp
      clear h33 h45
      go_wp2_with fail
      refine (look_any p s { st with at_ := a } v _ (by unfold maxLen; omega) haz HR.out).mono ?_
      simp only
      rw [HK.out]
      rintro e w1 ⟨rfl, hp1, ht1⟩
      have HP1 : Hid (ParAt p w1 s { st with at_ := k } v) := hp1
      clear hp1
      go_wp2_with fail
      refine (look_any p s { st with at_ := k } v _ (by unfold maxLen; omega) hk1.2 HP1.out).mono ?_
      simp only
      rw [HI.out]
      rintro e w2 ⟨rfl, hp2, ht2⟩
      have HP2 : Hid (ParAt p w2 s { st with at_ := k } v) := hp2
      clear hp2
      go_wp2_with fail
      refine (take_any p s minus { st with at_ := k } v _ hs (by decide) hk1.2 HP2.out).mono ?_
      simp only
      rw [HI.out, HM.out, HTM.out]
      rintro e w3 ⟨rfl, hp3, ht3⟩
      have HP3 : Hid (ParAt p w3 s { st with at_ := k } v) := hp3
      clear hp3
      go_wp2_with fail
      refine (take_any p s bang { st with at_ := k } v _ hs (by decide) hk1.2 HP3.out).mono ?_
      simp only
      rw [HI.out, HH.out, HT.out]
      rintro e w4 ⟨rfl, hp4, ht4⟩
      have HP4 : Hid (ParAt p w4 s { st with at_ := k + 1 } v) := hp4
      have HT4 : Hid (Touch p v wr w4 v) := ((ht1.trans ht2).trans ht3).trans ht4
      clear hp4 ht1 ht2 ht3 ht4
      have HO4 : Hid (w4.ownsRow w.heap.size 3 1 (.slice (some ⟨g, 0, none⟩) L.length c) L.length (ints L)) :=
        own_of_block HO.out (fun g' hg' => by
          have : g' = g := by simpa [Value.ownBlock] using hg'.symm
          subst this
          exact HT4.out.block g' HG.out.2 (by have := HG.out.1; omega) (fun e => by have := HV.out g' e.symm; have := HG.out.1; omega))
      have hz4w := HT4.out.size
      go_wp2_with (at_builtin; refine wpList_append_own _ rfl _ _ 32 rfl w.heap.size 3 i0 (.int .i64 0) 1 8 Tryz.underlying32 hi hz0 hz1 hz2 rfl (by decide) _ _ _ rfl (World.ownsRow.alloc HO4.out _) ⟨w4.heap.size, 0, none⟩ 1 1 [.int .i64 4] rfl rfl (by exact one_new' _ _ _ _ rfl) (by intro u hu; simp at hu; subst hu; rfl) (by unfold maxLen; omega) (by omega) (by simp; omega) ?_)
      intro v' w5 hown5 hgrow5 _
      obtain ⟨g5, c5, hv5⟩ := own_form hown5 (by omega)
      subst hv5
      have hg5 := hgrow5
      rw [← ints_snoc] at hown5
      have HO5 : Hid (w5.ownsRow w.heap.size 3 1 (.slice (some ⟨g5, 0, none⟩) (L ++ [4]).length c5) (L ++ [4]).length (ints (L ++ [4]))) := by
        show World.ownsRow _ _ _ _ _ _ _
        rw [List.length_append]; exact hown5
      have HP5 : Hid (ParAt p w5 s { st with at_ := k + 1 } v) := (ParAt.alloc HP4.out _).of_block (hgrow5.block p (by have := HP4.out.lt; simp; omega) (by simp [Value.ownBlock]; have := HG.out.1; omega))
        (fun q hq => hgrow5.block q (by have := (HP4.out.own.lt q hq).2; simp; omega) (by simp [Value.ownBlock]; have := HG.out.1; have := HV.out q hq; omega))
      have HT5 : Hid (Touch p v w w5 v) := touch_grown ((ht.trans HT4.out).alloc _) hgrow5 (fun q hq => by simp [Value.ownBlock] at hq; have := HG.out.1; omega)
      have hc5 := HP5.out.c1
      have hw5 : w.heap.size ≤ w5.heap.size := HT5.out.size
      have hL5 : (L ++ [4]).length = L.length + 1 := by simp
      have HL5 : Hid ((L ++ [(4 : Int)]).length = L.length + 1) := hL5
      simp only at hc5
      clear hown5 hgrow5 hg5 hL5
      go_wp2_with fail
      go_roundw
      case rel => exact ⟨L ++ [4], k + 1, g5, c5, by rw [HL5.out], by omega, by omega, by rw [HL5.out]; omega, HA2.out, HO5.out, HP5.out, HT5.out, hw5⟩
      case measure =>
        rw [hc5, c1]
        simp [intOf]; omega
    have e33 : (bt s k == 33) = false := by simp [h33]
    have HA2 : Hid (aheadTo s st.at_ = (L, k)) := by
      show aheadTo s st.at_ = _
      rw [HA.out, aheadTo_none (by rw [HK.out]; exact h45) (by rw [HK.out]; exact h33), HK.out]; simp
    clear h33 h45
    go_wp2_with fail
    refine (look_any p s { st with at_ := a } v _ (by unfold maxLen; omega) haz HR.out).mono ?_
    simp only
    rw [HK.out]
    rintro e w1 ⟨rfl, hp1, ht1⟩
    have HP1 : Hid (ParAt p w1 s { st with at_ := k } v) := hp1
    clear hp1
    go_wp2_with fail
    refine (look_any p s { st with at_ := k } v _ (by unfold maxLen; omega) hk1.2 HP1.out).mono ?_
    simp only
    rw [HI.out]
    rintro e w2 ⟨rfl, hp2, ht2⟩
    have HP2 : Hid (ParAt p w2 s { st with at_ := k } v) := hp2
    have HT2 : Hid (Touch p v w w2 v) := (ht.trans ht1).trans ht2
    have hw2 := (ht1.trans ht2).size
    have HO2 : Hid (w2.ownsRow w.heap.size 3 1 (.slice (some ⟨g, 0, none⟩) L.length c) L.length (ints L)) :=
      own_of_block HO.out (fun g' hg' => by
        have : g' = g := by simpa [Value.ownBlock] using hg'.symm
        subst this
        exact (ht1.trans ht2).block g' HG.out.2 (by have := HG.out.1; omega) (fun e => by have := HV.out g' e.symm; have := HG.out.1; omega))
    clear hp2 ht1 ht2
    go_wp2_with fail
    refine (prim_any s f HS.out hs p { st with at_ := k } v _ (by simp only; omega) hk1.2 (by simp only; omega) hl HP2.out).mono ?_
    rintro e w3 ⟨rfl, v3, hp3, ht3⟩
    obtain ⟨st3, hst3⟩ : ∃ st3, primM (sumF s f) s { st with at_ := k } = st3 := ⟨_, rfl⟩
    have HA3 := adv_prim (adv_sum s f) (s := s) { st with at_ := k }
    have HU : Hid (unaryM (sumF s f) s st = putAll L.reverse st3) := by
      show unaryM _ _ _ = _
      unfold unaryM; rw [HA2.out, hst3]
    rw [hst3] at hp3 HA3
    have hl3 := HA3.len hl
    have HP3 : Hid (ParAt p w3 s st3 v3) := hp3
    have HT3 : Hid (Touch p v w w3 v3) := HT2.out.trans ht3
    have HG3 : Hid (some g ≠ v3.ownBlock ∧ g < w3.heap.size) := ⟨fun e => by
      have h1 := HG.out
      rcases ht3.own with h2 | h2
      · rw [h2] at e; have := HV.out g e.symm; omega
      · have := h2 g e.symm; omega, by have := HG.out.2; have := ht3.size; omega⟩
    have HO3 : Hid (w3.ownsRow w.heap.size 3 1 (.slice (some ⟨g, 0, none⟩) L.length c) L.length (ints L)) :=
      own_of_block HO2.out (fun g' hg' => by
        have : g' = g := by simpa [Value.ownBlock] using hg'.symm
        subst this
        exact ht3.block g' (by have := HG.out.2; omega) (by have := HG.out.1; omega) (fun e => by have := HV.out g' e.symm; have := HG.out.1; omega))
    have HGp : Hid (g ≠ p) := by
      show g ≠ p
      have := HG.out.1; omega
    clear hp3 ht3 hst3 HA3
    go_wp2_with fail
    go_loopw [3] (fun i wr => ∃ (j : Nat) (st' : Par) (v' : Value), j ≤ L.length ∧ i = .int .i64 ((j : Int) - 1) ∧ Hid (putAll L.reverse st3 = putAll (L.take j).reverse st') ∧ Hid (ParAt p wr s st' v') ∧ Touch p v w wr v' ∧ st'.out.length ≤ 24 ∧
        Hid (some g ≠ v'.ownBlock ∧ g < wr.heap.size) ∧ Hid (wr.ownsRow w.heap.size 3 1 (.slice (some ⟨g, 0, none⟩) L.length c) L.length (ints L))) (fun i _ => (intOf i + 1).toNat)
    case atStart => exact ⟨L.length, st3, v3, Nat.le_refl _, rfl, by show _ = _; rw [List.take_length], HP3.out, HT3.out, hl3, HG3.out, HO3.out⟩
    case round =>
      obtain ⟨j, st', v', hj, rfl, HQ, HPj, htj, hlj, HGj, HOj⟩ := hrel
      have c3 := HPj.out.c3
      cases j with
      | zero =>
        have HE : Hid (putAll L.reverse st3 = st') := HQ.out
        go_wp2_with fail
        go_end0
        rw [HU.out, HE.out]
        exact ⟨rfl, v', HPj.out, htj⟩
      | succ j =>
        have e1 : ((j + 1 : Nat) : Int) - 1 = j := by omega
        rw [e1]
        have hjI : (j : Int) < L.length := by omega
        have hjL : j < L.length := by omega
        have hj0 : (0 : Int) ≤ j := by omega
        cases hbad : st'.bad
        · have cj := World.ownsRow.cellAt HOj.out j (by omega)
          obtain ⟨x, hx⟩ : ∃ x, L[j] = x := ⟨_, rfl⟩
          have hcj : wr.cell? ⟨g, j, none⟩ = some (.int .i64 x) := by rw [cj]; simp [ints, hjL, hx]
          have HQ2 : Hid (putAll L.reverse st3 = putAll (L.take j).reverse (putNd st' (x, 0, noName))) := by
            show putAll _ _ = _
            rw [HQ.out, List.take_succ_eq_append_getElem hjL, List.reverse_append, hx]
            show putAll (x :: (L.take j).reverse) st' = _
            rw [putAll, hbad]; rfl
          rw [hbad] at c3
          clear cj hx hbad
          go_wp2_with fail
          refine (put_any' p s st' v' _ _ _ _ hlj HPj.out).mono ?_
          rintro e w5 ⟨rfl, v5, hp5, ht5⟩
          have HP5 : Hid (ParAt p w5 s (putNd st' (x, 0, noName)) v5) := hp5
          have HT5 : Hid (Touch p v w w5 v5) := htj.trans ht5
          have hl5 := (adv_put s st' (x, 0, noName)).len hlj
          have HG5 : Hid (some g ≠ v5.ownBlock ∧ g < w5.heap.size) := ⟨fun e => by
            rcases ht5.own with h2 | h2
            · rw [h2] at e; exact HGj.out.1 e
            · have := h2 g e.symm; have := HGj.out.2; omega, by have := HGj.out.2; have := ht5.size; omega⟩
          have HO5 : Hid (w5.ownsRow w.heap.size 3 1 (.slice (some ⟨g, 0, none⟩) L.length c) L.length (ints L)) :=
            own_of_block HOj.out (fun g' hg' => by
              have : g' = g := by simpa [Value.ownBlock] using hg'.symm
              subst this
              exact ht5.block g' HGj.out.2 HGp.out HGj.out.1)
          clear hp5 ht5
          go_wp2_with fail
          go_roundw
          case rel => exact ⟨j, putNd st' (x, 0, noName), v5, by omega, rfl, HQ2.out, HP5.out, HT5.out, hl5, HG5.out, HO5.out⟩
          case measure => simp [intOf]
        · have HE : Hid (putAll L.reverse st3 = st') := by
            show putAll _ _ = _
            rw [HQ.out, List.take_succ_eq_append_getElem hjL, List.reverse_append]
            show putAll (L[j] :: (L.take j).reverse) st' = _
            rw [putAll, hbad]; rfl
          rw [hbad] at c3
          clear hbad
          go_wp2_with fail
          go_end0
          rw [HU.out, HE.out]
          exact ⟨rfl, v', HPj.out, htj⟩
end Go.Proofs.YtbpfonmkbbnkcaaGreatDoor

/- The reader's sum, for every text: it comes to what the function sumF says. -/
namespace Go.Proofs.YtbpfonmkbbnkcaaGreatDoor
open Go.RowKit Go.PlainAid
set_option linter.unusedSimpArgs false
set_option linter.unusedVariables false

theorem loopS_eq {s : ByteArray} {rec : Int → Par → Par} (hrec : ∀ l st, Adv s st (rec l st)) (level : Int) (n : Nat) : ∀ m st, s.size - st.at_ + 1 ≤ n → s.size - st.at_ + 1 ≤ m → st.at_ ≤ s.size → loopS rec s level n st = loopS rec s level m st := by
  induction n with
  | zero => intro m st h; omega
  | succ n ih =>
    intro m st hn hm ha
    obtain ⟨m, rfl⟩ : ∃ m', m = m' + 1 := ⟨m - 1, by omega⟩
    unfold loopS
    split
    · rfl
    · split
      · rfl
      · rename_i hf
        have h1 := findSign_lt hf
        have h2 := skipTo_mono s st.at_
        have h3 := (hrec (level + 1) { st with at_ := signAt s (skipTo s st.at_) level }).trans (adv_put s _ (findSign s (skipTo s st.at_) level, 0, noName))
        have h4 := h3.lo
        have h5 := h3.hi
        simp only at h4 h5
        have h6 := (signAt_le s st.at_ level).2 ha
        have h7 : signAt s (skipTo s st.at_) level = skipTo s st.at_ + (sg (findSign s (skipTo s st.at_) level)).size := rfl
        exact ih m _ (by omega) (by omega) (h5 h6)

set_option maxHeartbeats 1600000 in
set_option maxRecDepth 100000 in
theorem sum_any (s : ByteArray) (hs : s.size ≤ 1048576) (f : Nat) : SumOk s f := by
  induction f with
  | zero =>
    intro level p st v w h1 h2 h3
    omega
  | succ f ih =>
    intro level p st v w h1 h2 h3 ha hd hl h
    have HS : Hid (SumOk s f) := ih
    have HP : Hid (ParAt p w s st v) := h
    clear ih h
    by_cases h6 : 5 < level
    · have HM : Hid (sumF s (f + 1) level st = unaryM (sumF s f) s st) := by
        show sumF _ _ _ _ = _
        rw [sumF, if_pos h6]
      go_enter Tryz.func73, Tryz.ntmps73
      go_wp2_with fail
      refine (unary_any s f HS.out hs p st v _ (by omega) ha hd hl HP.out).mono ?_
      rintro e w1 ⟨rfl, v1, hp1, ht1⟩
      go_wp2_with fail
      go_returns
      rw [HM.out]
      exact ⟨rfl, v1, hp1, ht1⟩
    · have HM : Hid (sumF s (f + 1) level st = loopS (sumF s f) s level (s.size + 1) (sumF s f (level + 1) st)) := by
        show sumF _ _ _ _ = _
        rw [sumF, if_neg h6]
      have HA := adv_sum s f (level + 1) st
      obtain ⟨st0, hst0⟩ : ∃ st0, sumF s f (level + 1) st = st0 := ⟨_, rfl⟩
      have HST : Hid (sumF s f (level + 1) st = st0) := hst0
      rw [hst0] at HM HA
      obtain ⟨a1, a2, a3, a4, a5⟩ := HA
      have a2' := a2 ha
      have a5' := a5 hl
      clear hst0 a2 a5
      go_enter Tryz.func73, Tryz.ntmps73
      go_wp2_with fail
      refine (HS.out (level + 1) p st v _ (by omega) (by omega) (by omega) ha hd hl HP.out).mono ?_
      rw [HST.out]
      rintro e w1 ⟨rfl, v1, hp1, ht1⟩
      have HP1 : Hid (ParAt p w1 s st0 v1) := hp1
      clear hp1
      go_wp2_with fail
      go_loopw [] (fun wr => ∃ (st' : Par) (v' : Value) (n : Nat), Hid (loopS (sumF s f) s level (s.size + 1) st0 = loopS (sumF s f) s level n st') ∧ s.size - st'.at_ + 1 ≤ n ∧ st'.at_ ≤ s.size ∧ st.at_ ≤ st'.at_ ∧ st'.deep ≤ st'.at_ ∧ st'.out.length ≤ 24 ∧ Hid (ParAt p wr s st' v') ∧ Touch p v w wr v')
        (fun wr => s.size - (intOf ((wr.cell? ⟨p, 1, none⟩).getD undef)).toNat)
      case atStart => exact ⟨st0, v1, s.size + 1, rfl, by omega, a2', a1, by omega, a5', HP1.out, ht1⟩
      case round =>
        obtain ⟨st', v', n, HQ, hn, hat, hat2, hdt, hlt, HPr, htr⟩ := hrel
        have c3 := HPr.out.c3
        have c1 := HPr.out.c1
        obtain ⟨n, rfl⟩ : ∃ n', n = n' + 1 := ⟨n - 1, by omega⟩
        cases hbad : st'.bad
        · rw [hbad] at c3
          by_cases hf0 : findSign s (skipTo s st'.at_) level = 0
          · have HE : Hid (loopS (sumF s f) s level (s.size + 1) st0 = { st' with at_ := signAt s (skipTo s st'.at_) level }) := by
              show loopS _ _ _ _ _ = _
              rw [HQ.out, loopS, hbad, if_neg (by decide), if_pos hf0]
            have HF : Hid (findSign s (skipTo s st'.at_) level = 0) := hf0
            clear hbad hf0
            go_wp2_with fail
            refine (sign_any p s st' v' level _ ⟨h1, by omega⟩ hs hat HPr.out).mono ?_
            rw [HF.out]
            rintro e w2 ⟨rfl, hp2, ht2⟩
            go_wp2_with fail
            go_returns
            rw [HM.out, HE.out]
            exact ⟨rfl, v', hp2, htr.trans ht2⟩
          · obtain ⟨K, hK⟩ : ∃ K, findSign s (skipTo s st'.at_) level = K := ⟨_, rfl⟩
            have hK0 : ((K : Int) == 0) = false := by rw [← hK]; simp [hf0]
            have HF : Hid (findSign s (skipTo s st'.at_) level = K) := hK
            have hfl := findSign_lt hf0
            have hsl := signAt_le s st'.at_ level
            have hsk := skipTo_mono s st'.at_
            have hsg : signAt s (skipTo s st'.at_) level = skipTo s st'.at_ + (sg (findSign s (skipTo s st'.at_) level)).size := rfl
            obtain ⟨st2, hst2⟩ : ∃ st2, sumF s f (level + 1) { st' with at_ := signAt s (skipTo s st'.at_) level } = st2 := ⟨_, rfl⟩
            have HST2 : Hid (sumF s f (level + 1) { st' with at_ := signAt s (skipTo s st'.at_) level } = st2) := hst2
            have HE : Hid (loopS (sumF s f) s level (s.size + 1) st0 = loopS (sumF s f) s level n (putNd st2 (K, 0, noName))) := by
              show loopS _ _ _ _ _ = _
              rw [HQ.out, loopS, if_neg (by rw [hbad]; decide), if_neg hf0, hK, hst2]
            have HA2 := (adv_sum s f (level + 1) { st' with at_ := signAt s (skipTo s st'.at_) level })
            rw [hst2] at HA2
            obtain ⟨b1, b2, b3, b4, b5⟩ := HA2
            simp only at b1 b2 b3 b4 b5
            obtain ⟨d1, d2, d3, d4, d5⟩ := adv_put s st2 (K, 0, noName)
            have hsA := hsl.2 hat
            have b2' := b2 hsA
            have b5' := b5 hlt
            have d5' := d5 b5'
            have d2' := d2 b2'
            obtain ⟨A, hA⟩ : ∃ A, signAt s (skipTo s st'.at_) level = A := ⟨_, rfl⟩
            have HAA : Hid (signAt s (skipTo s st'.at_) level = A) := hA
            rw [hA] at hsA b1 b4 hsg HST2
            have hAgt : st'.at_ < A := by omega
            clear hbad hf0 hK hfl hsl hsk hsg hst2 b2 b5 d2 d5 hA
            go_wp2_with fail
            refine (sign_any p s st' v' level _ ⟨h1, by omega⟩ hs hat HPr.out).mono ?_
            rw [HF.out, HAA.out]
            rintro e w2 ⟨rfl, hp2, ht2⟩
            have HP2 : Hid (ParAt p w2 s { st' with at_ := A } v') := hp2
            clear hp2
            go_wp2_with fail
            refine (HS.out (level + 1) p { st' with at_ := A } v' _ (by omega) (by omega) (by simp only; omega) hsA (by simp only; omega) hlt HP2.out).mono ?_
            rw [HST2.out]
            rintro e w3 ⟨rfl, v3, hp3, ht3⟩
            have HP3 : Hid (ParAt p w3 s st2 v3) := hp3
            clear hp3
            go_wp2_with fail
            refine (put_any' p s st2 v3 _ _ _ _ b5' HP3.out).mono ?_
            rintro e w4 ⟨rfl, v4, hp4, ht4⟩
            have HP4 : Hid (ParAt p w4 s (putNd st2 (K, 0, noName)) v4) := hp4
            have HT4 : Hid (Touch p v w w4 v4) := ((htr.trans ht2).trans ht3).trans ht4
            have hc4 := HP4.out.c1
            generalize putNd st2 (K, 0, noName) = st4 at *
            clear hp4 ht2 ht3 ht4
            go_wp2_with fail
            go_roundw
            case rel => exact ⟨st4, v4, n, HE.out, by omega, d2', by omega, by omega, d5', HP4.out, HT4.out⟩
            case measure =>
              rw [hc4, c1]
              simp [intOf]; omega
        · have HE : Hid (loopS (sumF s f) s level (s.size + 1) st0 = st') := by
            show loopS _ _ _ _ _ = _
            rw [HQ.out, loopS, hbad, if_pos rfl]
          rw [hbad] at c3
          clear hbad
          go_wp2_with fail
          go_end0
          rw [HM.out, HE.out]
          exact ⟨rfl, v', HPr.out, htr⟩
end Go.Proofs.YtbpfonmkbbnkcaaGreatDoor

/- The model's l1Get: all of a text. -/
namespace Go.Proofs.YtbpfonmkbbnkcaaGreatDoor
open Go.RowKit Go.PlainAid
set_option linter.unusedSimpArgs false
set_option linter.unusedVariables false

def par0 : Par := ⟨0, 0, false, []⟩
def parEnd (s : ByteArray) : Par := sumF s (7 * s.size + 7) 1 par0
/-- the nodes of all of a text -/
def getM (s : ByteArray) : Option (List Nd) :=
  if 60 < s.size then none else if (parEnd s).bad = true ∨ skipTo s (parEnd s).at_ < s.size then none else some (parEnd s).out

/-- the nodes in memory -/
def OwnNd (B : Nat) (w : World) (v : Value) (l : List Nd) : Prop := w.ownsRow B 38 3 v l.length (ndCells l)

theorem getM_len {s : ByteArray} {l : List Nd} (h : getM s = some l) : l.length ≤ 24 := by
  unfold getM at h
  split at h
  · cases h
  · split at h
    · cases h
    · cases h
      exact (adv_sum s _ 1 par0).len (by decide)

theorem ownsRow_mono {w : World} {base base' size n : Nat} {e : TypeId} {v : Value} {xs : List Value} (h : w.ownsRow base e size v n xs) (hb : base' ≤ base) : w.ownsRow base' e size v n xs := by
  obtain ⟨h1, h2⟩ := h
  refine ⟨h1, ?_⟩
  rcases h2 with h2 | ⟨g, cap, cur, hv, h3, h4⟩
  · exact .inl h2
  · exact .inr ⟨g, cap, cur, hv, by omega, h4⟩

set_option maxHeartbeats 800000 in
set_option maxRecDepth 100000 in
theorem l1Get_any (s : ByteArray) (w : World) (hs : s.size ≤ 1048576) : Calls Tryz.prog 52 #[.string s] w fun e w' => ∃ v b, e = .returned (.tuple #[v, .bool b]) ∧
    (getM s = none → b = false ∧ v = .slice none 0 0) ∧ (∀ l, getM s = some l → b = true ∧ OwnNd w.heap.size w' v l) ∧ Below w.heap.size w w' := by
  by_cases h60 : 60 < s.size
  · have HN : Hid (getM s = none) := by
      show getM s = none
      unfold getM; rw [if_pos h60]
    go_enter Tryz.func52, Tryz.ntmps52
    go_wp2_with fail
    go_ret2
    exact ⟨_, _, rfl, fun _ => ⟨rfl, rfl⟩, (fun l hl => by rw [HN.out] at hl; cases hl), Below.refl _ _⟩
  · have HPA : Hid (∀ W : World, ParAt W.heap.size (W.alloc (.cells #[.string s, .int .i64 0, .int .i64 0, .bool false, .slice none 0 0] 114)) s par0 (.slice none 0 0)) := fun W =>
      ⟨by simp, by simp [par0], by simp [par0], by simp [par0], by simp, fun j => by simp, World.ownsRow_nil _ _ _ _⟩
    have HA := adv_sum s (7 * s.size + 7) 1 par0
    obtain ⟨st, hst⟩ : ∃ st, sumF s (7 * s.size + 7) 1 par0 = st := ⟨_, rfl⟩
    have HST : Hid (sumF s (7 * s.size + 7) 1 par0 = st) := hst
    have HE : Hid (parEnd s = st) := hst
    rw [hst] at HA
    have ha := HA.hi (Nat.zero_le _)
    clear HA hst
    have HS : Hid (SumOk s (7 * s.size + 7)) := sum_any s hs _
    go_enter Tryz.func52, Tryz.ntmps52
    go_wp2_with fail
    refine (HS.out 1 w.heap.size par0 (.slice none 0 0) _ (by decide) (by decide) (by simp [par0]; omega) (Nat.zero_le _) (Nat.le_refl _) (by decide) (by exact HPA.out w)).mono ?_
    rw [HST.out]
    rintro e w1 ⟨rfl, v1, hp1, ht1⟩
    have HP1 : Hid (ParAt w.heap.size w1 s st v1) := hp1
    have HB1 : Hid (Below w.heap.size w w1) := by
      have h1 := ht1.below (HPA.out w)
      exact ((Below.refl _ w).alloc (Nat.le_refl _) _).trans h1
    clear hp1 ht1
    go_wp2_with fail
    refine (skip_any _ s st v1 _ (by unfold maxLen; omega) ha HP1.out).mono ?_
    rintro e w2 ⟨rfl, hp2, ht2⟩
    have HB2 : Hid (Below w.heap.size w w2) := HB1.out.trans (ht2.below HP1.out)
    obtain ⟨k, hk⟩ : ∃ k, skipTo s st.at_ = k := ⟨_, rfl⟩
    rw [hk] at hp2
    have HK : Hid (skipTo s (parEnd s).at_ = k) := by
      show skipTo s (parEnd s).at_ = k
      rw [HE.out]; exact hk
    have HP2 : Hid (ParAt w.heap.size w2 s { st with at_ := k } v1) := hp2
    obtain ⟨c0, c1, c2, c3, c4, ho, hown⟩ := hp2
    simp only at c1 c2 c3 c4 hown
    have HO : Hid (w2.ownsRow (w.heap.size + 1) 38 3 v1 st.out.length (ndCells st.out)) := hown
    clear ht2 hk c2 hown
    cases hbad : st.bad
    · rw [hbad] at c3
      by_cases hlt : k < s.size
      · have HN : Hid (getM s = none) := by
          show getM s = none
          unfold getM; rw [if_neg h60, HK.out, if_pos (.inr hlt)]
        clear hbad
        go_wp2_with fail
        go_ret2
        exact ⟨_, _, rfl, fun _ => ⟨rfl, rfl⟩, (fun l hl => by rw [HN.out] at hl; cases hl), HB2.out⟩
      · have HN : Hid (getM s = some st.out) := by
          show getM s = _
          unfold getM; rw [if_neg h60, HK.out, HE.out, if_neg (by rw [hbad]; simp; omega)]
        clear hbad
        go_wp2_with fail
        go_ret2
        refine ⟨_, _, rfl, (fun h => by rw [HN.out] at h; cases h), (fun l hl => ?_), HB2.out⟩
        rw [HN.out] at hl; cases hl
        exact ⟨rfl, by unfold OwnNd; exact ownsRow_mono HO.out (by omega)⟩
    · rw [hbad] at c3
      have HN : Hid (getM s = none) := by
        show getM s = none
        unfold getM; rw [if_neg h60, if_pos (.inl (by rw [HE.out]; exact hbad))]
      clear hbad
      go_wp2_with fail
      go_ret2
      exact ⟨_, _, rfl, fun _ => ⟨rfl, rfl⟩, (fun l hl => by rw [HN.out] at hl; cases hl), HB2.out⟩
end Go.Proofs.YtbpfonmkbbnkcaaGreatDoor
