/- Small facts on memory that serve every walk here: what a call leaves of old cells, a new row that is filled cell by cell. -/
import Derived.WalkKit
import Derived.ProofKit
import Derived.Handy
import Derived.PlainAid
import Derived.WalkLawsBesides
import Derived.Test.YtchemhjcknkbgaaGreatDoorProg
import Derived.Orders
namespace Go.Proofs.YtchemhjcknkbgaaGreatDoor
open Go.RowKit Go.PlainAid

/-- behind a call that makes memory: all old cells and marks read as before -/
theorem bcell {W w1 : World} (hb : Below W.heap.size W w1) : (∀ b o, b < W.heap.size → w1.cell? ⟨b, o, none⟩ = W.cell? ⟨b, o, none⟩) ∧ (∀ b o, b < W.heap.size → w1.frozen? ⟨b, o, none⟩ = W.frozen? ⟨b, o, none⟩) :=
  ⟨fun b o h => hb.cell (p := ⟨b, o, none⟩) h, fun b o h => hb.frozen (p := ⟨b, o, none⟩) h⟩

theorem undrew {w w' : World} (h : Below w.drew.heap.size w.drew w') : Below w.heap.size w w' := ⟨h.os, h.tape, h.output, h.size, h.block⟩

theorem drewN {B : Nat} {a w : World} (h : Below B a w) (n : Nat) : Below B a (w.drewN n) := below_drewN h n

theorem ret_bool {a b : Bool} (h : a = b) : Ending.returned (.bool a) = .returned (.bool b) := by rw [h]
theorem ret_int {k : IntKind} {a b : Int} (h : a = b) : Ending.returned (.int k a) = .returned (.int k b) := by rw [h]

/-- the row B (of N cells) that is being filled: its first m cells are F's -/
structure Fill (B : Nat) (w wr : World) (N m : Nat) (F : Nat → Value) : Prop where
  below : Below B w wr
  lt : B < wr.heap.size
  open_ : ∀ j, wr.frozen? ⟨B, j, none⟩ = false
  there : ∀ j, j < N → ∃ v, wr.cell? ⟨B, j, none⟩ = some v
  done : ∀ j, j < m → wr.cell? ⟨B, j, none⟩ = some (F j)

theorem Fill.call {B : Nat} {w wr w' : World} {N m : Nat} {F : Nat → Value} (h : Fill B w wr N m F) (hb : Below wr.heap.size wr w') : Fill B w w' N m F := by
  have hlt := h.lt
  refine ⟨h.below.trans (hb.mono (by omega)), by have := hb.size; omega, fun j => ?_, fun j hj => ?_, fun j hj => ?_⟩
  · rw [hb.frozen hlt]; exact h.open_ j
  · obtain ⟨v, hv⟩ := h.there j hj; exact ⟨v, by rw [hb.cell hlt]; exact hv⟩
  · rw [hb.cell hlt]; exact h.done j hj

theorem Fill.store {B : Nat} {w wr : World} {N m : Nat} {F : Nat → Value} (h : Fill B w wr N m F) (hm : m < N) {v : Value} (hv : v = F m) : Fill B w (wr.setCell ⟨B, m, none⟩ v) N (m + 1) F := by
  obtain ⟨v0, h0⟩ := h.there m hm
  refine ⟨h.below.setCell (by simp) _, by simpa [World.setCell] using h.lt, fun j => ?_, fun j hj => ?_, fun j hj => ?_⟩
  · simpa using h.open_ j
  · by_cases e : j = m
    · subst e; exact ⟨v, World.cell?_setCell_same _ _ _ h0⟩
    · obtain ⟨u, hu⟩ := h.there j hj
      exact ⟨u, by rw [World.cell?_setCell_other _ _ _ _ (by intro hh; injection hh with _ h2; omega)]; exact hu⟩
  · by_cases e : j = m
    · subst e; subst hv; exact World.cell?_setCell_same _ _ _ h0
    · rw [World.cell?_setCell_other _ _ _ _ (by intro hh; injection hh with _ h2; omega)]; exact h.done j (by omega)

theorem Fill.start (w : World) (cs : Array Value) (t : TypeId) (F : Nat → Value) : Fill w.heap.size w (w.alloc (.cells cs t)) cs.size 0 F := by
  refine ⟨(Below.refl _ _).alloc (Nat.le_refl _) _, by simp, fun j => by simp, fun j hj => ⟨cs[j], by simp [hj]⟩, fun j hj => by omega⟩
theorem hidOf {p : Prop} (h : p) : Hid p := h
theorem setCell_ne (w : World) (p i j : Nat) (u : Value) (h : i ≠ j) : (w.setCell ⟨p, i, none⟩ u).cell? ⟨p, j, none⟩ = w.cell? ⟨p, j, none⟩ :=
  World.cell?_setCell_other _ _ _ _ (by intro e; injection e with _ e2; exact h e2)
end Go.Proofs.YtchemhjcknkbgaaGreatDoor

/- Whether a number is within bounds. -/
namespace Go.Proofs.YtchemhjcknkbgaaGreatDoor
open Go.RowKit Go.PlainAid

theorem l1In_any (n lo hi : Int) (w : World) : Calls Tryz.prog 52 #[.int .i64 n, .int .i64 lo, .int .i64 hi] w fun e w' => e = .returned (.bool (decide (lo ≤ n ∧ n ≤ hi))) ∧ w' = w := by
  by_cases h1 : lo ≤ n
  · go_enter Tryz.func52, Tryz.ntmps52
    go_wp2
    go_ret
    exact ⟨ret_bool (by simp [h1]), rfl⟩
  · go_enter Tryz.func52, Tryz.ntmps52
    go_wp2
    go_ret
    exact ⟨ret_bool (by simp; omega), rfl⟩
end Go.Proofs.YtchemhjcknkbgaaGreatDoor

/- The walks for names: what NameOk of the program and of the model come to, for every string. -/
namespace Go.Proofs.YtchemhjcknkbgaaGreatDoor
open Go.RowKit Go.PlainAid

def letB (n : Int) : Bool := decide (97 ≤ n ∧ n ≤ 122)
def figB (n : Int) : Bool := decide (48 ≤ n ∧ n ≤ 57)

theorem isLetter_any (n : Int) (w : World) : Calls Tryz.prog 163 #[.int .u8 n] w fun e w' => e = .returned (.bool (letB n)) ∧ w' = w := by
  by_cases h1 : 97 ≤ n
  · go_enter Tryz.func163, Tryz.ntmps163
    go_wp2
    go_ret
    exact ⟨ret_bool (by simp [letB, h1]), rfl⟩
  · go_enter Tryz.func163, Tryz.ntmps163
    go_wp2
    go_ret
    exact ⟨ret_bool (by simp [letB]; omega), rfl⟩
theorem isFigure_any (n : Int) (w : World) : Calls Tryz.prog 203 #[.int .u8 n] w fun e w' => e = .returned (.bool (figB n)) ∧ w' = w := by
  by_cases h1 : 48 ≤ n
  · go_enter Tryz.func203, Tryz.ntmps203
    go_wp2
    go_ret
    exact ⟨ret_bool (by simp [figB, h1]), rfl⟩
  · go_enter Tryz.func203, Tryz.ntmps203
    go_wp2
    go_ret
    exact ⟨ret_bool (by simp [figB]; omega), rfl⟩
theorem l1Letter_any (n : Int) (w : World) : Calls Tryz.prog 153 #[.int .u8 n] w fun e w' => e = .returned (.bool (letB n)) ∧ w' = w := by
  by_cases h1 : 97 ≤ n
  · go_enter Tryz.func153, Tryz.ntmps153
    go_wp2
    go_ret
    exact ⟨ret_bool (by simp [letB, h1]), rfl⟩
  · go_enter Tryz.func153, Tryz.ntmps153
    go_wp2
    go_ret
    exact ⟨ret_bool (by simp [letB]; omega), rfl⟩
theorem l1Figure_any (n : Int) (w : World) : Calls Tryz.prog 154 #[.int .u8 n] w fun e w' => e = .returned (.bool (figB n)) ∧ w' = w := by
  by_cases h1 : 48 ≤ n
  · go_enter Tryz.func154, Tryz.ntmps154
    go_wp2
    go_ret
    exact ⟨ret_bool (by simp [figB, h1]), rfl⟩
  · go_enter Tryz.func154, Tryz.ntmps154
    go_wp2
    go_ret
    exact ⟨ret_bool (by simp [figB]; omega), rfl⟩
theorem isNameByte_any (n : Int) (w : World) : Calls Tryz.prog 164 #[.int .u8 n] w fun e w' => e = .returned (.bool (letB n || figB n)) ∧ w' = w := by
  cases h1 : letB n
  · go_enter Tryz.func164, Tryz.ntmps164
    go_wp2_with (first | (go_at_call 163; refine (isLetter_any _ _).mono ?_; rintro e w' ⟨rfl, rfl⟩) | (go_at_call 203; refine (isFigure_any _ _).mono ?_; rintro e w' ⟨rfl, rfl⟩))
    go_ret
    exact ⟨ret_bool (by simp), rfl⟩
  · go_enter Tryz.func164, Tryz.ntmps164
    go_wp2_with (first | (go_at_call 163; refine (isLetter_any _ _).mono ?_; rintro e w' ⟨rfl, rfl⟩) | (go_at_call 203; refine (isFigure_any _ _).mono ?_; rintro e w' ⟨rfl, rfl⟩))
    go_ret
    exact ⟨ret_bool (by simp), rfl⟩

/-- byte k may stand in a name -/
def okAt (s : ByteArray) (k : Nat) : Bool := letB (bt s k) || (!(k == 0) && figB (bt s k))
/-- the first k bytes may -/
def okTo (s : ByteArray) : Nat → Bool
  | 0 => true
  | k + 1 => okTo s k && okAt s k
def nmB (s : ByteArray) : Bool := decide (1 ≤ s.size ∧ s.size ≤ 6) && okTo s s.size

theorem okTo_le (s : ByteArray) {j k : Nat} (h : j ≤ k) (hk : okTo s k = true) : okTo s j = true := by
  induction k with
  | zero => have : j = 0 := by omega
            subst this; rfl
  | succ k ih =>
    by_cases e : j = k + 1
    · subst e; exact hk
    · simp [okTo] at hk; exact ih (by omega) hk.1
theorem okTo_no (s : ByteArray) {k n : Nat} (h : k < n) (hk : okAt s k = false) : okTo s n = false := by
  cases e : okTo s n with
  | false => rfl
  | true => have := okTo_le s (j := k + 1) (by omega) e
            simp [okTo, hk] at this

set_option maxHeartbeats 400000 in
theorem l1Name_any (s : ByteArray) (w : World) (hs : s.size ≤ maxLen) : Calls Tryz.prog 110 #[.string s] w fun e w' => e = .returned (.bool (nmB s)) ∧ w' = w := by
  unfold maxLen at hs
  have hb := get_bt s
  go_enter Tryz.func110, Tryz.ntmps110
  go_wp2
  go_loop [3] (fun i => ∃ k : Nat, k ≤ s.size ∧ i = .int .i64 k ∧ okTo s k = true) (fun i => s.size - (intOf i).toNat)
  case atStart => exact ⟨0, Nat.zero_le _, rfl, rfl⟩
  case round =>
    obtain ⟨k, hk, rfl, hok⟩ := hrel
    by_cases hlt : k < s.size
    · cases hl : letB (bt s k)
      · by_cases h0 : k = 0
        · subst h0
          have hno : okTo s s.size = false := okTo_no s hlt (by simp [okAt, hl])
          go_wp2_with (first | (go_at_call 153; refine (l1Letter_any _ _).mono ?_; rintro e w' ⟨rfl, rfl⟩) | (go_at_call 154; refine (l1Figure_any _ _).mono ?_; rintro e w' ⟨rfl, rfl⟩))
          go_ret
          exact ⟨ret_bool (by simp [nmB, hno]), rfl⟩
        · have h0' : ((k : Int) == 0) = false := by simp; omega
          cases hf : figB (bt s k)
          · have hno : okTo s s.size = false := okTo_no s hlt (by simp [okAt, hl, hf])
            go_wp2_with (first | (go_at_call 153; refine (l1Letter_any _ _).mono ?_; rintro e w' ⟨rfl, rfl⟩) | (go_at_call 154; refine (l1Figure_any _ _).mono ?_; rintro e w' ⟨rfl, rfl⟩))
            go_ret
            exact ⟨ret_bool (by simp [nmB, hno]), rfl⟩
          · go_wp2_with (first | (go_at_call 153; refine (l1Letter_any _ _).mono ?_; rintro e w' ⟨rfl, rfl⟩) | (go_at_call 154; refine (l1Figure_any _ _).mono ?_; rintro e w' ⟨rfl, rfl⟩))
            go_round
            case rel => exact ⟨k + 1, by omega, by go_num, by simp [okTo, hok, okAt, hf, h0]⟩
            case measure => simp [intOf]; omega
      · go_wp2_with (first | (go_at_call 153; refine (l1Letter_any _ _).mono ?_; rintro e w' ⟨rfl, rfl⟩) | (go_at_call 154; refine (l1Figure_any _ _).mono ?_; rintro e w' ⟨rfl, rfl⟩))
        go_round
        case rel => exact ⟨k + 1, by omega, by go_num, by simp [okTo, hok, okAt, hl]⟩
        case measure => simp [intOf]; omega
    · have : k = s.size := by omega
      subst this
      go_wp2_with (go_at_call 52; refine (l1In_any _ _ _ _).mono ?_; rintro e w' ⟨rfl, rfl⟩)
      go_ret
      exact ⟨ret_bool (by rw [nmB, hok, Bool.and_true, Bool.decide_and]; congr 1 <;> exact decide_eq_decide.2 (by omega)), rfl⟩

theorem okTo_one (s : ByteArray) : okTo s 1 = letB (bt s 0) := by simp [okTo, okAt]
set_option maxHeartbeats 400000 in
theorem implNameOk_any (s : ByteArray) (w : World) (hs : s.size ≤ maxLen) : Calls Tryz.prog 121 #[.string s] w fun e w' => e = .returned (.bool (nmB s)) ∧ w' = w := by
  unfold maxLen at hs
  have hb := get_bt s
  by_cases h1 : s.size < 1
  · have hn : nmB s = false := by simp [nmB]; omega
    go_enter Tryz.func121, Tryz.ntmps121
    go_wp2_with fail
    go_ret
    exact ⟨rfl, rfl⟩
  by_cases h2 : 6 < s.size
  · have hn : nmB s = false := by simp [nmB]; omega
    go_enter Tryz.func121, Tryz.ntmps121
    go_wp2_with fail
    go_ret
    exact ⟨rfl, rfl⟩
  have hs0 : 0 < s.size := by omega
  cases hl : letB (bt s 0)
  · have hn : nmB s = false := by simp [nmB, okTo_no s hs0 (by simp [okAt, hl])]
    go_enter Tryz.func121, Tryz.ntmps121
    go_wp2_with (go_at_call 163; refine (isLetter_any _ _).mono ?_; rintro e w' ⟨rfl, rfl⟩)
    go_ret
    exact ⟨ret_bool hn.symm, rfl⟩
  have H1 : okTo s 1 = true := by rw [okTo_one]; exact hl
  go_enter Tryz.func121, Tryz.ntmps121
  go_wp2_with (go_at_call 163; refine (isLetter_any _ _).mono ?_; rintro e w' ⟨rfl, rfl⟩)
  go_loop [3] (fun i => ∃ k : Nat, 1 ≤ k ∧ k ≤ s.size ∧ i = .int .i64 k ∧ okTo s k = true) (fun i => s.size - (intOf i).toNat)
  case atStart => exact ⟨1, by omega, by omega, rfl, H1⟩
  case round =>
    obtain ⟨k, hk1, hk, rfl, hok⟩ := hrel
    by_cases hlt : k < s.size
    · cases hl : (letB (bt s k) || figB (bt s k))
      · have hno : okTo s s.size = false := okTo_no s hlt (by simp at hl; simp [okAt, hl])
        go_wp2_with (go_at_call 164; refine (isNameByte_any _ _).mono ?_; rintro e w' ⟨rfl, rfl⟩)
        go_ret
        exact ⟨ret_bool (by simp [nmB, hno]), rfl⟩
      · have HS : Hid (okTo s (k + 1) = true) := by
          have : okTo s (k + 1) = true := by
            simp at hl; simp [okTo, hok, okAt]; rcases hl with h | h <;> simp [h]; omega
          exact this
        go_wp2_with (go_at_call 164; refine (isNameByte_any _ _).mono ?_; rintro e w' ⟨rfl, rfl⟩)
        go_round
        case rel => exact ⟨k + 1, by omega, by omega, by go_num, HS.out⟩
        case measure => simp [intOf]; omega
    · have : k = s.size := by omega
      subst this
      go_wp2
      go_ret
      exact ⟨ret_bool (by rw [nmB, hok, Bool.and_true]; simp; omega), rfl⟩
end Go.Proofs.YtchemhjcknkbgaaGreatDoor

/- What moves: one block that a reader owns, and new blocks. -/
namespace Go.Proofs.YtchemhjcknkbgaaGreatDoor
open Go Go.RowKit Go.PlainAid

/-- all that was is as it was, but the reader -/
structure Mv (p : Nat) (w w' : World) : Prop where
  os : w'.os = w.os
  tape : w'.tape = w.tape
  output : w'.output = w.output
  size : w.heap.size ≤ w'.heap.size
  block : ∀ g, g < w.heap.size → g ≠ p → w'.heap[g]? = w.heap[g]?
theorem Mv.refl (p : Nat) (w : World) : Mv p w w := ⟨rfl, rfl, rfl, Nat.le_refl _, fun _ _ _ => rfl⟩
theorem Mv.trans {p : Nat} {a b c : World} (h : Mv p a b) (k : Mv p b c) : Mv p a c :=
  ⟨k.os.trans h.os, k.tape.trans h.tape, k.output.trans h.output, Nat.le_trans h.size k.size, fun g h1 h2 => (k.block g (Nat.lt_of_lt_of_le h1 h.size) h2).trans (h.block g h1 h2)⟩
theorem Mv.of_below {p : Nat} {w w' : World} (h : Below w.heap.size w w') : Mv p w w' := ⟨h.os, h.tape, h.output, h.size, fun g h1 _ => h.block g h1⟩
theorem Mv.step (p : Nat) (w : World) (v : Value) (d : Nat) : Mv p w ((w.setCell ⟨p, 1, none⟩ v).drewN d) :=
  ⟨rfl, rfl, rfl, by simp [World.drewN, World.setCell], fun g _ h2 => Below.heap_setCell w ⟨p, 1, none⟩ v g h2⟩
theorem Mv.cell {p : Nat} {w w' : World} (h : Mv p w w') (j : Nat) (v : Value) : Mv p w (w'.setCell ⟨p, j, none⟩ v) :=
  ⟨h.os, h.tape, h.output, by simpa [World.setCell] using h.size, fun b h1 h2 => (Below.heap_setCell w' ⟨p, j, none⟩ v b (by simpa using h2)).trans (h.block b h1 h2)⟩
theorem Mv.drewN {p : Nat} {w w' : World} (h : Mv p w w') (n : Nat) : Mv p w (w'.drewN n) := ⟨h.os, h.tape, h.output, h.size, h.block⟩
theorem Mv.fresh {w w1 w2 : World} (hb : Below w.heap.size w w1) (hm : Mv w.heap.size w1 w2) : Below w.heap.size w w2 :=
  ⟨hm.os.trans hb.os, hm.tape.trans hb.tape, hm.output.trans hb.output, Nat.le_trans hb.size hm.size, fun q hq => (hm.block q (Nat.lt_of_lt_of_le hq hb.size) (by omega)).trans (hb.block q hq)⟩
end Go.Proofs.YtchemhjcknkbgaaGreatDoor

/- A region whose operations may come up in more than one order, by one invariant: it says what holds when these operations have come up and the others have not. -/
namespace Go.Proofs.YtchemhjcknkbgaaGreatDoor
open Go

/-- how many operations have not come up yet -/
def leftOf (listed : Array Bool) : Nat := (listed.toList.filter (fun b => !b)).length

theorem left_set (l : List Bool) : ∀ i, l[i]? = some false → ((l.set i true).filter (fun b => !b)).length + 1 = (l.filter (fun b => !b)).length := by
  induction l with
  | nil => intro i h; simp at h
  | cons x r ih =>
    intro i h
    cases i with
    | zero => simp at h; subst h; simp
    | succ i =>
      have := ih i (by simpa using h)
      cases x <;> simp [List.set] <;> omega
theorem leftOf_set {listed : Array Bool} {i : Nat} (hi : i < listed.size) (h : listed[i] = false) : leftOf (listed.setIfInBounds i true) + 1 = leftOf listed := by
  unfold leftOf
  rw [Array.toList_setIfInBounds]
  exact left_set _ i (by simp [hi, h])
theorem ready_mem {md : Region.Mode} {ops : Array Oper} {listed : Array Bool} {i : Nat} (h : i ∈ Region.ready md ops listed) : i < ops.size ∧ listed.getD i true = false ∧ ∀ o, ops[i]? = some o → ∀ e ∈ o.after, Region.binds md e = true → listed.getD e.on false = true := by
  unfold Region.ready at h
  rw [List.mem_filter] at h
  obtain ⟨h1, h2⟩ := h
  simp only [Bool.and_eq_true] at h2
  refine ⟨by simpa using h1, by simpa using h2.1, fun o ho e he hb => ?_⟩
  have h3 := h2.2
  rw [ho] at h3
  simp only [Option.map_some, Option.getD_some, Array.all_eq_true'] at h3
  have := h3 e he
  rw [hb] at this
  simpa using this

theorem wpAny_inv {P : Program} {md : Region.Mode} {ops : Array Oper} {Q : Exit → Act → World → Prop} (Inv : Array Bool → Act → World → Prop) (hsize : ∀ listed a w, Inv listed a w → listed.size = ops.size)
    (hstep : ∀ listed a w i, Inv listed a w → i ∈ Region.ready md ops listed → wpOp P ops Q i (Inv (listed.setIfInBounds i true)) a w)
    (hend : ∀ listed a w, Inv listed a w → Region.ready md ops listed = [] → Q .normal a w) :
    ∀ (fuel : Nat) (listed : Array Bool) (a : Act) (w : World), leftOf listed ≤ fuel → Inv listed a w → wpAny P md ops Q fuel listed a w := by
  intro fuel
  induction fuel with
  | zero =>
    intro listed a w hl hI
    have hr : Region.ready md ops listed = [] := by
      cases e : Region.ready md ops listed with
      | nil => rfl
      | cons i r =>
        have hm : i ∈ Region.ready md ops listed := by rw [e]; simp
        obtain ⟨h1, h2, _⟩ := ready_mem hm
        have hi : i < listed.size := by rw [hsize _ _ _ hI]; exact h1
        have h3 : listed[i] = false := by simpa [Array.getD, hi] using h2
        have := leftOf_set hi h3
        omega
    exact ⟨hr, hend _ _ _ hI hr⟩
  | succ fuel ih =>
    intro listed a w hl hI
    refine ⟨hend _ _ _ hI, fun i hi => ?_⟩
    obtain ⟨h1, h2, _⟩ := ready_mem hi
    have hlt : i < listed.size := by rw [hsize _ _ _ hI]; exact h1
    have h3 : listed[i] = false := by simpa [Array.getD, hlt] using h2
    have h4 := leftOf_set hlt h3
    exact wpOp_mono (fun a' w' hI' => ih _ a' w' (by omega) hI') (hstep _ _ _ i hI hi)
end Go.Proofs.YtchemhjcknkbgaaGreatDoor

/- Numbers in 32 bits: the model's way round, and whether a number is one. -/
namespace Go.Proofs.YtchemhjcknkbgaaGreatDoor
open Go.RowKit Go.PlainAid

/-- a number in 32 bits -/
def wr32 (n : Int) : Int := (n + 2147483648) % 4294967296 - 2147483648
theorem wr32_of (n r : Int) (h : n.tmod 4294967296 = r) : (-4294967296 < r ∧ r < 4294967296) ∧ wr32 n = if r < -2147483648 then r + 4294967296 else if 2147483647 < r then r - 4294967296 else r := by
  have t1 : n.tmod 4294967296 = if 0 ≤ n then n % 4294967296 else -((-n) % 4294967296) := by
    split
    · exact Int.tmod_eq_emod_of_nonneg (by omega)
    · rw [show n = -(-n) from by omega, Int.neg_tmod, Int.tmod_eq_emod_of_nonneg (by omega)]; simp
  rw [t1] at h
  unfold wr32
  split at h <;> split <;> (try split) <;> omega
theorem l1Wrap_any (n : Int) (w : World) : Calls Tryz.prog 94 #[.int .i64 n] w fun e w' => e = .returned (.int .i64 (wr32 n)) ∧ w' = w := by
  obtain ⟨r, hr⟩ : ∃ r, n.tmod 4294967296 = r := ⟨_, rfl⟩
  obtain ⟨⟨h1, h2⟩, h3⟩ := wr32_of n r hr
  rw [h3]
  clear h3
  by_cases g1 : r < -2147483648
  · rw [if_pos g1]
    go_enter Tryz.func94, Tryz.ntmps94
    go_wp2
    go_ret
    exact ⟨rfl, rfl⟩
  rw [if_neg g1]
  by_cases g2 : 2147483647 < r
  · rw [if_pos g2]
    go_enter Tryz.func94, Tryz.ntmps94
    go_wp2
    go_ret
    exact ⟨rfl, rfl⟩
  · rw [if_neg g2]
    go_enter Tryz.func94, Tryz.ntmps94
    go_wp2
    go_ret
    exact ⟨rfl, rfl⟩

theorem is32_any (n : Int) (w : World) : Calls Tryz.prog 102 #[.int .i64 n] w fun e w' => e = .returned (.bool (decide (-2147483648 ≤ n ∧ n ≤ 2147483647))) ∧ w' = w := by
  by_cases h : -2147483648 ≤ n
  · go_enter Tryz.func102, Tryz.ntmps102
    go_wp2
    go_ret
    exact ⟨ret_bool (by simp [h]), rfl⟩
  · go_enter Tryz.func102, Tryz.ntmps102
    go_wp2
    go_ret
    exact ⟨ret_bool (by simp; omega), rfl⟩
end Go.Proofs.YtchemhjcknkbgaaGreatDoor
