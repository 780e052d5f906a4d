/- Small facts on memory that serve every walk here: what a call leaves of old cells, a new row that is filled cell by cell. -/
import Derived.WalkKit
import Derived.ProofKit
import Derived.Handy
import Derived.PlainAid
import Derived.WalkLawsBesides
import Derived.Test.YtnkeibahaiibpaaGreatDoorProg
namespace Go.Proofs.YtnkeibahaiibpaaGreatDoor
open Go.RowKit Go.PlainAid

/-- behind a call that makes memory: all old cells and marks read as before -/
theorem bcell {W w1 : World} (hb : Below W.heap.size W w1) : (∀ b o, b < W.heap.size → w1.cell? ⟨b, o, none⟩ = W.cell? ⟨b, o, none⟩) ∧ (∀ b o, b < W.heap.size → w1.frozen? ⟨b, o, none⟩ = W.frozen? ⟨b, o, none⟩) :=
  ⟨fun b o h => hb.cell (p := ⟨b, o, none⟩) h, fun b o h => hb.frozen (p := ⟨b, o, none⟩) h⟩

theorem undrew {w w' : World} (h : Below w.drew.heap.size w.drew w') : Below w.heap.size w w' := ⟨h.os, h.tape, h.output, h.size, h.block⟩

theorem drewN {B : Nat} {a w : World} (h : Below B a w) (n : Nat) : Below B a (w.drewN n) := below_drewN h n

theorem ret_bool {a b : Bool} (h : a = b) : Ending.returned (.bool a) = .returned (.bool b) := by rw [h]
theorem ret_int {k : IntKind} {a b : Int} (h : a = b) : Ending.returned (.int k a) = .returned (.int k b) := by rw [h]

/-- the row B (of N cells) that is being filled: its first m cells are F's -/
structure Fill (B : Nat) (w wr : World) (N m : Nat) (F : Nat → Value) : Prop where
  below : Below B w wr
  lt : B < wr.heap.size
  open_ : ∀ j, wr.frozen? ⟨B, j, none⟩ = false
  there : ∀ j, j < N → ∃ v, wr.cell? ⟨B, j, none⟩ = some v
  done : ∀ j, j < m → wr.cell? ⟨B, j, none⟩ = some (F j)

theorem Fill.call {B : Nat} {w wr w' : World} {N m : Nat} {F : Nat → Value} (h : Fill B w wr N m F) (hb : Below wr.heap.size wr w') : Fill B w w' N m F := by
  have hlt := h.lt
  refine ⟨h.below.trans (hb.mono (by omega)), by have := hb.size; omega, fun j => ?_, fun j hj => ?_, fun j hj => ?_⟩
  · rw [hb.frozen hlt]; exact h.open_ j
  · obtain ⟨v, hv⟩ := h.there j hj; exact ⟨v, by rw [hb.cell hlt]; exact hv⟩
  · rw [hb.cell hlt]; exact h.done j hj

theorem Fill.store {B : Nat} {w wr : World} {N m : Nat} {F : Nat → Value} (h : Fill B w wr N m F) (hm : m < N) {v : Value} (hv : v = F m) : Fill B w (wr.setCell ⟨B, m, none⟩ v) N (m + 1) F := by
  obtain ⟨v0, h0⟩ := h.there m hm
  refine ⟨h.below.setCell (by simp) _, by simpa [World.setCell] using h.lt, fun j => ?_, fun j hj => ?_, fun j hj => ?_⟩
  · simpa using h.open_ j
  · by_cases e : j = m
    · subst e; exact ⟨v, World.cell?_setCell_same _ _ _ h0⟩
    · obtain ⟨u, hu⟩ := h.there j hj
      exact ⟨u, by rw [World.cell?_setCell_other _ _ _ _ (by intro hh; injection hh with _ h2; omega)]; exact hu⟩
  · by_cases e : j = m
    · subst e; subst hv; exact World.cell?_setCell_same _ _ _ h0
    · rw [World.cell?_setCell_other _ _ _ _ (by intro hh; injection hh with _ h2; omega)]; exact h.done j (by omega)

theorem Fill.start (w : World) (cs : Array Value) (t : TypeId) (F : Nat → Value) : Fill w.heap.size w (w.alloc (.cells cs t)) cs.size 0 F := by
  refine ⟨(Below.refl _ _).alloc (Nat.le_refl _) _, by simp, fun j => by simp, fun j hj => ⟨cs[j], by simp [hj]⟩, fun j hj => by omega⟩
theorem hidOf {p : Prop} (h : p) : Hid p := h
theorem setCell_ne (w : World) (p i j : Nat) (u : Value) (h : i ≠ j) : (w.setCell ⟨p, i, none⟩ u).cell? ⟨p, j, none⟩ = w.cell? ⟨p, j, none⟩ :=
  World.cell?_setCell_other _ _ _ _ (by intro e; injection e with _ e2; exact h e2)
end Go.Proofs.YtnkeibahaiibpaaGreatDoor

/- Whether a number is within bounds. -/
namespace Go.Proofs.YtnkeibahaiibpaaGreatDoor
open Go.RowKit Go.PlainAid

theorem l1In_any (n lo hi : Int) (w : World) : Calls Tryz.prog 75 #[.int .i64 n, .int .i64 lo, .int .i64 hi] w fun e w' => e = .returned (.bool (decide (lo ≤ n ∧ n ≤ hi))) ∧ w' = w := by
  by_cases h1 : lo ≤ n
  · go_enter Tryz.func75, Tryz.ntmps75
    go_wp2
    go_ret
    exact ⟨ret_bool (by simp [h1]), rfl⟩
  · go_enter Tryz.func75, Tryz.ntmps75
    go_wp2
    go_ret
    exact ⟨ret_bool (by simp; omega), rfl⟩
end Go.Proofs.YtnkeibahaiibpaaGreatDoor

/- The walks for names: what NameOk of the program and of the model come to, for every string. -/
namespace Go.Proofs.YtnkeibahaiibpaaGreatDoor
open Go.RowKit Go.PlainAid

def letB (n : Int) : Bool := decide (97 ≤ n ∧ n ≤ 122)
def figB (n : Int) : Bool := decide (48 ≤ n ∧ n ≤ 57)

theorem isLetter_any (n : Int) (w : World) : Calls Tryz.prog 146 #[.int .u8 n] w fun e w' => e = .returned (.bool (letB n)) ∧ w' = w := by
  by_cases h1 : 97 ≤ n
  · go_enter Tryz.func146, Tryz.ntmps146
    go_wp2
    go_ret
    exact ⟨ret_bool (by simp [letB, h1]), rfl⟩
  · go_enter Tryz.func146, Tryz.ntmps146
    go_wp2
    go_ret
    exact ⟨ret_bool (by simp [letB]; omega), rfl⟩
theorem isFigure_any (n : Int) (w : World) : Calls Tryz.prog 186 #[.int .u8 n] w fun e w' => e = .returned (.bool (figB n)) ∧ w' = w := by
  by_cases h1 : 48 ≤ n
  · go_enter Tryz.func186, Tryz.ntmps186
    go_wp2
    go_ret
    exact ⟨ret_bool (by simp [figB, h1]), rfl⟩
  · go_enter Tryz.func186, Tryz.ntmps186
    go_wp2
    go_ret
    exact ⟨ret_bool (by simp [figB]; omega), rfl⟩
theorem l1Letter_any (n : Int) (w : World) : Calls Tryz.prog 180 #[.int .u8 n] w fun e w' => e = .returned (.bool (letB n)) ∧ w' = w := by
  by_cases h1 : 97 ≤ n
  · go_enter Tryz.func180, Tryz.ntmps180
    go_wp2
    go_ret
    exact ⟨ret_bool (by simp [letB, h1]), rfl⟩
  · go_enter Tryz.func180, Tryz.ntmps180
    go_wp2
    go_ret
    exact ⟨ret_bool (by simp [letB]; omega), rfl⟩
theorem l1Figure_any (n : Int) (w : World) : Calls Tryz.prog 181 #[.int .u8 n] w fun e w' => e = .returned (.bool (figB n)) ∧ w' = w := by
  by_cases h1 : 48 ≤ n
  · go_enter Tryz.func181, Tryz.ntmps181
    go_wp2
    go_ret
    exact ⟨ret_bool (by simp [figB, h1]), rfl⟩
  · go_enter Tryz.func181, Tryz.ntmps181
    go_wp2
    go_ret
    exact ⟨ret_bool (by simp [figB]; omega), rfl⟩
theorem isNameByte_any (n : Int) (w : World) : Calls Tryz.prog 147 #[.int .u8 n] w fun e w' => e = .returned (.bool (letB n || figB n)) ∧ w' = w := by
  cases h1 : letB n
  · go_enter Tryz.func147, Tryz.ntmps147
    go_wp2_with (first | (go_at_call 146; refine (isLetter_any _ _).mono ?_; rintro e w' ⟨rfl, rfl⟩) | (go_at_call 186; refine (isFigure_any _ _).mono ?_; rintro e w' ⟨rfl, rfl⟩))
    go_ret
    exact ⟨ret_bool (by simp), rfl⟩
  · go_enter Tryz.func147, Tryz.ntmps147
    go_wp2_with (first | (go_at_call 146; refine (isLetter_any _ _).mono ?_; rintro e w' ⟨rfl, rfl⟩) | (go_at_call 186; refine (isFigure_any _ _).mono ?_; rintro e w' ⟨rfl, rfl⟩))
    go_ret
    exact ⟨ret_bool (by simp), rfl⟩

/-- byte k may stand in a name -/
def okAt (s : ByteArray) (k : Nat) : Bool := letB (bt s k) || (!(k == 0) && figB (bt s k))
/-- the first k bytes may -/
def okTo (s : ByteArray) : Nat → Bool
  | 0 => true
  | k + 1 => okTo s k && okAt s k
def nmB (s : ByteArray) : Bool := decide (1 ≤ s.size ∧ s.size ≤ 6) && okTo s s.size

theorem okTo_le (s : ByteArray) {j k : Nat} (h : j ≤ k) (hk : okTo s k = true) : okTo s j = true := by
  induction k with
  | zero => have : j = 0 := by omega
            subst this; rfl
  | succ k ih =>
    by_cases e : j = k + 1
    · subst e; exact hk
    · simp [okTo] at hk; exact ih (by omega) hk.1
theorem okTo_no (s : ByteArray) {k n : Nat} (h : k < n) (hk : okAt s k = false) : okTo s n = false := by
  cases e : okTo s n with
  | false => rfl
  | true => have := okTo_le s (j := k + 1) (by omega) e
            simp [okTo, hk] at this

set_option maxHeartbeats 400000 in
theorem l1Name_any (s : ByteArray) (w : World) (hs : s.size ≤ maxLen) : Calls Tryz.prog 137 #[.string s] w fun e w' => e = .returned (.bool (nmB s)) ∧ w' = w := by
  unfold maxLen at hs
  have hb := get_bt s
  go_enter Tryz.func137, Tryz.ntmps137
  go_wp2
  go_loop [3] (fun i => ∃ k : Nat, k ≤ s.size ∧ i = .int .i64 k ∧ okTo s k = true) (fun i => s.size - (intOf i).toNat)
  case atStart => exact ⟨0, Nat.zero_le _, rfl, rfl⟩
  case round =>
    obtain ⟨k, hk, rfl, hok⟩ := hrel
    by_cases hlt : k < s.size
    · cases hl : letB (bt s k)
      · by_cases h0 : k = 0
        · subst h0
          have hno : okTo s s.size = false := okTo_no s hlt (by simp [okAt, hl])
          go_wp2_with (first | (go_at_call 180; refine (l1Letter_any _ _).mono ?_; rintro e w' ⟨rfl, rfl⟩) | (go_at_call 181; refine (l1Figure_any _ _).mono ?_; rintro e w' ⟨rfl, rfl⟩))
          go_ret
          exact ⟨ret_bool (by simp [nmB, hno]), rfl⟩
        · have h0' : ((k : Int) == 0) = false := by simp; omega
          cases hf : figB (bt s k)
          · have hno : okTo s s.size = false := okTo_no s hlt (by simp [okAt, hl, hf])
            go_wp2_with (first | (go_at_call 180; refine (l1Letter_any _ _).mono ?_; rintro e w' ⟨rfl, rfl⟩) | (go_at_call 181; refine (l1Figure_any _ _).mono ?_; rintro e w' ⟨rfl, rfl⟩))
            go_ret
            exact ⟨ret_bool (by simp [nmB, hno]), rfl⟩
          · go_wp2_with (first | (go_at_call 180; refine (l1Letter_any _ _).mono ?_; rintro e w' ⟨rfl, rfl⟩) | (go_at_call 181; refine (l1Figure_any _ _).mono ?_; rintro e w' ⟨rfl, rfl⟩))
            go_round
            case rel => exact ⟨k + 1, by omega, by go_num, by simp [okTo, hok, okAt, hf, h0]⟩
            case measure => simp [intOf]; omega
      · go_wp2_with (first | (go_at_call 180; refine (l1Letter_any _ _).mono ?_; rintro e w' ⟨rfl, rfl⟩) | (go_at_call 181; refine (l1Figure_any _ _).mono ?_; rintro e w' ⟨rfl, rfl⟩))
        go_round
        case rel => exact ⟨k + 1, by omega, by go_num, by simp [okTo, hok, okAt, hl]⟩
        case measure => simp [intOf]; omega
    · have : k = s.size := by omega
      subst this
      go_wp2_with (go_at_call 75; refine (l1In_any _ _ _ _).mono ?_; rintro e w' ⟨rfl, rfl⟩)
      go_ret
      exact ⟨ret_bool (by rw [nmB, hok, Bool.and_true, Bool.decide_and]; congr 1 <;> exact decide_eq_decide.2 (by omega)), rfl⟩

theorem okTo_one (s : ByteArray) : okTo s 1 = letB (bt s 0) := by simp [okTo, okAt]
set_option maxHeartbeats 400000 in
theorem implNameOk_any (s : ByteArray) (w : World) (hs : s.size ≤ maxLen) : Calls Tryz.prog 91 #[.string s] w fun e w' => e = .returned (.bool (nmB s)) ∧ w' = w := by
  unfold maxLen at hs
  have hb := get_bt s
  by_cases h1 : s.size < 1
  · have hn : nmB s = false := by simp [nmB]; omega
    go_enter Tryz.func91, Tryz.ntmps91
    go_wp2_with fail
    go_ret
    exact ⟨rfl, rfl⟩
  by_cases h2 : 6 < s.size
  · have hn : nmB s = false := by simp [nmB]; omega
    go_enter Tryz.func91, Tryz.ntmps91
    go_wp2_with fail
    go_ret
    exact ⟨rfl, rfl⟩
  have hs0 : 0 < s.size := by omega
  cases hl : letB (bt s 0)
  · have hn : nmB s = false := by simp [nmB, okTo_no s hs0 (by simp [okAt, hl])]
    go_enter Tryz.func91, Tryz.ntmps91
    go_wp2_with (go_at_call 146; refine (isLetter_any _ _).mono ?_; rintro e w' ⟨rfl, rfl⟩)
    go_ret
    exact ⟨ret_bool hn.symm, rfl⟩
  have H1 : okTo s 1 = true := by rw [okTo_one]; exact hl
  go_enter Tryz.func91, Tryz.ntmps91
  go_wp2_with (go_at_call 146; refine (isLetter_any _ _).mono ?_; rintro e w' ⟨rfl, rfl⟩)
  go_loop [3] (fun i => ∃ k : Nat, 1 ≤ k ∧ k ≤ s.size ∧ i = .int .i64 k ∧ okTo s k = true) (fun i => s.size - (intOf i).toNat)
  case atStart => exact ⟨1, by omega, by omega, rfl, H1⟩
  case round =>
    obtain ⟨k, hk1, hk, rfl, hok⟩ := hrel
    by_cases hlt : k < s.size
    · cases hl : (letB (bt s k) || figB (bt s k))
      · have hno : okTo s s.size = false := okTo_no s hlt (by simp at hl; simp [okAt, hl])
        go_wp2_with (go_at_call 147; refine (isNameByte_any _ _).mono ?_; rintro e w' ⟨rfl, rfl⟩)
        go_ret
        exact ⟨ret_bool (by simp [nmB, hno]), rfl⟩
      · have HS : Hid (okTo s (k + 1) = true) := by
          have : okTo s (k + 1) = true := by
            simp at hl; simp [okTo, hok, okAt]; rcases hl with h | h <;> simp [h]; omega
          exact this
        go_wp2_with (go_at_call 147; refine (isNameByte_any _ _).mono ?_; rintro e w' ⟨rfl, rfl⟩)
        go_round
        case rel => exact ⟨k + 1, by omega, by omega, by go_num, HS.out⟩
        case measure => simp [intOf]; omega
    · have : k = s.size := by omega
      subst this
      go_wp2
      go_ret
      exact ⟨ret_bool (by rw [nmB, hok, Bool.and_true]; simp; omega), rfl⟩
end Go.Proofs.YtnkeibahaiibpaaGreatDoor

/- Walks in a finite graph: with as many edges as there are places, a walk goes on for ever. What a block's rings and most turn on. Plain: no program. -/
namespace Go.Proofs.YtnkeibahaiibpaaGreatDoor
set_option linter.unusedSimpArgs false
set_option linter.unusedVariables false

/-- there is a walk of so many edges from here -/
def Wk (E : Nat → List Nat) : Nat → Nat → Bool
  | 0, _ => true
  | k + 1, i => (E i).any (Wk E k)
theorem Wk_anti {E : Nat → List Nat} : ∀ {k i : Nat}, Wk E (k + 1) i = true → Wk E k i = true
  | 0, _, _ => rfl
  | k + 1, i, h => by
    simp only [Wk, List.any_eq_true] at h ⊢
    obtain ⟨j, hj, hw⟩ := h
    exact ⟨j, hj, Wk_anti (k := k) (by simp only [Wk, List.any_eq_true]; exact hw)⟩
theorem Wk_le {E : Nat → List Nat} {k m i : Nat} (h : k ≤ m) (hw : Wk E m i = true) : Wk E k i = true := by
  induction m with
  | zero => have : k = 0 := by omega
            subst this; exact hw
  | succ m ih =>
    by_cases e : k = m + 1
    · subst e; exact hw
    · exact ih (by omega) (Wk_anti hw)
theorem Wk_stay {E : Nat → List Nat} {n k : Nat} (hE : ∀ i, i < n → ∀ j ∈ E i, j < n) (h : ∀ i, i < n → Wk E k i = Wk E (k + 1) i) : ∀ i, i < n → Wk E (k + 1) i = Wk E (k + 1 + 1) i := by
  intro i hi
  cases e : Wk E (k + 1) i with
  | false =>
    cases e2 : Wk E (k + 1 + 1) i with
    | false => rfl
    | true => rw [Wk_anti e2] at e; cases e
  | true =>
    symm
    simp only [Wk, List.any_eq_true] at e
    obtain ⟨j, hj, hw⟩ := e
    have hw2 : Wk E (k + 1) j = true := by rw [← h j (hE i hi j hj)]; exact hw
    show (E i).any (Wk E (k + 1)) = true
    rw [List.any_eq_true]
    exact ⟨j, hj, hw2⟩
def cntW (E : Nat → List Nat) (n k : Nat) : Nat := (List.range n).countP (Wk E k)
theorem count_le {p q : Nat → Bool} (h : ∀ i, q i = true → p i = true) : ∀ l : List Nat, l.countP q ≤ l.countP p ∧ (l.countP q = l.countP p → ∀ i ∈ l, p i = q i)
  | [] => ⟨by simp, fun _ i hi => by simp at hi⟩
  | x :: r => by
    obtain ⟨h1, h2⟩ := count_le h r
    rw [List.countP_cons, List.countP_cons]
    cases hq : q x with
    | true =>
      have hp := h x hq
      rw [hp]
      refine ⟨by simp; omega, fun e i hi => ?_⟩
      rcases List.mem_cons.1 hi with rfl | hi
      · rw [hq, hp]
      · exact h2 (by simp at e; omega) i hi
    | false =>
      cases hp : p x with
      | true =>
        refine ⟨by simp; omega, fun e => ?_⟩
        simp at e
        omega
      | false =>
        refine ⟨by simp; omega, fun e i hi => ?_⟩
        rcases List.mem_cons.1 hi with rfl | hi
        · rw [hq, hp]
        · exact h2 (by simpa using e) i hi
theorem stay_or {E : Nat → List Nat} {n : Nat} (hE : ∀ i, i < n → ∀ j ∈ E i, j < n) : ∀ k, (∀ i, i < n → Wk E k i = Wk E (k + 1) i) ∨ cntW E n (k + 1) + (k + 1) ≤ n
  | 0 => by
    obtain ⟨h1, h2⟩ := count_le (p := Wk E 0) (q := Wk E 1) (fun i h => rfl) (List.range n)
    by_cases e : (List.range n).countP (Wk E 1) = (List.range n).countP (Wk E 0)
    · exact .inl fun i hi => h2 e i (List.mem_range.2 hi)
    · right
      have h3 : (List.range n).countP (Wk E 0) ≤ n := by simpa using List.countP_le_length (p := Wk E 0) (l := List.range n)
      show (List.range n).countP (Wk E 1) + 1 ≤ n
      omega
  | k + 1 => by
    rcases stay_or hE k with h | h
    · exact .inl (Wk_stay hE h)
    · obtain ⟨h1, h2⟩ := count_le (p := Wk E (k + 1)) (q := Wk E (k + 1 + 1)) (fun i h => Wk_anti h) (List.range n)
      by_cases e : (List.range n).countP (Wk E (k + 1 + 1)) = (List.range n).countP (Wk E (k + 1))
      · exact .inl fun i hi => h2 e i (List.mem_range.2 hi)
      · right
        unfold cntW at h ⊢
        omega
/-- with as many edges as there are places a walk goes on -/
theorem Wk_on {E : Nat → List Nat} {n : Nat} (hE : ∀ i, i < n → ∀ j ∈ E i, j < n) : ∀ i, i < n → Wk E n i = Wk E (n + 1) i := by
  rcases stay_or hE n with h | h
  · exact h
  · omega
theorem Wk_ever {E : Nat → List Nat} {n : Nat} (hE : ∀ i, i < n → ∀ j ∈ E i, j < n) : ∀ d i, i < n → Wk E (n + d) i = Wk E n i := by
  have key : ∀ d, ∀ i, i < n → Wk E (n + d) i = Wk E (n + d + 1) i := by
    intro d
    induction d with
    | zero => exact Wk_on hE
    | succ d ih => exact Wk_stay hE ih
  intro d
  induction d with
  | zero => intro i _; rfl
  | succ d ih => intro i hi; rw [← ih i hi]; exact (key d i hi).symm
theorem Wk_far {E : Nat → List Nat} {n : Nat} (hE : ∀ i, i < n → ∀ j ∈ E i, j < n) {m : Nat} (hm : n ≤ m) {i : Nat} (hi : i < n) : Wk E m i = Wk E n i := by
  have := Wk_ever hE (m - n) i hi
  rwa [show n + (m - n) = m from by omega] at this

/-! ### the program's way: round by round, in place -/
def updE (E : Nat → List Nat) (ends : List Bool) (i : Nat) : List Bool := ends.set i ((E i).all fun j => ends.getD j false)
def roundE (E : Nat → List Nat) (ends : List Bool) : Nat → List Bool
  | 0 => ends
  | i + 1 => updE E (roundE E ends i) i
def roundsE (E : Nat → List Nat) (n : Nat) : Nat → List Bool
  | 0 => List.replicate n false
  | r + 1 => roundE E (roundsE E n r) n
theorem roundE_len (E : Nat → List Nat) (ends : List Bool) : ∀ i, (roundE E ends i).length = ends.length
  | 0 => rfl
  | i + 1 => by unfold roundE updE; rw [List.length_set, roundE_len E ends i]
theorem roundsE_len (E : Nat → List Nat) (n : Nat) : ∀ r, (roundsE E n r).length = n
  | 0 => by simp [roundsE]
  | r + 1 => by unfold roundsE; rw [roundE_len, roundsE_len E n r]
theorem ends_set {l : List Bool} {i j : Nat} {v : Bool} (hi : i < l.length) : (l.set i v).getD j false = if i = j then v else l.getD j false := by
  simp only [List.getD_eq_getElem?_getD, List.getElem?_set]
  split
  · rename_i e; subst e; simp [hi]
  · rfl
/-- what is found to end has no long walk: sound -/
def Sound (E : Nat → List Nat) (t : Nat) (ends : List Bool) : Prop := ∀ i, ends.getD i false = true → Wk E t i = false
theorem Sound.upd {E : Nat → List Nat} {t : Nat} {ends : List Bool} (h : Sound E t ends) {i : Nat} (hi : i < ends.length) : Sound E (t + 1) (updE E ends i) := by
  intro j hj
  unfold updE at hj
  rw [ends_set hi] at hj
  split at hj
  · rename_i e
    subst e
    rw [List.all_eq_true] at hj
    show (E i).any (Wk E t) = false
    rw [List.any_eq_false]
    intro x hx
    rw [h x (hj x hx)]
    simp
  · cases e : Wk E (t + 1) j with
    | false => rfl
    | true => have := h j hj; rw [Wk_anti e] at this; cases this
theorem Sound.round {E : Nat → List Nat} {t : Nat} {ends : List Bool} (h : Sound E t ends) : ∀ i, i ≤ ends.length → Sound E (t + i) (roundE E ends i)
  | 0, _ => h
  | i + 1, hi => Sound.upd (h.round i (by omega)) (by rw [roundE_len]; omega)
theorem Sound.rounds {E : Nat → List Nat} {n : Nat} : ∀ r, Sound E (n * r) (roundsE E n r)
  | 0 => fun i h => by simp [roundsE, List.getD_eq_getElem?_getD, List.getElem?_replicate] at h; split at h <;> simp at h
  | r + 1 => by
    have := (Sound.rounds (E := E) (n := n) r).round n (by rw [roundsE_len]; exact Nat.le_refl _)
    unfold roundsE
    rw [Nat.mul_succ]; exact this
/-- what has no walk of r edges is found to end in r rounds -/
theorem found_round {E : Nat → List Nat} {n r : Nat} (hE : ∀ i, i < n → ∀ j ∈ E i, j < n) {ends : List Bool} (hl : ends.length = n) (h : ∀ i, i < n → Wk E r i = false → ends.getD i false = true) :
    ∀ m, m ≤ n → ∀ i, i < n → (if i < m then Wk E (r + 1) i = false else Wk E r i = false) → (roundE E ends m).getD i false = true
  | 0, _, i, hi, hw => by
    rw [if_neg (by omega)] at hw
    exact h i hi hw
  | m + 1, hm, i, hi, hw => by
    have ih := found_round hE hl h m (by omega)
    unfold roundE updE
    rw [ends_set (by rw [roundE_len, hl]; omega)]
    split
    · rename_i e
      subst e
      rw [if_pos (by omega)] at hw
      rw [List.all_eq_true]
      intro j hj
      have hjn := hE m hi j hj
      have hwj : Wk E r j = false := by
        have h2 : (E m).any (Wk E r) = false := hw
        rw [List.any_eq_false] at h2
        have := h2 j hj
        simpa using this
      refine ih j hjn ?_
      split
      · cases e : Wk E (r + 1) j with
        | false => rfl
        | true => rw [Wk_anti e] at hwj; cases hwj
      · exact hwj
    · rename_i e
      refine ih i hi ?_
      by_cases e2 : i < m
      · rw [if_pos e2]; rw [if_pos (by omega)] at hw; exact hw
      · rw [if_neg e2]; rw [if_neg (by omega)] at hw; exact hw
theorem found_rounds {E : Nat → List Nat} {n : Nat} (hE : ∀ i, i < n → ∀ j ∈ E i, j < n) : ∀ r, ∀ i, i < n → Wk E r i = false → (roundsE E n r).getD i false = true
  | 0, i, hi, hw => by cases hw
  | r + 1, i, hi, hw => found_round hE (roundsE_len E n r) (found_rounds hE r) n (Nat.le_refl _) i hi (by rw [if_pos hi]; exact hw)
/-- as many rounds as places find just what ends -/
theorem rounds_all {E : Nat → List Nat} {n : Nat} (hE : ∀ i, i < n → ∀ j ∈ E i, j < n) {i : Nat} (hi : i < n) : (roundsE E n n).getD i false = !(Wk E (n + 1) i) := by
  rw [← Wk_on hE i hi]
  cases e : Wk E n i with
  | false => rw [found_rounds hE n i hi e]; rfl
  | true =>
    cases e2 : (roundsE E n n).getD i false with
    | false => rfl
    | true =>
      have h1 := Sound.rounds (E := E) (n := n) n i e2
      rw [Wk_far hE (Nat.le_mul_self n) hi, e] at h1
      cases h1
end Go.Proofs.YtnkeibahaiibpaaGreatDoor
