/- The model's l1Bound and l1Dec. -/
import Derived.Test.YtchemhjcknkbgaaGreatDoorBunY12
import Derived.Test.YtchemhjcknkbgaaGreatDoorBunY2
namespace Go.Proofs.YtchemhjcknkbgaaGreatDoor
open Go.RowKit Go.PlainAid
set_option linter.unusedSimpArgs false
set_option linter.unusedVariables false

theorem ret_str {a b : ByteArray} (h : a = b) : Ending.returned (.string a) = .returned (.string b) := by rw [h]
def boundM (t : ByteArray) (l need : Int) : ByteArray := if l < need then lpar ++ t ++ rpar else t
theorem l1Bound_any (t : ByteArray) (l need : Int) (w : World) (ht : t.size ≤ 1048576) : Calls Tryz.prog 248 #[.string t, .int .i64 l, .int .i64 need] w fun e w' => e = .returned (.string (boundM t l need)) ∧ w' = w := by
  unfold boundM
  by_cases h : l < need
  · rw [if_pos h]
    go_enter Tryz.func248, Tryz.ntmps248
    go_wp2_with fail
    go_ret
    exact ⟨rfl, rfl⟩
  · rw [if_neg h]
    go_enter Tryz.func248, Tryz.ntmps248
    go_wp2_with fail
    go_ret
    exact ⟨rfl, rfl⟩
theorem bound_size (t : ByteArray) (l need : Int) : (boundM t l need).size ≤ t.size + 2 := by
  unfold boundM
  split
  · have e1 : lpar.size = 1 := rfl
    have e2 : rpar.size = 1 := rfl
    rw [ByteArray.size_append, ByteArray.size_append]; omega
  · omega

/-- a figure's byte -/
def dig (n : Int) : ByteArray := ⟨#[UInt8.ofNat (48 + n).toNat]⟩
/-- decimals of a number of at most six figures -/
def decF : Nat → Int → ByteArray
  | 0, n => dig n
  | f + 1, n => if n < 10 then dig n else decF f (n / 10) ++ dig (n % 10)
def dec6 (n : Int) : ByteArray := decF 6 n

theorem decF_size (f : Nat) : ∀ n, (decF f n).size ≤ f + 1 := by
  induction f with
  | zero => intro n; simp [decF, dig, ByteArray.size]
  | succ f ih =>
    intro n
    unfold decF
    split
    · simp [dig, ByteArray.size]
    · have := ih (n / 10)
      have e : (dig (n % 10)).size = 1 := rfl
      rw [ByteArray.size_append, e]; omega

/-- a figure made of a number -/
theorem conv_dig (n : Int) (h0 : 0 ≤ n) (h1 : n < 10) (W : World) (b : Nat) (hc : W.cell? ⟨b, 0, none⟩ = some (.int .u8 (48 + n))) : (convert 140 9 (.slice (some ⟨b, 0, none⟩) 1 1)).run Tryz.prog W = .ok (.string (dig n)) W := by
  refine run_convert_bytes_back (P := Tryz.prog) W 140 9 5 ⟨b, 0, none⟩ 1 [UInt8.ofNat (48 + n).toNat] Tryz.underlying140 Tryz.underlying5 Tryz.underlying9 ?_
  intro j hj
  match j, hj with
  | 0, _ =>
    have e : ((UInt8.ofNat (48 + n).toNat).toNat : Int) = 48 + n := by
      rw [UInt8.toNat_ofNat']; omega
    simp only [List.getElem_cons_zero, e]
    simpa [Addr.add] using hc

theorem bel_after {w w' : World} (h : Below w.drew.heap.size w.drew w') (o : Obj) : Below w.heap.size w (w'.alloc o) := (undrew h).alloc h.size o
theorem bel_before {w w' : World} {o : Obj} (h : Below (w.alloc o).drew.heap.size (w.alloc o).drew w') : Below w.heap.size w w' :=
  ((Below.refl _ w).alloc (Nat.le_refl _) o).trans ((undrew h).mono (by simp))

set_option maxHeartbeats 800000 in
set_option maxRecDepth 100000 in
theorem l1Dec_any (f : Nat) : f ≤ 6 → ∀ (n : Int) (w : World), 0 ≤ n → n < 10 ^ (f + 1) → n ≤ 999999 → Calls Tryz.prog 247 #[.int .i64 n] w fun e w' => e = .returned (.string (decF f n)) ∧ Below w.heap.size w w' := by
  induction f with
  | zero =>
    intro _ n w h0 h1 h2
    have h1 : n < 10 := by simpa using h1
    have hcv := conv_dig n h0 h1
    go_enter Tryz.func247, Tryz.ntmps247
    go_wp2_with fail
    go_ret
    exact ⟨rfl, (Below.refl _ _).alloc (Nat.le_refl _) _⟩
  | succ f ih =>
    intro hf6 n w h0 h1 h2
    by_cases h10 : n < 10
    · have hcv := conv_dig n h0 h10
      have HN : Hid (decF (f + 1) n = dig n) := by
        show decF (f + 1) n = dig n
        rw [decF, if_pos h10]
      clear ih h1
      go_enter Tryz.func247, Tryz.ntmps247
      go_wp2_with fail
      go_ret
      exact ⟨ret_str HN.out.symm, (Below.refl _ _).alloc (Nat.le_refl _) _⟩
    · obtain ⟨q, hq⟩ : ∃ q, n / 10 = q := ⟨_, rfl⟩
      obtain ⟨r, hr⟩ : ∃ r, n % 10 = r := ⟨_, rfl⟩
      have t1 : n.tdiv 10 = q := by rw [Int.tdiv_eq_ediv_of_nonneg h0]; exact hq
      have t2 : n.tmod 10 = r := by rw [Int.tmod_eq_emod_of_nonneg h0]; exact hr
      have hcv := conv_dig r (by omega) (by omega)
      have HN : Hid (decF (f + 1) n = decF f q ++ dig r) := by
        show decF (f + 1) n = _
        rw [decF, if_neg h10, hq, hr]
      have hs := decF_size f q
      have hp : n / 10 < 10 ^ (f + 1) := by
        rw [Int.pow_succ] at h1
        exact Int.ediv_lt_of_lt_mul (by decide) h1
      have HI : Hid (∀ W : World, Calls Tryz.prog 247 #[.int .i64 q] W fun e w' => e = .returned (.string (decF f q)) ∧ Below W.heap.size W w') := fun W => ih (by omega) q W (by omega) (by rw [← hq]; exact hp) (by omega)
      have hz8 : (decF f q).size ≤ 8 := by omega
      have hd1 : (dig r).size = 1 := rfl
      have hz9 : (decF f q).size + (dig r).size ≤ 9223372036854775807 := by omega
      have hm1 : 0 ≤ r := by omega
      have hm2 : r < 10 := by omega
      have hq1 : 0 ≤ q := by omega
      have hq2 : q ≤ 99999 := by omega
      have p1 : IntKind.i64.wrap q = q := IntWalk.i64_in _ ⟨by omega, by omega⟩
      have p2 : IntKind.i64.wrap (48 + r) = 48 + r := IntWalk.i64_in _ ⟨by omega, by omega⟩
      have p3 : IntKind.u8.wrap (48 + r) = 48 + r := IntWalk.u8_in _ ⟨by omega, by omega⟩
      have p4 : IntKind.i64.wrap r = r := IntWalk.i64_in _ ⟨by omega, by omega⟩
      clear ih h1 hp hq hr
      go_enter Tryz.func247, Tryz.ntmps247
      go_wp2_with fail
      go_region_with (go_at_call 247; refine (HI.out _).mono ?_; rintro e w' ⟨rfl, hb⟩; obtain ⟨hc', hf'⟩ := bcell hb)
      all_goals
        go_wp2_with fail
        go_ret
        refine ⟨ret_str HN.out.symm, ?_⟩
        first
          | exact bel_after hb _
          | exact bel_before hb
end Go.Proofs.YtchemhjcknkbgaaGreatDoor

/- The model's l1Show as a function, and its two stacks in memory. -/
namespace Go.Proofs.YtchemhjcknkbgaaGreatDoor
open Go.RowKit Go.PlainAid
set_option linter.unusedSimpArgs false
set_option linter.unusedVariables false

abbrev TL := List (ByteArray × Int)
def aheadSg (k : Int) : ByteArray := if k = 4 then bang else minus
def aheadStk (k : Int) : TL → Option TL
  | (t, l) :: r => some ((aheadSg k ++ boundM t l 6, 6) :: r)
  | [] => none
def pairStk (k : Int) : TL → Option TL
  | (t2, l2) :: (t1, l1) :: r => some ((boundM t1 l1 (lvl k) ++ sg k.toNat ++ boundM t2 l2 (lvl k + 1), lvl k) :: r)
  | _ => none
/-- one node more: texts and how tightly they bind, the last first -/
def showStep (x : Nd) (stk : TL) : Option TL :=
  if x.1 = 1 then (if (0 ≤ x.2.1 ∧ x.2.1 ≤ 999999) ∧ x.2.2.toList.isEmpty = true then some ((decF 5 x.2.1, 7) :: stk) else none)
  else if x.1 = 2 then (if nmB x.2.2 = true ∧ x.2.1 = 0 then some ((x.2.2, 7) :: stk) else none)
  else if x.1 = 3 ∨ x.1 = 4 then (if x.2.1 = 0 ∧ x.2.2.toList.isEmpty = true then aheadStk x.1 stk else none)
  else if 5 ≤ x.1 ∧ x.1 ≤ 13 then (if x.2.1 = 0 ∧ x.2.2.toList.isEmpty = true then pairStk x.1 stk else none)
  else none
def showTo (l : List Nd) : Nat → Option TL
  | 0 => some []
  | k + 1 => (showTo l k).bind (showStep (l.getD k (0, 0, noName)))
/-- how nodes are written -/
def showM (l : List Nd) : Option ByteArray := match showTo l l.length with | some [(t, _)] => some t | _ => none

theorem showTo_none {l : List Nd} {k n : Nat} (h : k ≤ n) (hk : showTo l k = none) : showTo l n = none := by
  induction n with
  | zero => have : k = 0 := by omega
            subst this; exact hk
  | succ n ih =>
    by_cases e : k = n + 1
    · subst e; exact hk
    · simp [showTo, ih (by omega)]
theorem showM_no {l : List Nd} {k : Nat} {stk : TL} (h : showTo l k = some stk) (hk : k < l.length) (hs : showStep (l.getD k (0, 0, noName)) stk = none) : showM l = none := by
  have h1 : showTo l (k + 1) = none := by simp only [showTo, h]; exact hs
  unfold showM
  rw [showTo_none (n := l.length) (by omega) h1]

def total : TL → Nat
  | [] => 0
  | x :: r => x.1.size + total r
theorem total_step {x : Nd} {stk stk' : TL} (h : showStep x stk = some stk') : total stk' ≤ total stk + 6 ∧ stk'.length ≤ stk.length + 1 := by
  unfold showStep at h
  split at h
  · split at h
    · cases h
      have := decF_size 5 x.2.1
      simp [total]; omega
    · cases h
  split at h
  · split at h
    · rename_i hn
      cases h
      have : x.2.2.size ≤ 6 := by
        have := hn.1; unfold nmB at this; simp at this; omega
      simp [total]; omega
    · cases h
  split at h
  · split at h
    · unfold aheadStk at h
      split at h
      · rename_i t l r
        cases h
        have h1 := bound_size t l 6
        have h2 : (aheadSg x.1).size = 1 := by unfold aheadSg; split <;> rfl
        simp only [total, ByteArray.size_append, List.length_cons]; omega
      · cases h
    · cases h
  split at h
  · split at h
    · unfold pairStk at h
      split at h
      · rename_i t2 l2 t1 l1 r
        cases h
        have h1 := bound_size t1 l1 (lvl x.1)
        have h2 := bound_size t2 l2 (lvl x.1 + 1)
        have h3 := sg_size x.1.toNat
        simp only [total, ByteArray.size_append, List.length_cons]; omega
      · cases h
    · cases h
  · cases h
theorem total_to {l : List Nd} : ∀ {k : Nat} {stk : TL}, showTo l k = some stk → total stk ≤ 6 * k ∧ stk.length ≤ k
  | 0, stk, h => by simp [showTo] at h; subst h; simp [total]
  | k + 1, stk, h => by
    simp only [showTo, Option.bind_eq_some_iff] at h
    obtain ⟨s0, h1, h2⟩ := h
    have := total_to h1
    have := total_step h2
    omega

def strsOf (stk : TL) : List Value := stk.reverse.map fun x => Value.string x.1
def lvsOf (stk : TL) : List Value := stk.reverse.map fun x => Value.int .i64 x.2
/-- the two stacks: rows gt and gl -/
structure Two (B : Nat) (w : World) (gt ct gl cl : Nat) (stk : TL) : Prop where
  t : w.ownsRow B 9 1 (.slice (some ⟨gt, 0, none⟩) stk.length ct) stk.length (strsOf stk)
  l : w.ownsRow B 3 1 (.slice (some ⟨gl, 0, none⟩) stk.length cl) stk.length (lvsOf stk)
  ne : gt ≠ gl
theorem Two.lt {B : Nat} {w : World} {gt ct gl cl : Nat} {stk : TL} (h : Two B w gt ct gl cl stk) : (B ≤ gt ∧ gt < w.heap.size) ∧ (B ≤ gl ∧ gl < w.heap.size) := ⟨h.t.lt gt rfl, h.l.lt gl rfl⟩
theorem Two.old {B : Nat} {w w' : World} {gt ct gl cl : Nat} {stk : TL} (h : Two B w gt ct gl cl stk) (hb : Below w.heap.size w w') : Two B w' gt ct gl cl stk := by
  have hl := h.lt
  exact ⟨own_of_block h.t (fun g hg => by
      have : g = gt := by simpa [Value.ownBlock] using hg.symm
      subst this; exact hb.block g hl.1.2), own_of_block h.l (fun g hg => by
      have : g = gl := by simpa [Value.ownBlock] using hg.symm
      subst this; exact hb.block g hl.2.2), h.ne⟩
theorem Two.drew {B : Nat} {w : World} {gt ct gl cl : Nat} {stk : TL} (h : Two B w gt ct gl cl stk) : Two B w.drew gt ct gl cl stk := ⟨h.t, h.l, h.ne⟩
theorem strsOf_cons (x : ByteArray × Int) (stk : TL) : strsOf (x :: stk) = strsOf stk ++ [.string x.1] := by simp [strsOf]
theorem lvsOf_cons (x : ByteArray × Int) (stk : TL) : lvsOf (x :: stk) = lvsOf stk ++ [.int .i64 x.2] := by simp [lvsOf]
theorem Two.top {B : Nat} {w : World} {gt ct gl cl : Nat} {x : ByteArray × Int} {r : TL} (h : Two B w gt ct gl cl (x :: r)) :
    w.cell? ⟨gt, r.length, none⟩ = some (.string x.1) ∧ w.cell? ⟨gl, r.length, none⟩ = some (.int .i64 x.2) ∧ w.frozen? ⟨gt, r.length, none⟩ = false ∧ w.frozen? ⟨gl, r.length, none⟩ = false := by
  obtain ⟨ht, hl, _⟩ := h
  rw [strsOf_cons] at ht
  rw [lvsOf_cons] at hl
  refine ⟨?_, ?_, ht.frozenAt _, hl.frozenAt _⟩
  · rw [ht.cellAt r.length (by simp)]; simp [strsOf]
  · rw [hl.cellAt r.length (by simp)]; simp [lvsOf]
theorem Two.pop {B : Nat} {w : World} {gt ct gl cl : Nat} {x : ByteArray × Int} {r : TL} (h : Two B w gt ct gl cl (x :: r)) : Two B w gt ct gl cl r := by
  obtain ⟨ht, hl, hn⟩ := h
  rw [strsOf_cons] at ht
  rw [lvsOf_cons] at hl
  exact ⟨ownsRow_pop (by simp [strsOf]) ht, ownsRow_pop (by simp [lvsOf]) hl, hn⟩
/-- the top is written anew -/
theorem Two.put {B : Nat} {w : World} {gt ct gl cl : Nat} {x : ByteArray × Int} {r : TL} (h : Two B w gt ct gl cl (x :: r)) (y : ByteArray) (n : Int) :
    Two B ((w.setCell ⟨gt, r.length, none⟩ (.string y)).setCell ⟨gl, r.length, none⟩ (.int .i64 n)) gt ct gl cl ((y, n) :: r) := by
  obtain ⟨ht, hl, hn⟩ := h
  have h1 := (ht.stored r.length (.string y)).1
  have e1 : (strsOf (x :: r)).set r.length (.string y) = strsOf ((y, n) :: r) := by
    rw [strsOf_cons, strsOf_cons, List.set_append_right _ _ (by simp [strsOf])]; simp [strsOf]
  rw [e1] at h1
  have h2 : (w.setCell ⟨gt, r.length, none⟩ (.string y)).ownsRow B 3 1 (.slice (some ⟨gl, 0, none⟩) (x :: r).length cl) (x :: r).length (lvsOf (x :: r)) :=
    own_of_block hl (fun g hg => by
      have : g = gl := by simpa [Value.ownBlock] using hg.symm
      subst this; exact Below.heap_setCell _ _ _ _ (fun e => hn e.symm))
  have h3 := (h2.stored r.length (.int .i64 n)).1
  have e2 : (lvsOf (x :: r)).set r.length (.int .i64 n) = lvsOf ((y, n) :: r) := by
    rw [lvsOf_cons, lvsOf_cons, List.set_append_right _ _ (by simp [lvsOf])]; simp [lvsOf]
  rw [e2] at h3
  refine ⟨?_, h3, hn⟩
  exact own_of_block h1 (fun g hg => by
      have : g = gt := by simpa [Value.ownBlock] using hg.symm
      subst this; exact Below.heap_setCell _ _ _ _ hn)
end Go.Proofs.YtchemhjcknkbgaaGreatDoor

/- The greatest statement of the model's l1Show: two texts and a sign become one; its operations may come up in many orders. -/
namespace Go.Proofs.YtchemhjcknkbgaaGreatDoor
open Go Go.RowKit Go.PlainAid
set_option linter.unusedSimpArgs false
set_option linter.unusedVariables false

/-- an operation that yields its value -/
theorem step_val {P : Program} {ops : Array Oper} {Q : Exit → Act → World → Prop} {i : Nat} {K : Act → World → Prop} {a : Act} {w w' : World} {v : Value} (o : Oper) (ho : ops[i]? = some o) (hg : o.guard = none)
    (hrun : (execOp a.eval o).run P w = .ok (.value v) w') (hK : K (a.put o.dst v) w') : wpOp P ops Q i K a w := by
  unfold wpOp
  rw [ho]
  have hw : Region.wanted o (yielded ops a.tmps) = true := by simp [Region.wanted, hg]
  simp only [hw, if_true]
  left
  unfold Oper.wp
  rw [hrun]
  exact hK
theorem step_skip {P : Program} {ops : Array Oper} {Q : Exit → Act → World → Prop} {i : Nat} {K : Act → World → Prop} {a : Act} {w w' : World} (o : Oper) (ho : ops[i]? = some o) (hg : o.guard = none)
    (hrun : (execOp a.eval o).run P w = .ok .skip w') (hK : K (a.put o.dst undef) w') : wpOp P ops Q i K a w := by
  unfold wpOp
  rw [ho]
  have hw : Region.wanted o (yielded ops a.tmps) = true := by simp [Region.wanted, hg]
  simp only [hw, if_true]
  left
  unfold Oper.wp
  rw [hrun]
  exact hK
theorem step_call {P : Program} {ops : Array Oper} {Q : Exit → Act → World → Prop} {i : Nat} {K : Act → World → Prop} {a : Act} {w : World} {f : Nat} {args : Array Value} (o : Oper) (ho : ops[i]? = some o) (hg : o.guard = none)
    (hrun : (execOp a.eval o).run P w = .ok (.enter f args) w) (hK : Calls P f args w fun e w' => ∃ v, e = .returned v ∧ K (a.put o.dst v) w') : wpOp P ops Q i K a w := by
  unfold wpOp
  rw [ho]
  have hw : Region.wanted o (yielded ops a.tmps) = true := by simp [Region.wanted, hg]
  simp only [hw, if_true]
  left
  unfold Oper.wp
  rw [hrun]
  refine Calls.mono hK fun e w' he => ?_
  obtain ⟨v, rfl, hk⟩ := he
  exact hk

def ops23 : Array Oper := #[
  { dst := some 138, op := Op.move (Operand.tmp 4), type := 28, pos := "l1_expr.go:269", after := #[], guard := none },
  { dst := some 139, op := Op.move (Operand.tmp 7), type := 3, pos := "l1_expr.go:269", after := #[], guard := none },
  { dst := some 140, op := Op.binOp BinOp.sub 3 (Operand.tmp 139) (Operand.const (Value.int IntKind.i64 2)) 3, type := 3, pos := "l1_expr.go:269", after := #[{ on := 1, ground := Ground.data }], guard := none },
  { dst := some 141, op := Op.move (Operand.tmp 4), type := 28, pos := "l1_expr.go:269", after := #[], guard := none },
  { dst := some 142, op := Op.move (Operand.tmp 7), type := 3, pos := "l1_expr.go:269", after := #[], guard := none },
  { dst := some 143, op := Op.binOp BinOp.sub 3 (Operand.tmp 142) (Operand.const (Value.int IntKind.i64 2)) 3, type := 3, pos := "l1_expr.go:269", after := #[{ on := 4, ground := Ground.data }], guard := none },
  { dst := some 144, op := Op.indexAddr 28 (Operand.tmp 141) (Operand.tmp 143), type := 0, pos := "l1_expr.go:269", after := #[{ on := 3, ground := Ground.data }, { on := 5, ground := Ground.data }], guard := none },
  { dst := some 145, op := Op.load 9 (Operand.tmp 144), type := 9, pos := "l1_expr.go:269", after := #[{ on := 6, ground := Ground.data }], guard := none },
  { dst := some 146, op := Op.move (Operand.tmp 5), type := 41, pos := "l1_expr.go:269", after := #[], guard := none },
  { dst := some 147, op := Op.move (Operand.tmp 7), type := 3, pos := "l1_expr.go:269", after := #[], guard := none },
  { dst := some 148, op := Op.binOp BinOp.sub 3 (Operand.tmp 147) (Operand.const (Value.int IntKind.i64 2)) 3, type := 3, pos := "l1_expr.go:269", after := #[{ on := 9, ground := Ground.data }], guard := none },
  { dst := some 149, op := Op.indexAddr 41 (Operand.tmp 146) (Operand.tmp 148), type := 0, pos := "l1_expr.go:269", after := #[{ on := 8, ground := Ground.data }, { on := 10, ground := Ground.data }], guard := none },
  { dst := some 150, op := Op.load 3 (Operand.tmp 149), type := 3, pos := "l1_expr.go:269", after := #[{ on := 11, ground := Ground.data }], guard := none },
  { dst := some 151, op := Op.move (Operand.tmp 10), type := 3, pos := "l1_expr.go:269", after := #[], guard := none },
  { dst := some 152, op := Op.call { callee := Callee.value (Operand.func 248), args := #[Operand.tmp 145, Operand.tmp 150, Operand.tmp 151], argTypes := #[9, 3, 3] }, type := 9, pos := "l1_expr.go:269", after := #[{ on := 7, ground := Ground.data }, { on := 12, ground := Ground.data }, { on := 13, ground := Ground.data }], guard := none },
  { dst := some 153, op := Op.call { callee := Callee.value (Operand.func 202), args := #[], argTypes := #[] }, type := 28, pos := "l1_expr.go:269", after := #[{ on := 14, ground := Ground.chain }], guard := none },
  { dst := some 154, op := Op.fieldAddr 121 (Operand.tmp 8) 0, type := 0, pos := "l1_expr.go:269", after := #[], guard := none },
  { dst := some 155, op := Op.load 3 (Operand.tmp 154), type := 3, pos := "l1_expr.go:269", after := #[{ on := 16, ground := Ground.data }], guard := none },
  { dst := some 156, op := Op.indexAddr 28 (Operand.tmp 153) (Operand.tmp 155), type := 0, pos := "l1_expr.go:269", after := #[{ on := 15, ground := Ground.data }, { on := 17, ground := Ground.data }], guard := none },
  { dst := some 157, op := Op.load 9 (Operand.tmp 156), type := 9, pos := "l1_expr.go:269", after := #[{ on := 18, ground := Ground.data }], guard := none },
  { dst := some 158, op := Op.binOp BinOp.add 9 (Operand.tmp 152) (Operand.tmp 157) 9, type := 9, pos := "l1_expr.go:269", after := #[{ on := 14, ground := Ground.data }, { on := 19, ground := Ground.data }], guard := none },
  { dst := some 159, op := Op.move (Operand.tmp 4), type := 28, pos := "l1_expr.go:269", after := #[], guard := none },
  { dst := some 160, op := Op.move (Operand.tmp 7), type := 3, pos := "l1_expr.go:269", after := #[], guard := none },
  { dst := some 161, op := Op.binOp BinOp.sub 3 (Operand.tmp 160) (Operand.const (Value.int IntKind.i64 1)) 3, type := 3, pos := "l1_expr.go:269", after := #[{ on := 22, ground := Ground.data }], guard := none },
  { dst := some 162, op := Op.indexAddr 28 (Operand.tmp 159) (Operand.tmp 161), type := 0, pos := "l1_expr.go:269", after := #[{ on := 21, ground := Ground.data }, { on := 23, ground := Ground.data }], guard := none },
  { dst := some 163, op := Op.load 9 (Operand.tmp 162), type := 9, pos := "l1_expr.go:269", after := #[{ on := 24, ground := Ground.data }], guard := none },
  { dst := some 164, op := Op.move (Operand.tmp 5), type := 41, pos := "l1_expr.go:269", after := #[], guard := none },
  { dst := some 165, op := Op.move (Operand.tmp 7), type := 3, pos := "l1_expr.go:269", after := #[], guard := none },
  { dst := some 166, op := Op.binOp BinOp.sub 3 (Operand.tmp 165) (Operand.const (Value.int IntKind.i64 1)) 3, type := 3, pos := "l1_expr.go:269", after := #[{ on := 27, ground := Ground.data }], guard := none },
  { dst := some 167, op := Op.indexAddr 41 (Operand.tmp 164) (Operand.tmp 166), type := 0, pos := "l1_expr.go:269", after := #[{ on := 26, ground := Ground.data }, { on := 28, ground := Ground.data }], guard := none },
  { dst := some 168, op := Op.load 3 (Operand.tmp 167), type := 3, pos := "l1_expr.go:269", after := #[{ on := 29, ground := Ground.data }], guard := none },
  { dst := some 169, op := Op.move (Operand.tmp 10), type := 3, pos := "l1_expr.go:269", after := #[], guard := none },
  { dst := some 170, op := Op.binOp BinOp.add 3 (Operand.tmp 169) (Operand.const (Value.int IntKind.i64 1)) 3, type := 3, pos := "l1_expr.go:269", after := #[{ on := 31, ground := Ground.data }], guard := none },
  { dst := some 171, op := Op.call { callee := Callee.value (Operand.func 248), args := #[Operand.tmp 163, Operand.tmp 168, Operand.tmp 170], argTypes := #[9, 3, 3] }, type := 9, pos := "l1_expr.go:269", after := #[{ on := 25, ground := Ground.data }, { on := 30, ground := Ground.data }, { on := 32, ground := Ground.data }, { on := 15, ground := Ground.chain }], guard := none },
  { dst := some 172, op := Op.binOp BinOp.add 9 (Operand.tmp 158) (Operand.tmp 171) 9, type := 9, pos := "l1_expr.go:269", after := #[{ on := 20, ground := Ground.data }, { on := 33, ground := Ground.data }], guard := none },
  { dst := some 173, op := Op.indexAddr 28 (Operand.tmp 138) (Operand.tmp 140), type := 0, pos := "l1_expr.go:269", after := #[{ on := 0, ground := Ground.data }, { on := 2, ground := Ground.data }, { on := 0, ground := Ground.phase }, { on := 1, ground := Ground.phase }, { on := 2, ground := Ground.phase }, { on := 3, ground := Ground.phase }, { on := 4, ground := Ground.phase }, { on := 5, ground := Ground.phase }, { on := 6, ground := Ground.phase }, { on := 7, ground := Ground.phase }, { on := 8, ground := Ground.phase }, { on := 9, ground := Ground.phase }, { on := 10, ground := Ground.phase }, { on := 11, ground := Ground.phase }, { on := 12, ground := Ground.phase }, { on := 13, ground := Ground.phase }, { on := 14, ground := Ground.phase }, { on := 15, ground := Ground.phase }, { on := 16, ground := Ground.phase }, { on := 17, ground := Ground.phase }, { on := 18, ground := Ground.phase }, { on := 19, ground := Ground.phase }, { on := 20, ground := Ground.phase }, { on := 21, ground := Ground.phase }, { on := 22, ground := Ground.phase }, { on := 23, ground := Ground.phase }, { on := 24, ground := Ground.phase }, { on := 25, ground := Ground.phase }, { on := 26, ground := Ground.phase }, { on := 27, ground := Ground.phase }, { on := 28, ground := Ground.phase }, { on := 29, ground := Ground.phase }, { on := 30, ground := Ground.phase }, { on := 31, ground := Ground.phase }, { on := 32, ground := Ground.phase }, { on := 33, ground := Ground.phase }, { on := 34, ground := Ground.phase }], guard := none },
  { dst := none, op := Op.store 9 (Operand.tmp 173) (Operand.tmp 172), type := 0, pos := "l1_expr.go:269", after := #[{ on := 35, ground := Ground.data }, { on := 34, ground := Ground.data }, { on := 33, ground := Ground.chain }, { on := 0, ground := Ground.phase }, { on := 1, ground := Ground.phase }, { on := 2, ground := Ground.phase }, { on := 3, ground := Ground.phase }, { on := 4, ground := Ground.phase }, { on := 5, ground := Ground.phase }, { on := 6, ground := Ground.phase }, { on := 7, ground := Ground.phase }, { on := 8, ground := Ground.phase }, { on := 9, ground := Ground.phase }, { on := 10, ground := Ground.phase }, { on := 11, ground := Ground.phase }, { on := 12, ground := Ground.phase }, { on := 13, ground := Ground.phase }, { on := 14, ground := Ground.phase }, { on := 15, ground := Ground.phase }, { on := 16, ground := Ground.phase }, { on := 17, ground := Ground.phase }, { on := 18, ground := Ground.phase }, { on := 19, ground := Ground.phase }, { on := 20, ground := Ground.phase }, { on := 21, ground := Ground.phase }, { on := 22, ground := Ground.phase }, { on := 23, ground := Ground.phase }, { on := 24, ground := Ground.phase }, { on := 25, ground := Ground.phase }, { on := 26, ground := Ground.phase }, { on := 27, ground := Ground.phase }, { on := 28, ground := Ground.phase }, { on := 29, ground := Ground.phase }, { on := 30, ground := Ground.phase }, { on := 31, ground := Ground.phase }, { on := 32, ground := Ground.phase }, { on := 33, ground := Ground.phase }, { on := 34, ground := Ground.phase }], guard := none }]

theorem dst23 (i : Nat) : dstOf ops23 i = if i < 36 then some (138 + i) else none := by
  by_cases h : i < 37
  · have : i = 0 ∨ i = 1 ∨ i = 2 ∨ i = 3 ∨ i = 4 ∨ i = 5 ∨ i = 6 ∨ i = 7 ∨ i = 8 ∨ i = 9 ∨ i = 10 ∨ i = 11 ∨ i = 12 ∨ i = 13 ∨ i = 14 ∨ i = 15 ∨ i = 16 ∨ i = 17 ∨ i = 18 ∨ i = 19 ∨ i = 20 ∨ i = 21 ∨ i = 22 ∨ i = 23 ∨ i = 24 ∨ i = 25 ∨ i = 26 ∨ i = 27 ∨ i = 28 ∨ i = 29 ∨ i = 30 ∨ i = 31 ∨ i = 32 ∨ i = 33 ∨ i = 34 ∨ i = 35 ∨ i = 36 := by omega
    rcases this with rfl | rfl | rfl | rfl | rfl | rfl | rfl | rfl | rfl | rfl | rfl | rfl | rfl | rfl | rfl | rfl | rfl | rfl | rfl | rfl | rfl | rfl | rfl | rfl | rfl | rfl | rfl | rfl | rfl | rfl | rfl | rfl | rfl | rfl | rfl | rfl | rfl <;> rfl
  · rw [if_neg (by omega)]
    unfold dstOf
    rw [Array.getElem?_eq_none (by show 37 ≤ i; omega)]; rfl
theorem apart23 : apartDst ops23 := by
  intro i j d hij h1 h2
  rw [dst23] at h1 h2
  split at h1 <;> split at h2 <;> simp at h1 h2
  omega

theorem all_listed {md : Region.Mode} {ops : Array Oper} {listed : Array Bool} (hsz : listed.size = ops.size) (hlt : ∀ (j : Nat) (o : Oper), ops[j]? = some o → ∀ e ∈ o.after, e.on < j) (hr : Region.ready md ops listed = []) :
    ∀ j, j < ops.size → listed.getD j false = true := by
  intro j
  induction j using Nat.strongRecOn with
  | ind j ih =>
    intro hj
    cases hl : listed.getD j false with
    | true => rfl
    | false =>
      exfalso
      have hm : j ∈ Region.ready md ops listed := by
        unfold Region.ready
        rw [List.mem_filter]
        refine ⟨by simpa using hj, ?_⟩
        have hjl : j < listed.size := by omega
        have e1 : listed.getD j true = false := by
          simp [Array.getD, hjl] at hl ⊢; exact hl
        have e2 : ops[j]? = some ops[j] := by simp [hj]
        rw [e1, e2]
        simp only [Bool.not_false, Bool.true_and, Option.map_some, Option.getD_some, Array.all_eq_true']
        intro e he
        have h1 := hlt j _ e2 e he
        rw [ih e.on h1 (by omega)]
        simp
      rw [hr] at hm
      cases hm
theorem putL_congr {ops : Array Oper} {val : Nat → Value} {l l' : Array Bool} {a0 : Act} : ∀ n, (∀ j, j < n → l.getD j false = l'.getD j false) → putL ops val l a0 n = putL ops val l' a0 n
  | 0, _ => rfl
  | n + 1, h => by rw [putL, putL, h n (by omega), putL_congr n (fun j hj => h j (by omega))]

/-- what the operations yield -/
def val23 (gt ct gl cl N L M q x k : Nat) (t1 t2 : ByteArray) (l1 l2 lv : Int) : Nat → Value
  | 0 => .slice (some ⟨gt, 0, none⟩) N ct
  | 1 => .int .i64 N
  | 2 => .int .i64 L
  | 3 => .slice (some ⟨gt, 0, none⟩) N ct
  | 4 => .int .i64 N
  | 5 => .int .i64 L
  | 6 => .pointer (some ⟨gt, L, none⟩)
  | 7 => .string t1
  | 8 => .slice (some ⟨gl, 0, none⟩) N cl
  | 9 => .int .i64 N
  | 10 => .int .i64 L
  | 11 => .pointer (some ⟨gl, L, none⟩)
  | 12 => .int .i64 l1
  | 13 => .int .i64 lv
  | 14 => .string (boundM t1 l1 lv)
  | 15 => .slice (some ⟨q, 0, none⟩) 14 14
  | 16 => .pointer (some ⟨x, 0, none⟩)
  | 17 => .int .i64 k
  | 18 => .pointer (some ⟨q, k, none⟩)
  | 19 => .string (sg k)
  | 20 => .string (boundM t1 l1 lv ++ sg k)
  | 21 => .slice (some ⟨gt, 0, none⟩) N ct
  | 22 => .int .i64 N
  | 23 => .int .i64 M
  | 24 => .pointer (some ⟨gt, M, none⟩)
  | 25 => .string t2
  | 26 => .slice (some ⟨gl, 0, none⟩) N cl
  | 27 => .int .i64 N
  | 28 => .int .i64 M
  | 29 => .pointer (some ⟨gl, M, none⟩)
  | 30 => .int .i64 l2
  | 31 => .int .i64 lv
  | 32 => .int .i64 (lv + 1)
  | 33 => .string (boundM t2 l2 (lv + 1))
  | 34 => .string (boundM t1 l1 lv ++ sg k ++ boundM t2 l2 (lv + 1))
  | 35 => .pointer (some ⟨gt, L, none⟩)
  | _ => undef

/-- what holds when these operations have come up -/
structure J (V : Nat → Value) (a0 : Act) (W0 : World) (c : Addr) (new : Value) (listed : Array Bool) (a : Act) (w : World) : Prop where
  size : listed.size = 37
  act : a = putL ops23 V listed a0 37
  last : listed.getD 36 false = true → ∀ j, j < 36 → listed.getD j false = true
  sgn : listed.getD 18 false = true → listed.getD 15 false = true
  w0 : listed.getD 15 false = false → listed.getD 36 false = false → w = W0
  w1 : listed.getD 15 false = true → listed.getD 36 false = false → Below W0.heap.size W0 w ∧ ∀ j, j < 14 → w.cell? ⟨W0.heap.size, j, none⟩ = some (.string (sg j))
  w2 : listed.getD 36 false = true → ∃ w', Below W0.heap.size W0 w' ∧ w = w'.setCell c new

theorem getD_set {l : Array Bool} {i j : Nat} (hi : i < l.size) : (l.setIfInBounds i true).getD j false = if i = j then true else l.getD j false := by
  simp only [Array.getD_eq_getD_getElem?, Array.getElem?_setIfInBounds]
  split
  · simp [hi]
  · rfl
theorem J.undone {V : Nat → Value} {a0 : Act} {W0 : World} {c : Addr} {new : Value} {listed : Array Bool} {a : Act} {w : World} (h : J V a0 W0 c new listed a w) {i : Nat} (hi : i < 36) (hl : listed.getD i true = false) : listed.getD 36 false = false := by
  have hlt : i < listed.size := by rw [h.size]; omega
  cases e : listed.getD 36 false with
  | false => rfl
  | true =>
    have := h.last e i hi
    simp [Array.getD, hlt] at hl this
    rw [hl] at this; cases this
theorem J.bel {V : Nat → Value} {a0 : Act} {W0 : World} {c : Addr} {new : Value} {listed : Array Bool} {a : Act} {w : World} (h : J V a0 W0 c new listed a w) (hu : listed.getD 36 false = false) : Below W0.heap.size W0 w := by
  cases e : listed.getD 15 false with
  | false => rw [h.w0 e hu]; exact Below.refl _ _
  | true => exact (h.w1 e hu).1
theorem J.plain {V : Nat → Value} {a0 : Act} {W0 : World} {c : Addr} {new : Value} {listed : Array Bool} {a : Act} {w : World} (h : J V a0 W0 c new listed a w) {i : Nat} (hi : i < 36) (h15 : i ≠ 15) (hl : listed.getD i true = false) (hs : i = 18 → listed.getD 15 false = true) :
    J V a0 W0 c new (listed.setIfInBounds i true) (a.put (dstOf ops23 i) (V i)) w := by
  have hlt : i < listed.size := by rw [h.size]; omega
  have hu := h.undone hi hl
  have hl' : listed[i] = false := by simpa [Array.getD, hlt] using hl
  have e15 : (listed.setIfInBounds i true).getD 15 false = listed.getD 15 false := by rw [getD_set hlt, if_neg h15]
  have e36 : (listed.setIfInBounds i true).getD 36 false = listed.getD 36 false := by rw [getD_set hlt, if_neg (by omega)]
  refine ⟨by simp [h.size], ?_, ?_, ?_, ?_, ?_, ?_⟩
  · rw [h.act, putL_set apart23 hlt hl' 37 (by omega)]
  · rw [e36, hu]; intro hh; cases hh
  · rw [e15, getD_set hlt]
    split
    · rename_i e; exact fun _ => hs e
    · exact h.sgn
  · rw [e15, e36]; exact h.w0
  · rw [e15, e36]; exact h.w1
  · rw [e36, hu]; intro hh; cases hh
theorem J.signs {V : Nat → Value} {a0 : Act} {W0 : World} {c : Addr} {new : Value} {listed : Array Bool} {a : Act} {w w1 : World} (h : J V a0 W0 c new listed a w) (hl : listed.getD 15 true = false)
    (hb : Below W0.heap.size W0 w1) (hc : ∀ j, j < 14 → w1.cell? ⟨W0.heap.size, j, none⟩ = some (.string (sg j))) :
    J V a0 W0 c new (listed.setIfInBounds 15 true) (a.put (dstOf ops23 15) (V 15)) w1 := by
  have hlt : 15 < listed.size := by rw [h.size]; omega
  have hu := h.undone (by omega) hl
  have hl' : listed[15] = false := by simpa [Array.getD, hlt] using hl
  have e15 : (listed.setIfInBounds 15 true).getD 15 false = true := by rw [getD_set hlt, if_pos rfl]
  have e36 : (listed.setIfInBounds 15 true).getD 36 false = listed.getD 36 false := by rw [getD_set hlt, if_neg (by omega)]
  refine ⟨by simp [h.size], ?_, ?_, ?_, ?_, ?_, ?_⟩
  · rw [h.act, putL_set apart23 hlt hl' 37 (by omega)]
  · rw [e36, hu]; intro hh; cases hh
  · exact fun _ => e15
  · rw [e15]; intro hh; cases hh
  · exact fun _ _ => ⟨hb, hc⟩
  · rw [e36, hu]; intro hh; cases hh
theorem J.store {V : Nat → Value} {a0 : Act} {W0 : World} {c : Addr} {new : Value} {listed : Array Bool} {a : Act} {w : World} (h : J V a0 W0 c new listed a w) (hl : listed.getD 36 true = false)
    (hall : ∀ j, j < 36 → listed.getD j false = true) : J V a0 W0 c new (listed.setIfInBounds 36 true) (a.put none undef) (w.setCell c new) := by
  have hlt : 36 < listed.size := by rw [h.size]; omega
  have hl' : listed[36] = false := by simpa [Array.getD, hlt] using hl
  have hu : listed.getD 36 false = false := by simp [Array.getD, hlt, hl']
  have e36 : (listed.setIfInBounds 36 true).getD 36 false = true := by rw [getD_set hlt, if_pos rfl]
  have ee : ∀ j, j < 36 → (listed.setIfInBounds 36 true).getD j false = true := fun j hj => by rw [getD_set hlt, if_neg (by omega)]; exact hall j hj
  refine ⟨by simp [h.size], ?_, fun _ => ee, fun _ => ee 15 (by omega), ?_, ?_, ?_⟩
  · rw [h.act, putL_set apart23 hlt hl' 37 (by omega), dst23]; rfl
  · rw [e36]; intro _ hh; cases hh
  · rw [e36]; intro _ hh; cases hh
  · exact fun _ => ⟨w, h.bel hu, rfl⟩
theorem putL_none {ops : Array Oper} {val : Nat → Value} {l : Array Bool} {a0 : Act} : ∀ n, (∀ j, j < n → l.getD j false = false) → putL ops val l a0 n = a0
  | 0, _ => rfl
  | n + 1, h => by rw [putL, h n (by omega), putL_none n (fun j hj => h j (by omega))]; rfl
theorem J.start (V : Nat → Value) (a0 : Act) (W0 : World) (c : Addr) (new : Value) : J V a0 W0 c new (Array.replicate 37 false) a0 W0 := by
  have e : ∀ j, (Array.replicate 37 false).getD j false = false := fun j => by
    simp only [Array.getD_eq_getD_getElem?, Array.getElem?_replicate]; split <;> rfl
  refine ⟨by simp, (putL_none 37 (fun j _ => e j)).symm, ?_, ?_, fun _ _ => rfl, ?_, ?_⟩
  · rw [e]; intro h; cases h
  · rw [e]; intro h; cases h
  · rw [e]; intro h; cases h
  · rw [e]; intro h; cases h
theorem J.get {V : Nat → Value} {a0 : Act} {W0 : World} {c : Addr} {new : Value} {listed : Array Bool} {a : Act} {w : World} (h : J V a0 W0 c new listed a w) (hz : a0.tmps.size = 193) (j : Nat) (hj : j < 36) (hl : listed.getD j false = true) : a.tmps.getD (138 + j) undef = V j := by
  rw [h.act]
  exact putL_get apart23 (by rw [dst23, if_pos hj]) (by omega) hl 37 (by omega)
theorem J.base {V : Nat → Value} {a0 : Act} {W0 : World} {c : Addr} {new : Value} {listed : Array Bool} {a : Act} {w : World} (h : J V a0 W0 c new listed a w) (d : Nat) (hd : d < 138) : a.tmps.getD d undef = a0.tmps.getD d undef := by
  rw [h.act]
  exact putL_other 37 (fun j hj => by rw [dst23]; split <;> simp; omega)
end Go.Proofs.YtchemhjcknkbgaaGreatDoor

/- The greatest statement of l1Show, whatever the order. -/
namespace Go.Proofs.YtchemhjcknkbgaaGreatDoor
open Go Go.RowKit Go.PlainAid
set_option linter.unusedSimpArgs false
set_option linter.unusedVariables false

theorem back23 : ∀ (j : Nat) (o : Oper), ops23[j]? = some o → ∀ e ∈ o.after, e.on < j := by
  intro j o h
  have hj : j < 37 := by
    rcases Nat.lt_or_ge j 37 with h1 | h1
    · exact h1
    · rw [Array.getElem?_eq_none (by show 37 ≤ j; omega)] at h; cases h
  have key : ∀ j : Fin 37, ((ops23[j.val]?).map (fun o => o.after.all (fun e => decide (e.on < j.val)))).getD false = true := by decide +kernel
  have := key ⟨j, hj⟩
  simp only [h, Option.map_some, Option.getD_some, Array.all_eq_true'] at this
  intro e he
  simpa using this e he
theorem dep23 {listed : Array Bool} {i j : Nat} (h3 : ∀ o, ops23[i]? = some o → ∀ e ∈ o.after, Region.binds .any e = true → listed.getD e.on false = true)
    (hc : ((ops23[i]?).map fun o => o.after.any fun e => (e.on == j) && Region.binds .any e).getD false = true) : listed.getD j false = true := by
  cases ho : ops23[i]? with
  | none => rw [ho] at hc; cases hc
  | some o =>
    rw [ho] at hc
    simp only [Option.map_some, Option.getD_some, Array.any_eq_true'] at hc
    obtain ⟨e, he, hb⟩ := hc
    simp only [Bool.and_eq_true, beq_iff_eq] at hb
    rw [← hb.1]
    exact h3 o ho e he hb.2
theorem dstEq (n : Nat) (h : n < 37) : (ops23[n]'h).dst = dstOf ops23 n := by
  unfold dstOf
  rw [Array.getElem?_eq_getElem (xs := ops23) (i := n) h]; rfl
theorem val_at {Q : Exit → Act → World → Prop} {n : Nat} {K : Act → World → Prop} {a : Act} {w w' : World} {v : Value} (hn : n < 37) (hg : (ops23[n]'hn).guard = none)
    (hrun : (execOp a.eval (ops23[n]'hn)).run Tryz.prog w = .ok (.value v) w') (hK : K (a.put (dstOf ops23 n) v) w') : wpOp Tryz.prog ops23 Q n K a w := by
  refine step_val _ (Array.getElem?_eq_getElem hn) hg hrun ?_
  rw [dstEq n hn]; exact hK
theorem call_at {Q : Exit → Act → World → Prop} {n : Nat} {K : Act → World → Prop} {a : Act} {w : World} {f : Nat} {args : Array Value} (hn : n < 37) (hg : (ops23[n]'hn).guard = none)
    (hrun : (execOp a.eval (ops23[n]'hn)).run Tryz.prog w = .ok (.enter f args) w) (hK : Calls Tryz.prog f args w fun e w' => ∃ v, e = .returned v ∧ K (a.put (dstOf ops23 n) v) w') : wpOp Tryz.prog ops23 Q n K a w := by
  refine step_call _ (Array.getElem?_eq_getElem hn) hg hrun ?_
  rw [dstEq n hn]; exact hK

set_option maxRecDepth 100000 in
theorem r0 (a : Act) (w : World) {gt ct N : Nat} (e4 : a.tmps.getD 4 undef = .slice (some ⟨gt, 0, none⟩) N ct) : (execOp a.eval (ops23[0]'(by decide))).run Tryz.prog w = .ok (.value (.slice (some ⟨gt, 0, none⟩) N ct)) w := by
  show (execOp a.eval { dst := some 138, op := Op.move (Operand.tmp 4), type := _, pos := _, after := _, guard := _ }).run Tryz.prog w = _
  simp [execOp, Act.eval, go_sem, e4]

set_option maxRecDepth 100000 in
theorem r1 (a : Act) (w : World) {N : Nat} (e7 : a.tmps.getD 7 undef = .int .i64 N) : (execOp a.eval (ops23[1]'(by decide))).run Tryz.prog w = .ok (.value (.int .i64 N)) w := by
  show (execOp a.eval { dst := some 139, op := Op.move (Operand.tmp 7), type := _, pos := _, after := _, guard := _ }).run Tryz.prog w = _
  simp [execOp, Act.eval, go_sem, e7]

set_option maxRecDepth 100000 in
theorem r2 (a : Act) (w : World) {N L : Nat} (e139 : a.tmps.getD 139 undef = .int .i64 N) (q1 : (N : Int) - 2 = L) (p1 : IntKind.i64.wrap (L : Int) = L) : (execOp a.eval (ops23[2]'(by decide))).run Tryz.prog w = .ok (.value (.int .i64 L)) w := by
  show (execOp a.eval { dst := some 140, op := Op.binOp BinOp.sub 3 (Operand.tmp 139) (Operand.const (Value.int IntKind.i64 2)) 3, type := _, pos := _, after := _, guard := _ }).run Tryz.prog w = _
  simp [execOp, Act.eval, go_sem, e139, q1, p1]

set_option maxRecDepth 100000 in
theorem r3 (a : Act) (w : World) {gt ct N : Nat} (e4 : a.tmps.getD 4 undef = .slice (some ⟨gt, 0, none⟩) N ct) : (execOp a.eval (ops23[3]'(by decide))).run Tryz.prog w = .ok (.value (.slice (some ⟨gt, 0, none⟩) N ct)) w := by
  show (execOp a.eval { dst := some 141, op := Op.move (Operand.tmp 4), type := _, pos := _, after := _, guard := _ }).run Tryz.prog w = _
  simp [execOp, Act.eval, go_sem, e4]

set_option maxRecDepth 100000 in
theorem r4 (a : Act) (w : World) {N : Nat} (e7 : a.tmps.getD 7 undef = .int .i64 N) : (execOp a.eval (ops23[4]'(by decide))).run Tryz.prog w = .ok (.value (.int .i64 N)) w := by
  show (execOp a.eval { dst := some 142, op := Op.move (Operand.tmp 7), type := _, pos := _, after := _, guard := _ }).run Tryz.prog w = _
  simp [execOp, Act.eval, go_sem, e7]

set_option maxRecDepth 100000 in
theorem r5 (a : Act) (w : World) {N L : Nat} (e142 : a.tmps.getD 142 undef = .int .i64 N) (q1 : (N : Int) - 2 = L) (p1 : IntKind.i64.wrap (L : Int) = L) : (execOp a.eval (ops23[5]'(by decide))).run Tryz.prog w = .ok (.value (.int .i64 L)) w := by
  show (execOp a.eval { dst := some 143, op := Op.binOp BinOp.sub 3 (Operand.tmp 142) (Operand.const (Value.int IntKind.i64 2)) 3, type := _, pos := _, after := _, guard := _ }).run Tryz.prog w = _
  simp [execOp, Act.eval, go_sem, e142, q1, p1]

set_option maxRecDepth 100000 in
theorem r6 (a : Act) (w : World) {gt ct N L : Nat} (e141 : a.tmps.getD 141 undef = .slice (some ⟨gt, 0, none⟩) N ct) (e143 : a.tmps.getD 143 undef = .int .i64 L) (q3 : (L : Int) < N) (q5 : L < N) : (execOp a.eval (ops23[6]'(by decide))).run Tryz.prog w = .ok (.value (.pointer (some ⟨gt, L, none⟩))) w := by
  show (execOp a.eval { dst := some 144, op := Op.indexAddr 28 (Operand.tmp 141) (Operand.tmp 143), type := _, pos := _, after := _, guard := _ }).run Tryz.prog w = _
  simp [execOp, Act.eval, go_sem, e141, e143, q3, q5]

set_option maxRecDepth 100000 in
theorem r7 (a : Act) (w : World) {gt L : Nat} {t1 : ByteArray} (e144 : a.tmps.getD 144 undef = .pointer (some ⟨gt, L, none⟩)) (c1 : w.cell? ⟨gt, L, none⟩ = some (.string t1)) : (execOp a.eval (ops23[7]'(by decide))).run Tryz.prog w = .ok (.value (.string t1)) w := by
  show (execOp a.eval { dst := some 145, op := Op.load 9 (Operand.tmp 144), type := _, pos := _, after := _, guard := _ }).run Tryz.prog w = _
  simp [execOp, Act.eval, go_sem, e144, c1]

set_option maxRecDepth 100000 in
theorem r8 (a : Act) (w : World) {gl cl N : Nat} (e5 : a.tmps.getD 5 undef = .slice (some ⟨gl, 0, none⟩) N cl) : (execOp a.eval (ops23[8]'(by decide))).run Tryz.prog w = .ok (.value (.slice (some ⟨gl, 0, none⟩) N cl)) w := by
  show (execOp a.eval { dst := some 146, op := Op.move (Operand.tmp 5), type := _, pos := _, after := _, guard := _ }).run Tryz.prog w = _
  simp [execOp, Act.eval, go_sem, e5]

set_option maxRecDepth 100000 in
theorem r9 (a : Act) (w : World) {N : Nat} (e7 : a.tmps.getD 7 undef = .int .i64 N) : (execOp a.eval (ops23[9]'(by decide))).run Tryz.prog w = .ok (.value (.int .i64 N)) w := by
  show (execOp a.eval { dst := some 147, op := Op.move (Operand.tmp 7), type := _, pos := _, after := _, guard := _ }).run Tryz.prog w = _
  simp [execOp, Act.eval, go_sem, e7]

set_option maxRecDepth 100000 in
theorem r10 (a : Act) (w : World) {N L : Nat} (e147 : a.tmps.getD 147 undef = .int .i64 N) (q1 : (N : Int) - 2 = L) (p1 : IntKind.i64.wrap (L : Int) = L) : (execOp a.eval (ops23[10]'(by decide))).run Tryz.prog w = .ok (.value (.int .i64 L)) w := by
  show (execOp a.eval { dst := some 148, op := Op.binOp BinOp.sub 3 (Operand.tmp 147) (Operand.const (Value.int IntKind.i64 2)) 3, type := _, pos := _, after := _, guard := _ }).run Tryz.prog w = _
  simp [execOp, Act.eval, go_sem, e147, q1, p1]

set_option maxRecDepth 100000 in
theorem r11 (a : Act) (w : World) {gl cl N L : Nat} (e146 : a.tmps.getD 146 undef = .slice (some ⟨gl, 0, none⟩) N cl) (e148 : a.tmps.getD 148 undef = .int .i64 L) (q3 : (L : Int) < N) (q5 : L < N) : (execOp a.eval (ops23[11]'(by decide))).run Tryz.prog w = .ok (.value (.pointer (some ⟨gl, L, none⟩))) w := by
  show (execOp a.eval { dst := some 149, op := Op.indexAddr 41 (Operand.tmp 146) (Operand.tmp 148), type := _, pos := _, after := _, guard := _ }).run Tryz.prog w = _
  simp [execOp, Act.eval, go_sem, e146, e148, q3, q5]

set_option maxRecDepth 100000 in
theorem r12 (a : Act) (w : World) {gl L : Nat} {l1 : Int} (e149 : a.tmps.getD 149 undef = .pointer (some ⟨gl, L, none⟩)) (d1 : w.cell? ⟨gl, L, none⟩ = some (.int .i64 l1)) : (execOp a.eval (ops23[12]'(by decide))).run Tryz.prog w = .ok (.value (.int .i64 l1)) w := by
  show (execOp a.eval { dst := some 150, op := Op.load 3 (Operand.tmp 149), type := _, pos := _, after := _, guard := _ }).run Tryz.prog w = _
  simp [execOp, Act.eval, go_sem, e149, d1]

set_option maxRecDepth 100000 in
theorem r13 (a : Act) (w : World) {lv : Int} (e10 : a.tmps.getD 10 undef = .int .i64 lv) : (execOp a.eval (ops23[13]'(by decide))).run Tryz.prog w = .ok (.value (.int .i64 lv)) w := by
  show (execOp a.eval { dst := some 151, op := Op.move (Operand.tmp 10), type := _, pos := _, after := _, guard := _ }).run Tryz.prog w = _
  simp [execOp, Act.eval, go_sem, e10]

set_option maxRecDepth 100000 in
theorem r14 (a : Act) (w : World) {t1 : ByteArray} {l1 lv : Int} (e145 : a.tmps.getD 145 undef = .string t1) (e150 : a.tmps.getD 150 undef = .int .i64 l1) (e151 : a.tmps.getD 151 undef = .int .i64 lv) : (execOp a.eval (ops23[14]'(by decide))).run Tryz.prog w = .ok (.enter 248 #[.string t1, .int .i64 l1, .int .i64 lv]) w := by
  show (execOp a.eval { dst := some 152, op := Op.call { callee := Callee.value (Operand.func 248), args := #[Operand.tmp 145, Operand.tmp 150, Operand.tmp 151], argTypes := _ }, type := _, pos := _, after := _, guard := _ }).run Tryz.prog w = _
  simp [execOp, Act.eval, go_sem, e145, e150, e151, resolve, invoke]

set_option maxRecDepth 100000 in
theorem r15 (a : Act) (w : World)  : (execOp a.eval (ops23[15]'(by decide))).run Tryz.prog w = .ok (.enter 202 #[]) w := by
  show (execOp a.eval { dst := some 153, op := Op.call { callee := Callee.value (Operand.func 202), args := #[], argTypes := _ }, type := _, pos := _, after := _, guard := _ }).run Tryz.prog w = _
  simp [execOp, Act.eval, go_sem, resolve, invoke]

set_option maxRecDepth 100000 in
theorem r16 (a : Act) (w : World) {x : Nat} (e8 : a.tmps.getD 8 undef = .pointer (some ⟨x, 0, none⟩)) : (execOp a.eval (ops23[16]'(by decide))).run Tryz.prog w = .ok (.value (.pointer (some ⟨x, 0, none⟩))) w := by
  show (execOp a.eval { dst := some 154, op := Op.fieldAddr 121 (Operand.tmp 8) 0, type := _, pos := _, after := _, guard := _ }).run Tryz.prog w = _
  simp [execOp, Act.eval, go_sem, e8]

set_option maxRecDepth 100000 in
theorem r17 (a : Act) (w : World) {x k : Nat} (e154 : a.tmps.getD 154 undef = .pointer (some ⟨x, 0, none⟩)) (ck : w.cell? ⟨x, 0, none⟩ = some (.int .i64 k)) : (execOp a.eval (ops23[17]'(by decide))).run Tryz.prog w = .ok (.value (.int .i64 k)) w := by
  show (execOp a.eval { dst := some 155, op := Op.load 3 (Operand.tmp 154), type := _, pos := _, after := _, guard := _ }).run Tryz.prog w = _
  simp [execOp, Act.eval, go_sem, e154, ck]

set_option maxRecDepth 100000 in
theorem r18 (a : Act) (w : World) {q k : Nat} (e153 : a.tmps.getD 153 undef = .slice (some ⟨q, 0, none⟩) 14 14) (e155 : a.tmps.getD 155 undef = .int .i64 k) (hk14 : (k : Int) < 14) (hk14n : k < 14) : (execOp a.eval (ops23[18]'(by decide))).run Tryz.prog w = .ok (.value (.pointer (some ⟨q, k, none⟩))) w := by
  show (execOp a.eval { dst := some 156, op := Op.indexAddr 28 (Operand.tmp 153) (Operand.tmp 155), type := _, pos := _, after := _, guard := _ }).run Tryz.prog w = _
  simp [execOp, Act.eval, go_sem, e153, e155, hk14, hk14n]

set_option maxRecDepth 100000 in
theorem r19 (a : Act) (w : World) {q k : Nat} (e156 : a.tmps.getD 156 undef = .pointer (some ⟨q, k, none⟩)) (cs : w.cell? ⟨q, k, none⟩ = some (.string (sg k))) : (execOp a.eval (ops23[19]'(by decide))).run Tryz.prog w = .ok (.value (.string (sg k))) w := by
  show (execOp a.eval { dst := some 157, op := Op.load 9 (Operand.tmp 156), type := _, pos := _, after := _, guard := _ }).run Tryz.prog w = _
  simp [execOp, Act.eval, go_sem, e156, cs]

set_option maxRecDepth 100000 in
theorem r20 (a : Act) (w : World) {k : Nat} {t1 : ByteArray} {l1 lv : Int} (e152 : a.tmps.getD 152 undef = .string (boundM t1 l1 lv)) (e157 : a.tmps.getD 157 undef = .string (sg k)) (y1 : (boundM t1 l1 lv).size + (sg k).size ≤ 9223372036854775807) : (execOp a.eval (ops23[20]'(by decide))).run Tryz.prog w = .ok (.value (.string (boundM t1 l1 lv ++ sg k))) w := by
  show (execOp a.eval { dst := some 158, op := Op.binOp BinOp.add 9 (Operand.tmp 152) (Operand.tmp 157) 9, type := _, pos := _, after := _, guard := _ }).run Tryz.prog w = _
  simp [execOp, Act.eval, go_sem, e152, e157, y1]

set_option maxRecDepth 100000 in
theorem r21 (a : Act) (w : World) {gt ct N : Nat} (e4 : a.tmps.getD 4 undef = .slice (some ⟨gt, 0, none⟩) N ct) : (execOp a.eval (ops23[21]'(by decide))).run Tryz.prog w = .ok (.value (.slice (some ⟨gt, 0, none⟩) N ct)) w := by
  show (execOp a.eval { dst := some 159, op := Op.move (Operand.tmp 4), type := _, pos := _, after := _, guard := _ }).run Tryz.prog w = _
  simp [execOp, Act.eval, go_sem, e4]

set_option maxRecDepth 100000 in
theorem r22 (a : Act) (w : World) {N : Nat} (e7 : a.tmps.getD 7 undef = .int .i64 N) : (execOp a.eval (ops23[22]'(by decide))).run Tryz.prog w = .ok (.value (.int .i64 N)) w := by
  show (execOp a.eval { dst := some 160, op := Op.move (Operand.tmp 7), type := _, pos := _, after := _, guard := _ }).run Tryz.prog w = _
  simp [execOp, Act.eval, go_sem, e7]

set_option maxRecDepth 100000 in
theorem r23 (a : Act) (w : World) {N M : Nat} (e160 : a.tmps.getD 160 undef = .int .i64 N) (q2 : (N : Int) - 1 = M) (p2 : IntKind.i64.wrap (M : Int) = M) : (execOp a.eval (ops23[23]'(by decide))).run Tryz.prog w = .ok (.value (.int .i64 M)) w := by
  show (execOp a.eval { dst := some 161, op := Op.binOp BinOp.sub 3 (Operand.tmp 160) (Operand.const (Value.int IntKind.i64 1)) 3, type := _, pos := _, after := _, guard := _ }).run Tryz.prog w = _
  simp [execOp, Act.eval, go_sem, e160, q2, p2]

set_option maxRecDepth 100000 in
theorem r24 (a : Act) (w : World) {gt ct N M : Nat} (e159 : a.tmps.getD 159 undef = .slice (some ⟨gt, 0, none⟩) N ct) (e161 : a.tmps.getD 161 undef = .int .i64 M) (q4 : (M : Int) < N) (q6 : M < N) : (execOp a.eval (ops23[24]'(by decide))).run Tryz.prog w = .ok (.value (.pointer (some ⟨gt, M, none⟩))) w := by
  show (execOp a.eval { dst := some 162, op := Op.indexAddr 28 (Operand.tmp 159) (Operand.tmp 161), type := _, pos := _, after := _, guard := _ }).run Tryz.prog w = _
  simp [execOp, Act.eval, go_sem, e159, e161, q4, q6]

set_option maxRecDepth 100000 in
theorem r25 (a : Act) (w : World) {gt M : Nat} {t2 : ByteArray} (e162 : a.tmps.getD 162 undef = .pointer (some ⟨gt, M, none⟩)) (c2 : w.cell? ⟨gt, M, none⟩ = some (.string t2)) : (execOp a.eval (ops23[25]'(by decide))).run Tryz.prog w = .ok (.value (.string t2)) w := by
  show (execOp a.eval { dst := some 163, op := Op.load 9 (Operand.tmp 162), type := _, pos := _, after := _, guard := _ }).run Tryz.prog w = _
  simp [execOp, Act.eval, go_sem, e162, c2]

set_option maxRecDepth 100000 in
theorem r26 (a : Act) (w : World) {gl cl N : Nat} (e5 : a.tmps.getD 5 undef = .slice (some ⟨gl, 0, none⟩) N cl) : (execOp a.eval (ops23[26]'(by decide))).run Tryz.prog w = .ok (.value (.slice (some ⟨gl, 0, none⟩) N cl)) w := by
  show (execOp a.eval { dst := some 164, op := Op.move (Operand.tmp 5), type := _, pos := _, after := _, guard := _ }).run Tryz.prog w = _
  simp [execOp, Act.eval, go_sem, e5]

set_option maxRecDepth 100000 in
theorem r27 (a : Act) (w : World) {N : Nat} (e7 : a.tmps.getD 7 undef = .int .i64 N) : (execOp a.eval (ops23[27]'(by decide))).run Tryz.prog w = .ok (.value (.int .i64 N)) w := by
  show (execOp a.eval { dst := some 165, op := Op.move (Operand.tmp 7), type := _, pos := _, after := _, guard := _ }).run Tryz.prog w = _
  simp [execOp, Act.eval, go_sem, e7]

set_option maxRecDepth 100000 in
theorem r28 (a : Act) (w : World) {N M : Nat} (e165 : a.tmps.getD 165 undef = .int .i64 N) (q2 : (N : Int) - 1 = M) (p2 : IntKind.i64.wrap (M : Int) = M) : (execOp a.eval (ops23[28]'(by decide))).run Tryz.prog w = .ok (.value (.int .i64 M)) w := by
  show (execOp a.eval { dst := some 166, op := Op.binOp BinOp.sub 3 (Operand.tmp 165) (Operand.const (Value.int IntKind.i64 1)) 3, type := _, pos := _, after := _, guard := _ }).run Tryz.prog w = _
  simp [execOp, Act.eval, go_sem, e165, q2, p2]

set_option maxRecDepth 100000 in
theorem r29 (a : Act) (w : World) {gl cl N M : Nat} (e164 : a.tmps.getD 164 undef = .slice (some ⟨gl, 0, none⟩) N cl) (e166 : a.tmps.getD 166 undef = .int .i64 M) (q4 : (M : Int) < N) (q6 : M < N) : (execOp a.eval (ops23[29]'(by decide))).run Tryz.prog w = .ok (.value (.pointer (some ⟨gl, M, none⟩))) w := by
  show (execOp a.eval { dst := some 167, op := Op.indexAddr 41 (Operand.tmp 164) (Operand.tmp 166), type := _, pos := _, after := _, guard := _ }).run Tryz.prog w = _
  simp [execOp, Act.eval, go_sem, e164, e166, q4, q6]

set_option maxRecDepth 100000 in
theorem r30 (a : Act) (w : World) {gl M : Nat} {l2 : Int} (e167 : a.tmps.getD 167 undef = .pointer (some ⟨gl, M, none⟩)) (d2 : w.cell? ⟨gl, M, none⟩ = some (.int .i64 l2)) : (execOp a.eval (ops23[30]'(by decide))).run Tryz.prog w = .ok (.value (.int .i64 l2)) w := by
  show (execOp a.eval { dst := some 168, op := Op.load 3 (Operand.tmp 167), type := _, pos := _, after := _, guard := _ }).run Tryz.prog w = _
  simp [execOp, Act.eval, go_sem, e167, d2]

set_option maxRecDepth 100000 in
theorem r31 (a : Act) (w : World) {lv : Int} (e10 : a.tmps.getD 10 undef = .int .i64 lv) : (execOp a.eval (ops23[31]'(by decide))).run Tryz.prog w = .ok (.value (.int .i64 lv)) w := by
  show (execOp a.eval { dst := some 169, op := Op.move (Operand.tmp 10), type := _, pos := _, after := _, guard := _ }).run Tryz.prog w = _
  simp [execOp, Act.eval, go_sem, e10]

set_option maxRecDepth 100000 in
theorem r32 (a : Act) (w : World) {lv : Int} (e169 : a.tmps.getD 169 undef = .int .i64 lv) (p3 : IntKind.i64.wrap (lv + 1) = lv + 1) : (execOp a.eval (ops23[32]'(by decide))).run Tryz.prog w = .ok (.value (.int .i64 (lv + 1))) w := by
  show (execOp a.eval { dst := some 170, op := Op.binOp BinOp.add 3 (Operand.tmp 169) (Operand.const (Value.int IntKind.i64 1)) 3, type := _, pos := _, after := _, guard := _ }).run Tryz.prog w = _
  simp [execOp, Act.eval, go_sem, e169, p3]

set_option maxRecDepth 100000 in
theorem r33 (a : Act) (w : World) {t2 : ByteArray} {l2 lv : Int} (e163 : a.tmps.getD 163 undef = .string t2) (e168 : a.tmps.getD 168 undef = .int .i64 l2) (e170 : a.tmps.getD 170 undef = .int .i64 (lv + 1)) : (execOp a.eval (ops23[33]'(by decide))).run Tryz.prog w = .ok (.enter 248 #[.string t2, .int .i64 l2, .int .i64 (lv + 1)]) w := by
  show (execOp a.eval { dst := some 171, op := Op.call { callee := Callee.value (Operand.func 248), args := #[Operand.tmp 163, Operand.tmp 168, Operand.tmp 170], argTypes := _ }, type := _, pos := _, after := _, guard := _ }).run Tryz.prog w = _
  simp [execOp, Act.eval, go_sem, e163, e168, e170, resolve, invoke]

set_option maxRecDepth 100000 in
theorem r34 (a : Act) (w : World) {k : Nat} {t1 t2 : ByteArray} {l1 l2 lv : Int} (e158 : a.tmps.getD 158 undef = .string (boundM t1 l1 lv ++ sg k)) (e171 : a.tmps.getD 171 undef = .string (boundM t2 l2 (lv + 1))) (y2 : (boundM t1 l1 lv).size + (sg k).size + (boundM t2 l2 (lv + 1)).size ≤ 9223372036854775807) : (execOp a.eval (ops23[34]'(by decide))).run Tryz.prog w = .ok (.value (.string (boundM t1 l1 lv ++ sg k ++ boundM t2 l2 (lv + 1)))) w := by
  show (execOp a.eval { dst := some 172, op := Op.binOp BinOp.add 9 (Operand.tmp 158) (Operand.tmp 171) 9, type := _, pos := _, after := _, guard := _ }).run Tryz.prog w = _
  simp [execOp, Act.eval, go_sem, e158, e171, y2]

set_option maxRecDepth 100000 in
theorem r35 (a : Act) (w : World) {gt ct N L : Nat} (e138 : a.tmps.getD 138 undef = .slice (some ⟨gt, 0, none⟩) N ct) (e140 : a.tmps.getD 140 undef = .int .i64 L) (q3 : (L : Int) < N) (q5 : L < N) : (execOp a.eval (ops23[35]'(by decide))).run Tryz.prog w = .ok (.value (.pointer (some ⟨gt, L, none⟩))) w := by
  show (execOp a.eval { dst := some 173, op := Op.indexAddr 28 (Operand.tmp 138) (Operand.tmp 140), type := _, pos := _, after := _, guard := _ }).run Tryz.prog w = _
  simp [execOp, Act.eval, go_sem, e138, e140, q3, q5]

set_option maxRecDepth 100000 in
theorem r36 (a : Act) (w : World) {gt L : Nat} {y t0 : ByteArray} (e172 : a.tmps.getD 172 undef = .string y) (e173 : a.tmps.getD 173 undef = .pointer (some ⟨gt, L, none⟩)) (c1 : w.cell? ⟨gt, L, none⟩ = some (.string t0)) (fz : w.frozen? ⟨gt, L, none⟩ = false) :
    (execOp a.eval (ops23[36]'(by decide))).run Tryz.prog w = .ok .skip (w.setCell ⟨gt, L, none⟩ (.string y)) := by
  show (execOp a.eval { dst := none, op := Op.store 9 (Operand.tmp 173) (Operand.tmp 172), type := _, pos := _, after := _, guard := _ }).run Tryz.prog w = _
  simp [execOp, Act.eval, go_sem, e172, e173, c1, fz]

set_option maxHeartbeats 1600000 in
set_option maxRecDepth 100000 in
theorem region23 (Q : Exit → Act → World → Prop) (a0 : Act) (w : World) (gt ct gl cl N L M x k : Nat) (t1 t2 : ByteArray) (l1 l2 lv : Int)
    (hz : a0.tmps.size = 193) (s4 : a0.tmps.getD 4 undef = .slice (some ⟨gt, 0, none⟩) N ct) (s5 : a0.tmps.getD 5 undef = .slice (some ⟨gl, 0, none⟩) N cl) (s7 : a0.tmps.getD 7 undef = .int .i64 N)
    (s8 : a0.tmps.getD 8 undef = .pointer (some ⟨x, 0, none⟩)) (s10 : a0.tmps.getD 10 undef = .int .i64 lv) (hN : N = L + 2) (hM : M = L + 1) (hN24 : N ≤ 24) (hlv : 1 ≤ lv ∧ lv ≤ 5) (hk : 5 ≤ k ∧ k ≤ 13) (z1 : t1.size ≤ 1000) (z2 : t2.size ≤ 1000)
    (c1 : w.cell? ⟨gt, L, none⟩ = some (.string t1)) (c2 : w.cell? ⟨gt, M, none⟩ = some (.string t2)) (d1 : w.cell? ⟨gl, L, none⟩ = some (.int .i64 l1)) (d2 : w.cell? ⟨gl, M, none⟩ = some (.int .i64 l2))
    (ck : w.cell? ⟨x, 0, none⟩ = some (.int .i64 k)) (fz : w.frozen? ⟨gt, L, none⟩ = false)
    (hQ : ∀ w1, Below w.heap.size w w1 → Q .normal (putL ops23 (val23 gt ct gl cl N L M w.heap.size x k t1 t2 l1 l2 lv) (Array.replicate 37 true) a0 37) (w1.setCell ⟨gt, L, none⟩ (.string (boundM t1 l1 lv ++ sg k ++ boundM t2 l2 (lv + 1))))) :
    (Code.region 23 ops23 true).wp Tryz.prog Q a0 w := by
  have b1 : gt < w.heap.size := World.block_lt_of_cell? w _ c1
  have b2 : gl < w.heap.size := World.block_lt_of_cell? w _ d1
  have b3 : x < w.heap.size := World.block_lt_of_cell? w _ ck
  have hbs1 := bound_size t1 l1 lv
  have hbs2 := bound_size t2 l2 (lv + 1)
  have hsg := sg_size k
  have q1 : (N : Int) - 2 = L := by omega
  have q2 : (N : Int) - 1 = M := by omega
  have q3 : (L : Int) < N := by omega
  have q4 : (M : Int) < N := by omega
  have q5 : L < N := by omega
  have q6 : M < N := by omega
  have p1 : IntKind.i64.wrap (L : Int) = L := IntWalk.i64_in _ ⟨by omega, by omega⟩
  have p2 : IntKind.i64.wrap (M : Int) = M := IntWalk.i64_in _ ⟨by omega, by omega⟩
  have p3 : IntKind.i64.wrap (lv + 1) = lv + 1 := IntWalk.i64_in _ ⟨by omega, by omega⟩
  have hk14 : (k : Int) < 14 := by omega
  have hk14n : k < 14 := by omega
  have y1 : (boundM t1 l1 lv).size + (sg k).size ≤ 9223372036854775807 := by omega
  have y2 : (boundM t1 l1 lv).size + (sg k).size + (boundM t2 l2 (lv + 1)).size ≤ 9223372036854775807 := by omega
  obtain ⟨V, hV⟩ : ∃ V, val23 gt ct gl cl N L M w.heap.size x k t1 t2 l1 l2 lv = V := ⟨_, rfl⟩
  rw [hV] at hQ
  refine wp_region_any (by kernel_rfl) ?_
  change wpAny Tryz.prog .any ops23 Q 37 (Array.replicate 37 false) a0 w.drew
  refine wpAny_inv (ops := ops23) (J V a0 w.drew ⟨gt, L, none⟩ (.string (boundM t1 l1 lv ++ sg k ++ boundM t2 l2 (lv + 1)))) (fun _ _ _ h => h.size.trans (by decide)) ?_ ?_ _ _ _ _ (by decide +kernel) (J.start _ _ _ _ _)
  · intro listed a w' i h hi
    obtain ⟨hi1, hi2, hi3⟩ := ready_mem hi
    have hi1 : i < 37 := hi1
    have g := h.get hz
    have gb := h.base
    rcases Nat.lt_or_ge i 36 with hi36 | hi36
    · have hu := h.undone hi36 hi2
      have hb := h.bel hu
      have cc : ∀ b o v, b < w.heap.size → w.cell? ⟨b, o, none⟩ = some v → w'.cell? ⟨b, o, none⟩ = some v := fun b o v h1 h2 => (hb.cell (p := ⟨b, o, none⟩) h1).trans h2
      have hcase : i = 0 ∨ i = 1 ∨ i = 2 ∨ i = 3 ∨ i = 4 ∨ i = 5 ∨ i = 6 ∨ i = 7 ∨ i = 8 ∨ i = 9 ∨ i = 10 ∨ i = 11 ∨ i = 12 ∨ i = 13 ∨ i = 14 ∨ i = 15 ∨ i = 16 ∨ i = 17 ∨ i = 18 ∨ i = 19 ∨ i = 20 ∨ i = 21 ∨ i = 22 ∨ i = 23 ∨ i = 24 ∨ i = 25 ∨ i = 26 ∨ i = 27 ∨ i = 28 ∨ i = 29 ∨ i = 30 ∨ i = 31 ∨ i = 32 ∨ i = 33 ∨ i = 34 ∨ i = 35 := by omega
      rcases hcase with rfl | rfl | rfl | rfl | rfl | rfl | rfl | rfl | rfl | rfl | rfl | rfl | rfl | rfl | rfl | rfl | rfl | rfl | rfl | rfl | rfl | rfl | rfl | rfl | rfl | rfl | rfl | rfl | rfl | rfl | rfl | rfl | rfl | rfl | rfl | rfl
      · have pl := h.plain (i := 0) (by decide) (by decide) hi2 (fun e => absurd e (by decide))
        have hv : V 0 = .slice (some ⟨gt, 0, none⟩) N ct := by rw [← hV]; rfl
        rw [hv] at pl
        exact val_at (n := 0) (by decide) rfl (r0 a w' ((gb 4 (by decide)).trans s4)) pl
      · have pl := h.plain (i := 1) (by decide) (by decide) hi2 (fun e => absurd e (by decide))
        have hv : V 1 = .int .i64 N := by rw [← hV]; rfl
        rw [hv] at pl
        exact val_at (n := 1) (by decide) rfl (r1 a w' ((gb 7 (by decide)).trans s7)) pl
      · have e139 : a.tmps.getD 139 undef = .int .i64 N := (g 1 (by decide) (dep23 hi3 (by decide +kernel))).trans (by rw [← hV]; rfl)
        have pl := h.plain (i := 2) (by decide) (by decide) hi2 (fun e => absurd e (by decide))
        have hv : V 2 = .int .i64 L := by rw [← hV]; rfl
        rw [hv] at pl
        exact val_at (n := 2) (by decide) rfl (r2 a w' e139 q1 p1) pl
      · have pl := h.plain (i := 3) (by decide) (by decide) hi2 (fun e => absurd e (by decide))
        have hv : V 3 = .slice (some ⟨gt, 0, none⟩) N ct := by rw [← hV]; rfl
        rw [hv] at pl
        exact val_at (n := 3) (by decide) rfl (r3 a w' ((gb 4 (by decide)).trans s4)) pl
      · have pl := h.plain (i := 4) (by decide) (by decide) hi2 (fun e => absurd e (by decide))
        have hv : V 4 = .int .i64 N := by rw [← hV]; rfl
        rw [hv] at pl
        exact val_at (n := 4) (by decide) rfl (r4 a w' ((gb 7 (by decide)).trans s7)) pl
      · have e142 : a.tmps.getD 142 undef = .int .i64 N := (g 4 (by decide) (dep23 hi3 (by decide +kernel))).trans (by rw [← hV]; rfl)
        have pl := h.plain (i := 5) (by decide) (by decide) hi2 (fun e => absurd e (by decide))
        have hv : V 5 = .int .i64 L := by rw [← hV]; rfl
        rw [hv] at pl
        exact val_at (n := 5) (by decide) rfl (r5 a w' e142 q1 p1) pl
      · have e141 : a.tmps.getD 141 undef = .slice (some ⟨gt, 0, none⟩) N ct := (g 3 (by decide) (dep23 hi3 (by decide +kernel))).trans (by rw [← hV]; rfl)
        have e143 : a.tmps.getD 143 undef = .int .i64 L := (g 5 (by decide) (dep23 hi3 (by decide +kernel))).trans (by rw [← hV]; rfl)
        have pl := h.plain (i := 6) (by decide) (by decide) hi2 (fun e => absurd e (by decide))
        have hv : V 6 = .pointer (some ⟨gt, L, none⟩) := by rw [← hV]; rfl
        rw [hv] at pl
        exact val_at (n := 6) (by decide) rfl (r6 a w' e141 e143 q3 q5) pl
      · have e144 : a.tmps.getD 144 undef = .pointer (some ⟨gt, L, none⟩) := (g 6 (by decide) (dep23 hi3 (by decide +kernel))).trans (by rw [← hV]; rfl)
        have pl := h.plain (i := 7) (by decide) (by decide) hi2 (fun e => absurd e (by decide))
        have hv : V 7 = .string t1 := by rw [← hV]; rfl
        rw [hv] at pl
        exact val_at (n := 7) (by decide) rfl (r7 a w' e144 (cc _ _ _ b1 c1)) pl
      · have pl := h.plain (i := 8) (by decide) (by decide) hi2 (fun e => absurd e (by decide))
        have hv : V 8 = .slice (some ⟨gl, 0, none⟩) N cl := by rw [← hV]; rfl
        rw [hv] at pl
        exact val_at (n := 8) (by decide) rfl (r8 a w' ((gb 5 (by decide)).trans s5)) pl
      · have pl := h.plain (i := 9) (by decide) (by decide) hi2 (fun e => absurd e (by decide))
        have hv : V 9 = .int .i64 N := by rw [← hV]; rfl
        rw [hv] at pl
        exact val_at (n := 9) (by decide) rfl (r9 a w' ((gb 7 (by decide)).trans s7)) pl
      · have e147 : a.tmps.getD 147 undef = .int .i64 N := (g 9 (by decide) (dep23 hi3 (by decide +kernel))).trans (by rw [← hV]; rfl)
        have pl := h.plain (i := 10) (by decide) (by decide) hi2 (fun e => absurd e (by decide))
        have hv : V 10 = .int .i64 L := by rw [← hV]; rfl
        rw [hv] at pl
        exact val_at (n := 10) (by decide) rfl (r10 a w' e147 q1 p1) pl
      · have e146 : a.tmps.getD 146 undef = .slice (some ⟨gl, 0, none⟩) N cl := (g 8 (by decide) (dep23 hi3 (by decide +kernel))).trans (by rw [← hV]; rfl)
        have e148 : a.tmps.getD 148 undef = .int .i64 L := (g 10 (by decide) (dep23 hi3 (by decide +kernel))).trans (by rw [← hV]; rfl)
        have pl := h.plain (i := 11) (by decide) (by decide) hi2 (fun e => absurd e (by decide))
        have hv : V 11 = .pointer (some ⟨gl, L, none⟩) := by rw [← hV]; rfl
        rw [hv] at pl
        exact val_at (n := 11) (by decide) rfl (r11 a w' e146 e148 q3 q5) pl
      · have e149 : a.tmps.getD 149 undef = .pointer (some ⟨gl, L, none⟩) := (g 11 (by decide) (dep23 hi3 (by decide +kernel))).trans (by rw [← hV]; rfl)
        have pl := h.plain (i := 12) (by decide) (by decide) hi2 (fun e => absurd e (by decide))
        have hv : V 12 = .int .i64 l1 := by rw [← hV]; rfl
        rw [hv] at pl
        exact val_at (n := 12) (by decide) rfl (r12 a w' e149 (cc _ _ _ b2 d1)) pl
      · have pl := h.plain (i := 13) (by decide) (by decide) hi2 (fun e => absurd e (by decide))
        have hv : V 13 = .int .i64 lv := by rw [← hV]; rfl
        rw [hv] at pl
        exact val_at (n := 13) (by decide) rfl (r13 a w' ((gb 10 (by decide)).trans s10)) pl
      · have e145 : a.tmps.getD 145 undef = .string t1 := (g 7 (by decide) (dep23 hi3 (by decide +kernel))).trans (by rw [← hV]; rfl)
        have e150 : a.tmps.getD 150 undef = .int .i64 l1 := (g 12 (by decide) (dep23 hi3 (by decide +kernel))).trans (by rw [← hV]; rfl)
        have e151 : a.tmps.getD 151 undef = .int .i64 lv := (g 13 (by decide) (dep23 hi3 (by decide +kernel))).trans (by rw [← hV]; rfl)
        have pl := h.plain (i := 14) (by decide) (by decide) hi2 (fun e => absurd e (by decide))
        have hv : V 14 = .string (boundM t1 l1 lv) := by rw [← hV]; rfl
        rw [hv] at pl
        refine call_at (n := 14) (by decide) rfl (r14 a w' e145 e150 e151) ((l1Bound_any t1 l1 lv w' (by omega)).mono ?_)
        rintro e w1 ⟨rfl, hw1⟩
        rw [hw1]
        exact ⟨_, rfl, pl⟩
      · have h15 : listed.getD 15 false = false := by have hlt : 15 < listed.size := (by rw [h.size]; decide); have h0 : listed[15] = false := (by simpa [Array.getD, hlt] using hi2); simp [Array.getD, hlt, h0]
        obtain rfl := h.w0 h15 hu
        have hv15 : V 15 = .slice (some ⟨w.heap.size, 0, none⟩) 14 14 := by rw [← hV]; rfl
        refine call_at (n := 15) (by decide) rfl (r15 a w.drew) ((l1Signs_any w.drew).mono ?_)
        rintro e w1 ⟨rfl, hb1, hlt1, hc1⟩
        refine ⟨_, rfl, ?_⟩
        have this := h.signs hi2 (w1 := w1) hb1 hc1
        rw [hv15] at this
        exact this
      · have pl := h.plain (i := 16) (by decide) (by decide) hi2 (fun e => absurd e (by decide))
        have hv : V 16 = .pointer (some ⟨x, 0, none⟩) := by rw [← hV]; rfl
        rw [hv] at pl
        exact val_at (n := 16) (by decide) rfl (r16 a w' ((gb 8 (by decide)).trans s8)) pl
      · have e154 : a.tmps.getD 154 undef = .pointer (some ⟨x, 0, none⟩) := (g 16 (by decide) (dep23 hi3 (by decide +kernel))).trans (by rw [← hV]; rfl)
        have pl := h.plain (i := 17) (by decide) (by decide) hi2 (fun e => absurd e (by decide))
        have hv : V 17 = .int .i64 k := by rw [← hV]; rfl
        rw [hv] at pl
        exact val_at (n := 17) (by decide) rfl (r17 a w' e154 (cc _ _ _ b3 ck)) pl
      · have e153 : a.tmps.getD 153 undef = .slice (some ⟨w.heap.size, 0, none⟩) 14 14 := (g 15 (by decide) (dep23 hi3 (by decide +kernel))).trans (by rw [← hV]; rfl)
        have e155 : a.tmps.getD 155 undef = .int .i64 k := (g 17 (by decide) (dep23 hi3 (by decide +kernel))).trans (by rw [← hV]; rfl)
        have pl := h.plain (i := 18) (by decide) (by decide) hi2 (fun _ => dep23 hi3 (by decide +kernel))
        have hv : V 18 = .pointer (some ⟨w.heap.size, k, none⟩) := by rw [← hV]; rfl
        rw [hv] at pl
        exact val_at (n := 18) (by decide) rfl (r18 a w' e153 e155 hk14 hk14n) pl
      · have e156 : a.tmps.getD 156 undef = .pointer (some ⟨w.heap.size, k, none⟩) := (g 18 (by decide) (dep23 hi3 (by decide +kernel))).trans (by rw [← hV]; rfl)
        have pl := h.plain (i := 19) (by decide) (by decide) hi2 (fun e => absurd e (by decide))
        have hv : V 19 = .string (sg k) := by rw [← hV]; rfl
        rw [hv] at pl
        have h15 : listed.getD 15 false = true := h.sgn (dep23 hi3 (by decide +kernel))
        have hcs := (h.w1 h15 hu).2 k hk14n
        exact val_at (n := 19) (by decide) rfl (r19 a w' e156 hcs) pl
      · have e152 : a.tmps.getD 152 undef = .string (boundM t1 l1 lv) := (g 14 (by decide) (dep23 hi3 (by decide +kernel))).trans (by rw [← hV]; rfl)
        have e157 : a.tmps.getD 157 undef = .string (sg k) := (g 19 (by decide) (dep23 hi3 (by decide +kernel))).trans (by rw [← hV]; rfl)
        have pl := h.plain (i := 20) (by decide) (by decide) hi2 (fun e => absurd e (by decide))
        have hv : V 20 = .string (boundM t1 l1 lv ++ sg k) := by rw [← hV]; rfl
        rw [hv] at pl
        exact val_at (n := 20) (by decide) rfl (r20 a w' e152 e157 y1) pl
      · have pl := h.plain (i := 21) (by decide) (by decide) hi2 (fun e => absurd e (by decide))
        have hv : V 21 = .slice (some ⟨gt, 0, none⟩) N ct := by rw [← hV]; rfl
        rw [hv] at pl
        exact val_at (n := 21) (by decide) rfl (r21 a w' ((gb 4 (by decide)).trans s4)) pl
      · have pl := h.plain (i := 22) (by decide) (by decide) hi2 (fun e => absurd e (by decide))
        have hv : V 22 = .int .i64 N := by rw [← hV]; rfl
        rw [hv] at pl
        exact val_at (n := 22) (by decide) rfl (r22 a w' ((gb 7 (by decide)).trans s7)) pl
      · have e160 : a.tmps.getD 160 undef = .int .i64 N := (g 22 (by decide) (dep23 hi3 (by decide +kernel))).trans (by rw [← hV]; rfl)
        have pl := h.plain (i := 23) (by decide) (by decide) hi2 (fun e => absurd e (by decide))
        have hv : V 23 = .int .i64 M := by rw [← hV]; rfl
        rw [hv] at pl
        exact val_at (n := 23) (by decide) rfl (r23 a w' e160 q2 p2) pl
      · have e159 : a.tmps.getD 159 undef = .slice (some ⟨gt, 0, none⟩) N ct := (g 21 (by decide) (dep23 hi3 (by decide +kernel))).trans (by rw [← hV]; rfl)
        have e161 : a.tmps.getD 161 undef = .int .i64 M := (g 23 (by decide) (dep23 hi3 (by decide +kernel))).trans (by rw [← hV]; rfl)
        have pl := h.plain (i := 24) (by decide) (by decide) hi2 (fun e => absurd e (by decide))
        have hv : V 24 = .pointer (some ⟨gt, M, none⟩) := by rw [← hV]; rfl
        rw [hv] at pl
        exact val_at (n := 24) (by decide) rfl (r24 a w' e159 e161 q4 q6) pl
      · have e162 : a.tmps.getD 162 undef = .pointer (some ⟨gt, M, none⟩) := (g 24 (by decide) (dep23 hi3 (by decide +kernel))).trans (by rw [← hV]; rfl)
        have pl := h.plain (i := 25) (by decide) (by decide) hi2 (fun e => absurd e (by decide))
        have hv : V 25 = .string t2 := by rw [← hV]; rfl
        rw [hv] at pl
        exact val_at (n := 25) (by decide) rfl (r25 a w' e162 (cc _ _ _ b1 c2)) pl
      · have pl := h.plain (i := 26) (by decide) (by decide) hi2 (fun e => absurd e (by decide))
        have hv : V 26 = .slice (some ⟨gl, 0, none⟩) N cl := by rw [← hV]; rfl
        rw [hv] at pl
        exact val_at (n := 26) (by decide) rfl (r26 a w' ((gb 5 (by decide)).trans s5)) pl
      · have pl := h.plain (i := 27) (by decide) (by decide) hi2 (fun e => absurd e (by decide))
        have hv : V 27 = .int .i64 N := by rw [← hV]; rfl
        rw [hv] at pl
        exact val_at (n := 27) (by decide) rfl (r27 a w' ((gb 7 (by decide)).trans s7)) pl
      · have e165 : a.tmps.getD 165 undef = .int .i64 N := (g 27 (by decide) (dep23 hi3 (by decide +kernel))).trans (by rw [← hV]; rfl)
        have pl := h.plain (i := 28) (by decide) (by decide) hi2 (fun e => absurd e (by decide))
        have hv : V 28 = .int .i64 M := by rw [← hV]; rfl
        rw [hv] at pl
        exact val_at (n := 28) (by decide) rfl (r28 a w' e165 q2 p2) pl
      · have e164 : a.tmps.getD 164 undef = .slice (some ⟨gl, 0, none⟩) N cl := (g 26 (by decide) (dep23 hi3 (by decide +kernel))).trans (by rw [← hV]; rfl)
        have e166 : a.tmps.getD 166 undef = .int .i64 M := (g 28 (by decide) (dep23 hi3 (by decide +kernel))).trans (by rw [← hV]; rfl)
        have pl := h.plain (i := 29) (by decide) (by decide) hi2 (fun e => absurd e (by decide))
        have hv : V 29 = .pointer (some ⟨gl, M, none⟩) := by rw [← hV]; rfl
        rw [hv] at pl
        exact val_at (n := 29) (by decide) rfl (r29 a w' e164 e166 q4 q6) pl
      · have e167 : a.tmps.getD 167 undef = .pointer (some ⟨gl, M, none⟩) := (g 29 (by decide) (dep23 hi3 (by decide +kernel))).trans (by rw [← hV]; rfl)
        have pl := h.plain (i := 30) (by decide) (by decide) hi2 (fun e => absurd e (by decide))
        have hv : V 30 = .int .i64 l2 := by rw [← hV]; rfl
        rw [hv] at pl
        exact val_at (n := 30) (by decide) rfl (r30 a w' e167 (cc _ _ _ b2 d2)) pl
      · have pl := h.plain (i := 31) (by decide) (by decide) hi2 (fun e => absurd e (by decide))
        have hv : V 31 = .int .i64 lv := by rw [← hV]; rfl
        rw [hv] at pl
        exact val_at (n := 31) (by decide) rfl (r31 a w' ((gb 10 (by decide)).trans s10)) pl
      · have e169 : a.tmps.getD 169 undef = .int .i64 lv := (g 31 (by decide) (dep23 hi3 (by decide +kernel))).trans (by rw [← hV]; rfl)
        have pl := h.plain (i := 32) (by decide) (by decide) hi2 (fun e => absurd e (by decide))
        have hv : V 32 = .int .i64 (lv + 1) := by rw [← hV]; rfl
        rw [hv] at pl
        exact val_at (n := 32) (by decide) rfl (r32 a w' e169 p3) pl
      · have e163 : a.tmps.getD 163 undef = .string t2 := (g 25 (by decide) (dep23 hi3 (by decide +kernel))).trans (by rw [← hV]; rfl)
        have e168 : a.tmps.getD 168 undef = .int .i64 l2 := (g 30 (by decide) (dep23 hi3 (by decide +kernel))).trans (by rw [← hV]; rfl)
        have e170 : a.tmps.getD 170 undef = .int .i64 (lv + 1) := (g 32 (by decide) (dep23 hi3 (by decide +kernel))).trans (by rw [← hV]; rfl)
        have pl := h.plain (i := 33) (by decide) (by decide) hi2 (fun e => absurd e (by decide))
        have hv : V 33 = .string (boundM t2 l2 (lv + 1)) := by rw [← hV]; rfl
        rw [hv] at pl
        refine call_at (n := 33) (by decide) rfl (r33 a w' e163 e168 e170) ((l1Bound_any t2 l2 (lv + 1) w' (by omega)).mono ?_)
        rintro e w1 ⟨rfl, hw1⟩
        rw [hw1]
        exact ⟨_, rfl, pl⟩
      · have e158 : a.tmps.getD 158 undef = .string (boundM t1 l1 lv ++ sg k) := (g 20 (by decide) (dep23 hi3 (by decide +kernel))).trans (by rw [← hV]; rfl)
        have e171 : a.tmps.getD 171 undef = .string (boundM t2 l2 (lv + 1)) := (g 33 (by decide) (dep23 hi3 (by decide +kernel))).trans (by rw [← hV]; rfl)
        have pl := h.plain (i := 34) (by decide) (by decide) hi2 (fun e => absurd e (by decide))
        have hv : V 34 = .string (boundM t1 l1 lv ++ sg k ++ boundM t2 l2 (lv + 1)) := by rw [← hV]; rfl
        rw [hv] at pl
        exact val_at (n := 34) (by decide) rfl (r34 a w' e158 e171 y2) pl
      · have e138 : a.tmps.getD 138 undef = .slice (some ⟨gt, 0, none⟩) N ct := (g 0 (by decide) (dep23 hi3 (by decide +kernel))).trans (by rw [← hV]; rfl)
        have e140 : a.tmps.getD 140 undef = .int .i64 L := (g 2 (by decide) (dep23 hi3 (by decide +kernel))).trans (by rw [← hV]; rfl)
        have pl := h.plain (i := 35) (by decide) (by decide) hi2 (fun e => absurd e (by decide))
        have hv : V 35 = .pointer (some ⟨gt, L, none⟩) := by rw [← hV]; rfl
        rw [hv] at pl
        exact val_at (n := 35) (by decide) rfl (r35 a w' e138 e140 q3 q5) pl
    · have hi : i = 36 := by omega
      subst hi
      have hall : ∀ j, j < 36 → listed.getD j false = true := by
        have key : ∀ j : Fin 36, ((ops23[36]?).map fun o => o.after.any fun e => (e.on == j.val) && Region.binds .any e).getD false = true := by decide +kernel
        exact fun j hj => dep23 hi3 (key ⟨j, hj⟩)
      have hlt : 36 < listed.size := by rw [h.size]; decide
      have hu : listed.getD 36 false = false := by
        have : listed[36] = false := by simpa [Array.getD, hlt] using hi2
        simp [Array.getD, hlt, this]
      have hb := h.bel hu
      have e172 : a.tmps.getD 172 undef = .string (boundM t1 l1 lv ++ sg k ++ boundM t2 l2 (lv + 1)) := (g 34 (by decide) (hall 34 (by decide))).trans (by rw [← hV]; rfl)
      have e173 : a.tmps.getD 173 undef = .pointer (some ⟨gt, L, none⟩) := (g 35 (by decide) (hall 35 (by decide))).trans (by rw [← hV]; rfl)
      refine step_skip (ops23[36]'(by decide)) (Array.getElem?_eq_getElem _) rfl (r36 a w' e172 e173 ((hb.cell (p := ⟨gt, L, none⟩) b1).trans c1) ((hb.frozen (p := ⟨gt, L, none⟩) b1).trans fz)) ?_
      exact h.store hi2 hall
  · intro listed a w' h hr
    have hall : ∀ j, j < 37 → listed.getD j false = true := all_listed h.size back23 hr
    obtain ⟨w1, hb, hw⟩ := h.w2 (hall 36 (by decide))
    rw [hw, h.act, putL_congr 37 (l' := Array.replicate 37 true) (fun j hj => by rw [hall j hj]; simp [Array.getD_eq_getD_getElem?, hj])]
    exact hQ w1 ⟨hb.os, hb.tape, hb.output, hb.size, hb.block⟩
end Go.Proofs.YtchemhjcknkbgaaGreatDoor
