/- The greatest statement of the model's l1Show: two texts and a sign become one; its operations may come up in many orders. -/
import Derived.Test.YtcajjngjojegfaaGreatDoorParShow
import Derived.Test.YtcajjngjojegfaaGreatDoorRegionPut
namespace Go.Proofs.YtcajjngjojegfaaGreatDoor
open Go Go.RowKit Go.PlainAid
set_option linter.unusedSimpArgs false
set_option linter.unusedVariables false

/-- an operation that yields its value -/
theorem step_val {P : Program} {ops : Array Oper} {Q : Exit → Act → World → Prop} {i : Nat} {K : Act → World → Prop} {a : Act} {w w' : World} {v : Value} (o : Oper) (ho : ops[i]? = some o) (hg : o.guard = none)
    (hrun : (execOp a.eval o).run P w = .ok (.value v) w') (hK : K (a.put o.dst v) w') : wpOp P ops Q i K a w := by
  unfold wpOp
  rw [ho]
  have hw : Region.wanted o (yielded ops a.tmps) = true := by simp [Region.wanted, hg]
  simp only [hw, if_true]
  left
  unfold Oper.wp
  rw [hrun]
  exact hK
theorem step_skip {P : Program} {ops : Array Oper} {Q : Exit → Act → World → Prop} {i : Nat} {K : Act → World → Prop} {a : Act} {w w' : World} (o : Oper) (ho : ops[i]? = some o) (hg : o.guard = none)
    (hrun : (execOp a.eval o).run P w = .ok .skip w') (hK : K (a.put o.dst undef) w') : wpOp P ops Q i K a w := by
  unfold wpOp
  rw [ho]
  have hw : Region.wanted o (yielded ops a.tmps) = true := by simp [Region.wanted, hg]
  simp only [hw, if_true]
  left
  unfold Oper.wp
  rw [hrun]
  exact hK
theorem step_call {P : Program} {ops : Array Oper} {Q : Exit → Act → World → Prop} {i : Nat} {K : Act → World → Prop} {a : Act} {w : World} {f : Nat} {args : Array Value} (o : Oper) (ho : ops[i]? = some o) (hg : o.guard = none)
    (hrun : (execOp a.eval o).run P w = .ok (.enter f args) w) (hK : Calls P f args w fun e w' => ∃ v, e = .returned v ∧ K (a.put o.dst v) w') : wpOp P ops Q i K a w := by
  unfold wpOp
  rw [ho]
  have hw : Region.wanted o (yielded ops a.tmps) = true := by simp [Region.wanted, hg]
  simp only [hw, if_true]
  left
  unfold Oper.wp
  rw [hrun]
  refine Calls.mono hK fun e w' he => ?_
  obtain ⟨v, rfl, hk⟩ := he
  exact hk

def ops23 : Array Oper := #[
  { dst := some 138, op := Op.move (Operand.tmp 4), type := 31, pos := "l1_expr.go:269", after := #[], guard := none },
  { dst := some 139, op := Op.move (Operand.tmp 7), type := 3, pos := "l1_expr.go:269", after := #[], guard := none },
  { dst := some 140, op := Op.binOp BinOp.sub 3 (Operand.tmp 139) (Operand.const (Value.int IntKind.i64 2)) 3, type := 3, pos := "l1_expr.go:269", after := #[{ on := 1, ground := Ground.data }], guard := none },
  { dst := some 141, op := Op.move (Operand.tmp 4), type := 31, pos := "l1_expr.go:269", after := #[], guard := none },
  { dst := some 142, op := Op.move (Operand.tmp 7), type := 3, pos := "l1_expr.go:269", after := #[], guard := none },
  { dst := some 143, op := Op.binOp BinOp.sub 3 (Operand.tmp 142) (Operand.const (Value.int IntKind.i64 2)) 3, type := 3, pos := "l1_expr.go:269", after := #[{ on := 4, ground := Ground.data }], guard := none },
  { dst := some 144, op := Op.indexAddr 31 (Operand.tmp 141) (Operand.tmp 143), type := 0, pos := "l1_expr.go:269", after := #[{ on := 3, ground := Ground.data }, { on := 5, ground := Ground.data }], guard := none },
  { dst := some 145, op := Op.load 9 (Operand.tmp 144), type := 9, pos := "l1_expr.go:269", after := #[{ on := 6, ground := Ground.data }], guard := none },
  { dst := some 146, op := Op.move (Operand.tmp 5), type := 32, pos := "l1_expr.go:269", after := #[], guard := none },
  { dst := some 147, op := Op.move (Operand.tmp 7), type := 3, pos := "l1_expr.go:269", after := #[], guard := none },
  { dst := some 148, op := Op.binOp BinOp.sub 3 (Operand.tmp 147) (Operand.const (Value.int IntKind.i64 2)) 3, type := 3, pos := "l1_expr.go:269", after := #[{ on := 9, ground := Ground.data }], guard := none },
  { dst := some 149, op := Op.indexAddr 32 (Operand.tmp 146) (Operand.tmp 148), type := 0, pos := "l1_expr.go:269", after := #[{ on := 8, ground := Ground.data }, { on := 10, ground := Ground.data }], guard := none },
  { dst := some 150, op := Op.load 3 (Operand.tmp 149), type := 3, pos := "l1_expr.go:269", after := #[{ on := 11, ground := Ground.data }], guard := none },
  { dst := some 151, op := Op.move (Operand.tmp 10), type := 3, pos := "l1_expr.go:269", after := #[], guard := none },
  { dst := some 152, op := Op.call { callee := Callee.value (Operand.func 98), args := #[Operand.tmp 145, Operand.tmp 150, Operand.tmp 151], argTypes := #[9, 3, 3] }, type := 9, pos := "l1_expr.go:269", after := #[{ on := 7, ground := Ground.data }, { on := 12, ground := Ground.data }, { on := 13, ground := Ground.data }], guard := none },
  { dst := some 153, op := Op.call { callee := Callee.value (Operand.func 100), args := #[], argTypes := #[] }, type := 31, pos := "l1_expr.go:269", after := #[{ on := 14, ground := Ground.chain }], guard := none },
  { dst := some 154, op := Op.fieldAddr 38 (Operand.tmp 8) 0, type := 0, pos := "l1_expr.go:269", after := #[], guard := none },
  { dst := some 155, op := Op.load 3 (Operand.tmp 154), type := 3, pos := "l1_expr.go:269", after := #[{ on := 16, ground := Ground.data }], guard := none },
  { dst := some 156, op := Op.indexAddr 31 (Operand.tmp 153) (Operand.tmp 155), type := 0, pos := "l1_expr.go:269", after := #[{ on := 15, ground := Ground.data }, { on := 17, ground := Ground.data }], guard := none },
  { dst := some 157, op := Op.load 9 (Operand.tmp 156), type := 9, pos := "l1_expr.go:269", after := #[{ on := 18, ground := Ground.data }], guard := none },
  { dst := some 158, op := Op.binOp BinOp.add 9 (Operand.tmp 152) (Operand.tmp 157) 9, type := 9, pos := "l1_expr.go:269", after := #[{ on := 14, ground := Ground.data }, { on := 19, ground := Ground.data }], guard := none },
  { dst := some 159, op := Op.move (Operand.tmp 4), type := 31, pos := "l1_expr.go:269", after := #[], guard := none },
  { dst := some 160, op := Op.move (Operand.tmp 7), type := 3, pos := "l1_expr.go:269", after := #[], guard := none },
  { dst := some 161, op := Op.binOp BinOp.sub 3 (Operand.tmp 160) (Operand.const (Value.int IntKind.i64 1)) 3, type := 3, pos := "l1_expr.go:269", after := #[{ on := 22, ground := Ground.data }], guard := none },
  { dst := some 162, op := Op.indexAddr 31 (Operand.tmp 159) (Operand.tmp 161), type := 0, pos := "l1_expr.go:269", after := #[{ on := 21, ground := Ground.data }, { on := 23, ground := Ground.data }], guard := none },
  { dst := some 163, op := Op.load 9 (Operand.tmp 162), type := 9, pos := "l1_expr.go:269", after := #[{ on := 24, ground := Ground.data }], guard := none },
  { dst := some 164, op := Op.move (Operand.tmp 5), type := 32, pos := "l1_expr.go:269", after := #[], guard := none },
  { dst := some 165, op := Op.move (Operand.tmp 7), type := 3, pos := "l1_expr.go:269", after := #[], guard := none },
  { dst := some 166, op := Op.binOp BinOp.sub 3 (Operand.tmp 165) (Operand.const (Value.int IntKind.i64 1)) 3, type := 3, pos := "l1_expr.go:269", after := #[{ on := 27, ground := Ground.data }], guard := none },
  { dst := some 167, op := Op.indexAddr 32 (Operand.tmp 164) (Operand.tmp 166), type := 0, pos := "l1_expr.go:269", after := #[{ on := 26, ground := Ground.data }, { on := 28, ground := Ground.data }], guard := none },
  { dst := some 168, op := Op.load 3 (Operand.tmp 167), type := 3, pos := "l1_expr.go:269", after := #[{ on := 29, ground := Ground.data }], guard := none },
  { dst := some 169, op := Op.move (Operand.tmp 10), type := 3, pos := "l1_expr.go:269", after := #[], guard := none },
  { dst := some 170, op := Op.binOp BinOp.add 3 (Operand.tmp 169) (Operand.const (Value.int IntKind.i64 1)) 3, type := 3, pos := "l1_expr.go:269", after := #[{ on := 31, ground := Ground.data }], guard := none },
  { dst := some 171, op := Op.call { callee := Callee.value (Operand.func 98), args := #[Operand.tmp 163, Operand.tmp 168, Operand.tmp 170], argTypes := #[9, 3, 3] }, type := 9, pos := "l1_expr.go:269", after := #[{ on := 25, ground := Ground.data }, { on := 30, ground := Ground.data }, { on := 32, ground := Ground.data }, { on := 15, ground := Ground.chain }], guard := none },
  { dst := some 172, op := Op.binOp BinOp.add 9 (Operand.tmp 158) (Operand.tmp 171) 9, type := 9, pos := "l1_expr.go:269", after := #[{ on := 20, ground := Ground.data }, { on := 33, ground := Ground.data }], guard := none },
  { dst := some 173, op := Op.indexAddr 31 (Operand.tmp 138) (Operand.tmp 140), type := 0, pos := "l1_expr.go:269", after := #[{ on := 0, ground := Ground.data }, { on := 2, ground := Ground.data }, { on := 0, ground := Ground.phase }, { on := 1, ground := Ground.phase }, { on := 2, ground := Ground.phase }, { on := 3, ground := Ground.phase }, { on := 4, ground := Ground.phase }, { on := 5, ground := Ground.phase }, { on := 6, ground := Ground.phase }, { on := 7, ground := Ground.phase }, { on := 8, ground := Ground.phase }, { on := 9, ground := Ground.phase }, { on := 10, ground := Ground.phase }, { on := 11, ground := Ground.phase }, { on := 12, ground := Ground.phase }, { on := 13, ground := Ground.phase }, { on := 14, ground := Ground.phase }, { on := 15, ground := Ground.phase }, { on := 16, ground := Ground.phase }, { on := 17, ground := Ground.phase }, { on := 18, ground := Ground.phase }, { on := 19, ground := Ground.phase }, { on := 20, ground := Ground.phase }, { on := 21, ground := Ground.phase }, { on := 22, ground := Ground.phase }, { on := 23, ground := Ground.phase }, { on := 24, ground := Ground.phase }, { on := 25, ground := Ground.phase }, { on := 26, ground := Ground.phase }, { on := 27, ground := Ground.phase }, { on := 28, ground := Ground.phase }, { on := 29, ground := Ground.phase }, { on := 30, ground := Ground.phase }, { on := 31, ground := Ground.phase }, { on := 32, ground := Ground.phase }, { on := 33, ground := Ground.phase }, { on := 34, ground := Ground.phase }], guard := none },
  { dst := none, op := Op.store 9 (Operand.tmp 173) (Operand.tmp 172), type := 0, pos := "l1_expr.go:269", after := #[{ on := 35, ground := Ground.data }, { on := 34, ground := Ground.data }, { on := 33, ground := Ground.chain }, { on := 0, ground := Ground.phase }, { on := 1, ground := Ground.phase }, { on := 2, ground := Ground.phase }, { on := 3, ground := Ground.phase }, { on := 4, ground := Ground.phase }, { on := 5, ground := Ground.phase }, { on := 6, ground := Ground.phase }, { on := 7, ground := Ground.phase }, { on := 8, ground := Ground.phase }, { on := 9, ground := Ground.phase }, { on := 10, ground := Ground.phase }, { on := 11, ground := Ground.phase }, { on := 12, ground := Ground.phase }, { on := 13, ground := Ground.phase }, { on := 14, ground := Ground.phase }, { on := 15, ground := Ground.phase }, { on := 16, ground := Ground.phase }, { on := 17, ground := Ground.phase }, { on := 18, ground := Ground.phase }, { on := 19, ground := Ground.phase }, { on := 20, ground := Ground.phase }, { on := 21, ground := Ground.phase }, { on := 22, ground := Ground.phase }, { on := 23, ground := Ground.phase }, { on := 24, ground := Ground.phase }, { on := 25, ground := Ground.phase }, { on := 26, ground := Ground.phase }, { on := 27, ground := Ground.phase }, { on := 28, ground := Ground.phase }, { on := 29, ground := Ground.phase }, { on := 30, ground := Ground.phase }, { on := 31, ground := Ground.phase }, { on := 32, ground := Ground.phase }, { on := 33, ground := Ground.phase }, { on := 34, ground := Ground.phase }], guard := none }]

theorem dst23 (i : Nat) : dstOf ops23 i = if i < 36 then some (138 + i) else none := by
  by_cases h : i < 37
  · have : i = 0 ∨ i = 1 ∨ i = 2 ∨ i = 3 ∨ i = 4 ∨ i = 5 ∨ i = 6 ∨ i = 7 ∨ i = 8 ∨ i = 9 ∨ i = 10 ∨ i = 11 ∨ i = 12 ∨ i = 13 ∨ i = 14 ∨ i = 15 ∨ i = 16 ∨ i = 17 ∨ i = 18 ∨ i = 19 ∨ i = 20 ∨ i = 21 ∨ i = 22 ∨ i = 23 ∨ i = 24 ∨ i = 25 ∨ i = 26 ∨ i = 27 ∨ i = 28 ∨ i = 29 ∨ i = 30 ∨ i = 31 ∨ i = 32 ∨ i = 33 ∨ i = 34 ∨ i = 35 ∨ i = 36 := by omega
    rcases this with rfl | rfl | rfl | rfl | rfl | rfl | rfl | rfl | rfl | rfl | rfl | rfl | rfl | rfl | rfl | rfl | rfl | rfl | rfl | rfl | rfl | rfl | rfl | rfl | rfl | rfl | rfl | rfl | rfl | rfl | rfl | rfl | rfl | rfl | rfl | rfl | rfl <;> rfl
  · rw [if_neg (by omega)]
    unfold dstOf
    rw [Array.getElem?_eq_none (by show 37 ≤ i; omega)]; rfl
theorem apart23 : apartDst ops23 := by
  intro i j d hij h1 h2
  rw [dst23] at h1 h2
  split at h1 <;> split at h2 <;> simp at h1 h2
  omega

theorem all_listed {md : Region.Mode} {ops : Array Oper} {listed : Array Bool} (hsz : listed.size = ops.size) (hlt : ∀ (j : Nat) (o : Oper), ops[j]? = some o → ∀ e ∈ o.after, e.on < j) (hr : Region.ready md ops listed = []) :
    ∀ j, j < ops.size → listed.getD j false = true := by
  intro j
  induction j using Nat.strongRecOn with
  | ind j ih =>
    intro hj
    cases hl : listed.getD j false with
    | true => rfl
    | false =>
      exfalso
      have hm : j ∈ Region.ready md ops listed := by
        unfold Region.ready
        rw [List.mem_filter]
        refine ⟨by simpa using hj, ?_⟩
        have hjl : j < listed.size := by omega
        have e1 : listed.getD j true = false := by
          simp [Array.getD, hjl] at hl ⊢; exact hl
        have e2 : ops[j]? = some ops[j] := by simp [hj]
        rw [e1, e2]
        simp only [Bool.not_false, Bool.true_and, Option.map_some, Option.getD_some, Array.all_eq_true']
        intro e he
        have h1 := hlt j _ e2 e he
        rw [ih e.on h1 (by omega)]
        simp
      rw [hr] at hm
      cases hm
theorem putL_congr {ops : Array Oper} {val : Nat → Value} {l l' : Array Bool} {a0 : Act} : ∀ n, (∀ j, j < n → l.getD j false = l'.getD j false) → putL ops val l a0 n = putL ops val l' a0 n
  | 0, _ => rfl
  | n + 1, h => by rw [putL, putL, h n (by omega), putL_congr n (fun j hj => h j (by omega))]

/-- what the operations yield -/
def val23 (gt ct gl cl N L M q x k : Nat) (t1 t2 : ByteArray) (l1 l2 lv : Int) : Nat → Value
  | 0 => .slice (some ⟨gt, 0, none⟩) N ct
  | 1 => .int .i64 N
  | 2 => .int .i64 L
  | 3 => .slice (some ⟨gt, 0, none⟩) N ct
  | 4 => .int .i64 N
  | 5 => .int .i64 L
  | 6 => .pointer (some ⟨gt, L, none⟩)
  | 7 => .string t1
  | 8 => .slice (some ⟨gl, 0, none⟩) N cl
  | 9 => .int .i64 N
  | 10 => .int .i64 L
  | 11 => .pointer (some ⟨gl, L, none⟩)
  | 12 => .int .i64 l1
  | 13 => .int .i64 lv
  | 14 => .string (boundM t1 l1 lv)
  | 15 => .slice (some ⟨q, 0, none⟩) 14 14
  | 16 => .pointer (some ⟨x, 0, none⟩)
  | 17 => .int .i64 k
  | 18 => .pointer (some ⟨q, k, none⟩)
  | 19 => .string (sg k)
  | 20 => .string (boundM t1 l1 lv ++ sg k)
  | 21 => .slice (some ⟨gt, 0, none⟩) N ct
  | 22 => .int .i64 N
  | 23 => .int .i64 M
  | 24 => .pointer (some ⟨gt, M, none⟩)
  | 25 => .string t2
  | 26 => .slice (some ⟨gl, 0, none⟩) N cl
  | 27 => .int .i64 N
  | 28 => .int .i64 M
  | 29 => .pointer (some ⟨gl, M, none⟩)
  | 30 => .int .i64 l2
  | 31 => .int .i64 lv
  | 32 => .int .i64 (lv + 1)
  | 33 => .string (boundM t2 l2 (lv + 1))
  | 34 => .string (boundM t1 l1 lv ++ sg k ++ boundM t2 l2 (lv + 1))
  | 35 => .pointer (some ⟨gt, L, none⟩)
  | _ => undef

/-- what holds when these operations have come up -/
structure J (V : Nat → Value) (a0 : Act) (W0 : World) (c : Addr) (new : Value) (listed : Array Bool) (a : Act) (w : World) : Prop where
  size : listed.size = 37
  act : a = putL ops23 V listed a0 37
  last : listed.getD 36 false = true → ∀ j, j < 36 → listed.getD j false = true
  sgn : listed.getD 18 false = true → listed.getD 15 false = true
  w0 : listed.getD 15 false = false → listed.getD 36 false = false → w = W0
  w1 : listed.getD 15 false = true → listed.getD 36 false = false → Below W0.heap.size W0 w ∧ ∀ j, j < 14 → w.cell? ⟨W0.heap.size, j, none⟩ = some (.string (sg j))
  w2 : listed.getD 36 false = true → ∃ w', Below W0.heap.size W0 w' ∧ w = w'.setCell c new

theorem getD_set {l : Array Bool} {i j : Nat} (hi : i < l.size) : (l.setIfInBounds i true).getD j false = if i = j then true else l.getD j false := by
  simp only [Array.getD_eq_getD_getElem?, Array.getElem?_setIfInBounds]
  split
  · simp [hi]
  · rfl
theorem J.undone {V : Nat → Value} {a0 : Act} {W0 : World} {c : Addr} {new : Value} {listed : Array Bool} {a : Act} {w : World} (h : J V a0 W0 c new listed a w) {i : Nat} (hi : i < 36) (hl : listed.getD i true = false) : listed.getD 36 false = false := by
  have hlt : i < listed.size := by rw [h.size]; omega
  cases e : listed.getD 36 false with
  | false => rfl
  | true =>
    have := h.last e i hi
    simp [Array.getD, hlt] at hl this
    rw [hl] at this; cases this
theorem J.bel {V : Nat → Value} {a0 : Act} {W0 : World} {c : Addr} {new : Value} {listed : Array Bool} {a : Act} {w : World} (h : J V a0 W0 c new listed a w) (hu : listed.getD 36 false = false) : Below W0.heap.size W0 w := by
  cases e : listed.getD 15 false with
  | false => rw [h.w0 e hu]; exact Below.refl _ _
  | true => exact (h.w1 e hu).1
theorem J.plain {V : Nat → Value} {a0 : Act} {W0 : World} {c : Addr} {new : Value} {listed : Array Bool} {a : Act} {w : World} (h : J V a0 W0 c new listed a w) {i : Nat} (hi : i < 36) (h15 : i ≠ 15) (hl : listed.getD i true = false) (hs : i = 18 → listed.getD 15 false = true) :
    J V a0 W0 c new (listed.setIfInBounds i true) (a.put (dstOf ops23 i) (V i)) w := by
  have hlt : i < listed.size := by rw [h.size]; omega
  have hu := h.undone hi hl
  have hl' : listed[i] = false := by simpa [Array.getD, hlt] using hl
  have e15 : (listed.setIfInBounds i true).getD 15 false = listed.getD 15 false := by rw [getD_set hlt, if_neg h15]
  have e36 : (listed.setIfInBounds i true).getD 36 false = listed.getD 36 false := by rw [getD_set hlt, if_neg (by omega)]
  refine ⟨by simp [h.size], ?_, ?_, ?_, ?_, ?_, ?_⟩
  · rw [h.act, putL_set apart23 hlt hl' 37 (by omega)]
  · rw [e36, hu]; intro hh; cases hh
  · rw [e15, getD_set hlt]
    split
    · rename_i e; exact fun _ => hs e
    · exact h.sgn
  · rw [e15, e36]; exact h.w0
  · rw [e15, e36]; exact h.w1
  · rw [e36, hu]; intro hh; cases hh
theorem J.signs {V : Nat → Value} {a0 : Act} {W0 : World} {c : Addr} {new : Value} {listed : Array Bool} {a : Act} {w w1 : World} (h : J V a0 W0 c new listed a w) (hl : listed.getD 15 true = false)
    (hb : Below W0.heap.size W0 w1) (hc : ∀ j, j < 14 → w1.cell? ⟨W0.heap.size, j, none⟩ = some (.string (sg j))) :
    J V a0 W0 c new (listed.setIfInBounds 15 true) (a.put (dstOf ops23 15) (V 15)) w1 := by
  have hlt : 15 < listed.size := by rw [h.size]; omega
  have hu := h.undone (by omega) hl
  have hl' : listed[15] = false := by simpa [Array.getD, hlt] using hl
  have e15 : (listed.setIfInBounds 15 true).getD 15 false = true := by rw [getD_set hlt, if_pos rfl]
  have e36 : (listed.setIfInBounds 15 true).getD 36 false = listed.getD 36 false := by rw [getD_set hlt, if_neg (by omega)]
  refine ⟨by simp [h.size], ?_, ?_, ?_, ?_, ?_, ?_⟩
  · rw [h.act, putL_set apart23 hlt hl' 37 (by omega)]
  · rw [e36, hu]; intro hh; cases hh
  · exact fun _ => e15
  · rw [e15]; intro hh; cases hh
  · exact fun _ _ => ⟨hb, hc⟩
  · rw [e36, hu]; intro hh; cases hh
theorem J.store {V : Nat → Value} {a0 : Act} {W0 : World} {c : Addr} {new : Value} {listed : Array Bool} {a : Act} {w : World} (h : J V a0 W0 c new listed a w) (hl : listed.getD 36 true = false)
    (hall : ∀ j, j < 36 → listed.getD j false = true) : J V a0 W0 c new (listed.setIfInBounds 36 true) (a.put none undef) (w.setCell c new) := by
  have hlt : 36 < listed.size := by rw [h.size]; omega
  have hl' : listed[36] = false := by simpa [Array.getD, hlt] using hl
  have hu : listed.getD 36 false = false := by simp [Array.getD, hlt, hl']
  have e36 : (listed.setIfInBounds 36 true).getD 36 false = true := by rw [getD_set hlt, if_pos rfl]
  have ee : ∀ j, j < 36 → (listed.setIfInBounds 36 true).getD j false = true := fun j hj => by rw [getD_set hlt, if_neg (by omega)]; exact hall j hj
  refine ⟨by simp [h.size], ?_, fun _ => ee, fun _ => ee 15 (by omega), ?_, ?_, ?_⟩
  · rw [h.act, putL_set apart23 hlt hl' 37 (by omega), dst23]; rfl
  · rw [e36]; intro _ hh; cases hh
  · rw [e36]; intro _ hh; cases hh
  · exact fun _ => ⟨w, h.bel hu, rfl⟩
theorem putL_none {ops : Array Oper} {val : Nat → Value} {l : Array Bool} {a0 : Act} : ∀ n, (∀ j, j < n → l.getD j false = false) → putL ops val l a0 n = a0
  | 0, _ => rfl
  | n + 1, h => by rw [putL, h n (by omega), putL_none n (fun j hj => h j (by omega))]; rfl
theorem J.start (V : Nat → Value) (a0 : Act) (W0 : World) (c : Addr) (new : Value) : J V a0 W0 c new (Array.replicate 37 false) a0 W0 := by
  have e : ∀ j, (Array.replicate 37 false).getD j false = false := fun j => by
    simp only [Array.getD_eq_getD_getElem?, Array.getElem?_replicate]; split <;> rfl
  refine ⟨by simp, (putL_none 37 (fun j _ => e j)).symm, ?_, ?_, fun _ _ => rfl, ?_, ?_⟩
  · rw [e]; intro h; cases h
  · rw [e]; intro h; cases h
  · rw [e]; intro h; cases h
  · rw [e]; intro h; cases h
theorem J.get {V : Nat → Value} {a0 : Act} {W0 : World} {c : Addr} {new : Value} {listed : Array Bool} {a : Act} {w : World} (h : J V a0 W0 c new listed a w) (hz : a0.tmps.size = 193) (j : Nat) (hj : j < 36) (hl : listed.getD j false = true) : a.tmps.getD (138 + j) undef = V j := by
  rw [h.act]
  exact putL_get apart23 (by rw [dst23, if_pos hj]) (by omega) hl 37 (by omega)
theorem J.base {V : Nat → Value} {a0 : Act} {W0 : World} {c : Addr} {new : Value} {listed : Array Bool} {a : Act} {w : World} (h : J V a0 W0 c new listed a w) (d : Nat) (hd : d < 138) : a.tmps.getD d undef = a0.tmps.getD d undef := by
  rw [h.act]
  exact putL_other 37 (fun j hj => by rw [dst23]; split <;> simp; omega)
end Go.Proofs.YtcajjngjojegfaaGreatDoor
