/- The region of storyReader.read that puts an event into the row. -/
import Derived.Test.YtjmgfpldjccilaaGreatDoorRegionE
import Derived.Test.YtjmgfpldjccilaaGreatDoorOwnRow
import Derived.Deep.AppendLies
namespace Go.Proofs.YtjmgfpldjccilaaGreatDoor
open Go Go.RowKit Go.PlainAid Go.Deep
set_option linter.unusedSimpArgs false
set_option linter.unusedVariables false

theorem infoEvR : (Tryz.prog.info? 26).map (fun i => (i.zero, i.size, i.bytes)) = some (some (.agg #[.int .i64 0, .int .i64 0, .int .i64 0, .slice none 0 0]), 4, 48) := by kernel_rfl

def opsRS : Array Oper := #[
  { dst := some 28, op := Op.move (Operand.tmp 0), type := 88, pos := "l16_story.go:148", after := #[], guard := none },
  { dst := some 29, op := Op.move (Operand.tmp 0), type := 88, pos := "l16_story.go:148", after := #[], guard := none },
  { dst := some 30, op := Op.nilCheck (Operand.tmp 29), type := 0, pos := "l16_story.go:148", after := #[{ on := 1, ground := Ground.data }], guard := none },
  { dst := some 31, op := Op.fieldAddr 60 (Operand.tmp 30) 1, type := 0, pos := "l16_story.go:148", after := #[{ on := 2, ground := Ground.data }], guard := none },
  { dst := some 32, op := Op.load 32 (Operand.tmp 31), type := 32, pos := "l16_story.go:148", after := #[{ on := 3, ground := Ground.data }], guard := none },
  { dst := some 33, op := Op.load 26 (Operand.tmp 3), type := 26, pos := "l16_story.go:148", after := #[], guard := none },
  { dst := some 34, op := Op.buildSlice 32 1 #[(0, Operand.tmp 33)], type := 32, pos := "l16_story.go:148", after := #[{ on := 5, ground := Ground.data }], guard := none },
  { dst := some 35, op := Op.call { callee := Callee.builtin Builtin.append, args := #[Operand.tmp 32, Operand.tmp 34], argTypes := #[32, 32] }, type := 32, pos := "l16_story.go:148", after := #[{ on := 4, ground := Ground.data }, { on := 6, ground := Ground.data }], guard := none },
  { dst := some 36, op := Op.nilCheck (Operand.tmp 28), type := 0, pos := "l16_story.go:148", after := #[{ on := 0, ground := Ground.data }, { on := 0, ground := Ground.phase }, { on := 1, ground := Ground.phase }, { on := 2, ground := Ground.phase }, { on := 3, ground := Ground.phase }, { on := 4, ground := Ground.phase }, { on := 5, ground := Ground.phase }, { on := 6, ground := Ground.phase }, { on := 7, ground := Ground.phase }], guard := none },
  { dst := some 37, op := Op.fieldAddr 60 (Operand.tmp 36) 1, type := 0, pos := "l16_story.go:148", after := #[{ on := 8, ground := Ground.data }, { on := 0, ground := Ground.phase }, { on := 1, ground := Ground.phase }, { on := 2, ground := Ground.phase }, { on := 3, ground := Ground.phase }, { on := 4, ground := Ground.phase }, { on := 5, ground := Ground.phase }, { on := 6, ground := Ground.phase }, { on := 7, ground := Ground.phase }], guard := none },
  { dst := none, op := Op.store 32 (Operand.tmp 37) (Operand.tmp 35), type := 0, pos := "l16_story.go:148", after := #[{ on := 9, ground := Ground.data }, { on := 7, ground := Ground.data }, { on := 7, ground := Ground.chain }, { on := 0, ground := Ground.phase }, { on := 1, ground := Ground.phase }, { on := 2, ground := Ground.phase }, { on := 3, ground := Ground.phase }, { on := 4, ground := Ground.phase }, { on := 5, ground := Ground.phase }, { on := 6, ground := Ground.phase }, { on := 7, ground := Ground.phase }], guard := none }]
def dRS (i : Nat) : Nat := [28, 29, 30, 31, 32, 33, 34, 35, 36, 37, 100000].getD i 0
theorem apartRS : ∀ i j, i < 11 → j < 11 → i ≠ j → dRS i ≠ dRS j := by
  have key : ∀ i j : Fin 11, i ≠ j → dRS i.val ≠ dRS j.val := by decide +kernel
  intro i j hi hj h
  exact key ⟨i, hi⟩ ⟨j, hj⟩ (fun e => h (by cases e; rfl))
theorem ltRS : ∀ i, i + 1 < 11 → dRS i < 44 := by
  have key : ∀ i : Fin (11 - 1), dRS i.val < 44 := by decide +kernel
  exact fun i hi => key ⟨i, by omega⟩
theorem backRS : ∀ (j : Nat) (o : Oper), opsRS[j]? = some o → ∀ e ∈ o.after, Region.binds .any e = true → e.on < j := back_ofG 11 rfl (by decide +kernel)
theorem downRS : ∀ j, j + 1 < 11 → ∃ k, j < k ∧ k < 11 ∧ depD opsRS k j = true := by
  have key : ∀ j : Fin (11 - 1), ∃ k : Fin 11, j.val < k.val ∧ depD opsRS k.val j.val = true := by decide +kernel
  intro j hj
  obtain ⟨k, h1, h2⟩ := key ⟨j, by omega⟩
  exact ⟨k.val, h1, k.isLt, h2⟩
theorem arrRS (x : Array Value) (h : x.size = 44) : x = #[x.getD 0 undef, x.getD 1 undef, x.getD 2 undef, x.getD 3 undef, x.getD 4 undef, x.getD 5 undef, x.getD 6 undef, x.getD 7 undef, x.getD 8 undef, x.getD 9 undef, x.getD 10 undef, x.getD 11 undef, x.getD 12 undef, x.getD 13 undef, x.getD 14 undef, x.getD 15 undef, x.getD 16 undef, x.getD 17 undef, x.getD 18 undef, x.getD 19 undef, x.getD 20 undef, x.getD 21 undef, x.getD 22 undef, x.getD 23 undef, x.getD 24 undef, x.getD 25 undef, x.getD 26 undef, x.getD 27 undef, x.getD 28 undef, x.getD 29 undef, x.getD 30 undef, x.getD 31 undef, x.getD 32 undef, x.getD 33 undef, x.getD 34 undef, x.getD 35 undef, x.getD 36 undef, x.getD 37 undef, x.getD 38 undef, x.getD 39 undef, x.getD 40 undef, x.getD 41 undef, x.getD 42 undef, x.getD 43 undef] := by
  have e : x = ((List.range 44).map fun i => x.getD i undef).toArray := by
    apply Array.ext
    · simp [h]
    · intro i h1 h2
      simp [Array.getD_eq_getD_getElem?, h1]
  exact e.trans rfl

def PRS (u : Value) (k t mm : Int) (n2 c2 : Nat) (a2 : Option Addr) (p mb L H m : Nat) (vs : List Value) : Nat → Value → World → Prop
  | 0, v, w => v = .pointer (some ⟨p, 0, none⟩)
  | 1, v, w => v = .pointer (some ⟨p, 0, none⟩)
  | 2, v, w => v = .pointer (some ⟨p, 0, none⟩)
  | 3, v, w => v = .pointer (some ⟨p, 2, none⟩)
  | 4, v, w => v = u
  | 5, v, w => v = .agg #[.int .i64 k, .int .i64 t, .int .i64 mm, .slice a2 n2 c2]
  | 6, v, w => ∃ g, v = .slice (some ⟨g, 0, none⟩) 1 1 ∧ g < w.heap.size ∧ w.cell? ⟨g, 0, none⟩ = some (.int .i64 k) ∧ w.cell? ⟨g, 1, none⟩ = some (.int .i64 t) ∧ w.cell? ⟨g, 2, none⟩ = some (.int .i64 mm) ∧ w.cell? ⟨g, 3, none⟩ = some (.slice a2 n2 c2) ∧ u.ownBlock ≠ some g
  | 7, v, w => ∃ g cap, v = .slice (some ⟨g, 0, none⟩) (m + 1) cap ∧ (u.ownBlock = some g ∨ H ≤ g) ∧ w.ownsRow L 26 4 v (m + 1) (vs ++ [.int .i64 k, .int .i64 t, .int .i64 mm, .slice a2 n2 c2])
  | 8, v, w => v = .pointer (some ⟨p, 0, none⟩)
  | 9, v, w => v = .pointer (some ⟨p, 2, none⟩)
  | _, _, _ => True
def RelRS (u : Value) (k t mm : Int) (n2 c2 : Nat) (a2 : Option Addr) (p mb L H m : Nat) (vs : List Value) : Nat → World → World → Prop
  | 7, w, w' => w.grownBy w' u.ownBlock
  | _, w, w' => Below w.heap.size w w'
theorem PRS_below (u : Value) (k t mm : Int) (n2 c2 : Nat) (a2 : Option Addr) (p mb L H m : Nat) (vs : List Value) : ∀ (i j : Nat) v (w w' : World), i ≠ j → PRS u k t mm n2 c2 a2 p mb L H m vs j v w → RelRS u k t mm n2 c2 a2 p mb L H m vs i w w' → PRS u k t mm n2 c2 a2 p mb L H m vs j v w' := by
  intro i j v w w' hne h hr
  unfold PRS at h ⊢
  split at h
  all_goals first
    | exact h
    | (obtain ⟨g, e, h1, z0, z1, z2, z3, h3⟩ := h
       have hr' : w.grownBy w' u.ownBlock := by
         unfold RelRS at hr
         split at hr
         · exact hr
         · exact ⟨hr.os, hr.tape, hr.output, hr.size, fun i hi _ => hr.block i hi⟩
       exact ⟨g, e, Nat.lt_of_lt_of_le h1 hr'.size, (World.cell?_of_block (hr'.block g h1 (fun e => h3 e.symm))).trans z0, (World.cell?_of_block (hr'.block g h1 (fun e => h3 e.symm))).trans z1, (World.cell?_of_block (hr'.block g h1 (fun e => h3 e.symm))).trans z2, (World.cell?_of_block (hr'.block g h1 (fun e => h3 e.symm))).trans z3, h3⟩)
    | (obtain ⟨g, cap, e, h1, h2⟩ := h
       have hr' : Below w.heap.size w w' := by
         unfold RelRS at hr
         split at hr
         · exact (hne rfl).elim
         · exact hr
       exact ⟨g, cap, e, h1, own_of_block h2 (fun q hq => hr'.block q (World.ownsRow.lt h2 q hq).2)⟩)
set_option maxRecDepth 100000 in
theorem rRS_0 (a : Act) (w : World) (u : Value) (k t mm : Int) (n2 c2 : Nat) (a2 : Option Addr) (p mb L H m : Nat) (vs : List Value) (e0 : a.tmps.getD 0 undef = .pointer (some ⟨p, 0, none⟩))  : (execOp a.eval (opsRS[0]'(by decide))).run Tryz.prog w = .ok (.value (.pointer (some ⟨p, 0, none⟩))) w := by
  show (execOp a.eval { dst := some 28, op := Op.move (Operand.tmp 0), type := _, pos := _, after := _, guard := _ }).run Tryz.prog w = _
  rw [Array.getD_eq_getD_getElem?] at e0
  simp [execOp, Act.eval, go_sem, resolve, invoke, e0]
set_option maxRecDepth 100000 in
theorem rRS_1 (a : Act) (w : World) (u : Value) (k t mm : Int) (n2 c2 : Nat) (a2 : Option Addr) (p mb L H m : Nat) (vs : List Value) (e0 : a.tmps.getD 0 undef = .pointer (some ⟨p, 0, none⟩))  : (execOp a.eval (opsRS[1]'(by decide))).run Tryz.prog w = .ok (.value (.pointer (some ⟨p, 0, none⟩))) w := by
  show (execOp a.eval { dst := some 29, op := Op.move (Operand.tmp 0), type := _, pos := _, after := _, guard := _ }).run Tryz.prog w = _
  rw [Array.getD_eq_getD_getElem?] at e0
  simp [execOp, Act.eval, go_sem, resolve, invoke, e0]
set_option maxRecDepth 100000 in
theorem rRS_2 (a : Act) (w : World) (u : Value) (k t mm : Int) (n2 c2 : Nat) (a2 : Option Addr) (p mb L H m : Nat) (vs : List Value) (e29 : a.tmps.getD 29 undef = .pointer (some ⟨p, 0, none⟩))  : (execOp a.eval (opsRS[2]'(by decide))).run Tryz.prog w = .ok (.value (.pointer (some ⟨p, 0, none⟩))) w := by
  show (execOp a.eval { dst := some 30, op := Op.nilCheck (Operand.tmp 29), type := _, pos := _, after := _, guard := _ }).run Tryz.prog w = _
  rw [Array.getD_eq_getD_getElem?] at e29
  simp [execOp, Act.eval, go_sem, resolve, invoke, e29]
set_option maxRecDepth 100000 in
theorem rRS_3 (a : Act) (w : World) (u : Value) (k t mm : Int) (n2 c2 : Nat) (a2 : Option Addr) (p mb L H m : Nat) (vs : List Value) (e30 : a.tmps.getD 30 undef = .pointer (some ⟨p, 0, none⟩))  : (execOp a.eval (opsRS[3]'(by decide))).run Tryz.prog w = .ok (.value (.pointer (some ⟨p, 2, none⟩))) w := by
  show (execOp a.eval { dst := some 31, op := Op.fieldAddr 60 (Operand.tmp 30) 1, type := _, pos := _, after := _, guard := _ }).run Tryz.prog w = _
  rw [Array.getD_eq_getD_getElem?] at e30
  simp [execOp, Act.eval, go_sem, resolve, invoke, e30]
set_option maxRecDepth 100000 in
theorem rRS_4 (a : Act) (w : World) (u : Value) (k t mm : Int) (n2 c2 : Nat) (a2 : Option Addr) (p mb L H m : Nat) (vs : List Value) (e31 : a.tmps.getD 31 undef = .pointer (some ⟨p, 2, none⟩)) (hc : w.cell? ⟨p, 2, none⟩ = some u) : (execOp a.eval (opsRS[4]'(by decide))).run Tryz.prog w = .ok (.value (u)) w := by
  show (execOp a.eval { dst := some 32, op := Op.load 32 (Operand.tmp 31), type := _, pos := _, after := _, guard := _ }).run Tryz.prog w = _
  rw [Array.getD_eq_getD_getElem?] at e31
  simp [execOp, Act.eval, go_sem, resolve, invoke, e31, hc]
set_option maxRecDepth 100000 in
theorem rRS_5 (a : Act) (w : World) (u : Value) (k t mm : Int) (n2 c2 : Nat) (a2 : Option Addr) (p mb L H m : Nat) (vs : List Value) (e3 : a.tmps.getD 3 undef = .pointer (some ⟨mb, 0, none⟩)) (y0 : w.cell? ⟨mb, 0, none⟩ = some (.int .i64 k)) (y1 : w.cell? ⟨mb, 1, none⟩ = some (.int .i64 t)) (y2 : w.cell? ⟨mb, 2, none⟩ = some (.int .i64 mm)) (y3 : w.cell? ⟨mb, 3, none⟩ = some (.slice a2 n2 c2)) : (execOp a.eval (opsRS[5]'(by decide))).run Tryz.prog w = .ok (.value (.agg #[.int .i64 k, .int .i64 t, .int .i64 mm, .slice a2 n2 c2])) w := by
  show (execOp a.eval { dst := some 33, op := Op.load 26 (Operand.tmp 3), type := _, pos := _, after := _, guard := _ }).run Tryz.prog w = _
  rw [Array.getD_eq_getD_getElem?] at e3
  simp [execOp, Act.eval, go_sem, resolve, invoke, e3, y0, y1, y2, y3]
set_option maxRecDepth 100000 in
theorem rRS_6 (a : Act) (w : World) (k t mm : Int) (n2 c2 : Nat) (a2 : Option Addr) (e33 : a.tmps.getD 33 undef = .agg #[.int .i64 k, .int .i64 t, .int .i64 mm, .slice a2 n2 c2]) : (execOp a.eval (opsRS[6]'(by decide))).run Tryz.prog w = .ok (.value (.slice (some ⟨w.heap.size, 0, none⟩) 1 1)) (w.alloc (.cells #[.int .i64 k, .int .i64 t, .int .i64 mm, .slice a2 n2 c2] 26)) := by
  show (execOp a.eval { dst := some 34, op := Op.buildSlice 32 1 #[(0, Operand.tmp 33)], type := _, pos := _, after := _, guard := _ }).run Tryz.prog w = _
  rw [Array.getD_eq_getD_getElem?] at e33
  simp [execOp, Act.eval, go_sem, resolve, invoke, e33]
set_option maxRecDepth 100000 in
theorem rRS_8 (a : Act) (w : World) (u : Value) (k t mm : Int) (n2 c2 : Nat) (a2 : Option Addr) (p mb L H m : Nat) (vs : List Value) (e28 : a.tmps.getD 28 undef = .pointer (some ⟨p, 0, none⟩))  : (execOp a.eval (opsRS[8]'(by decide))).run Tryz.prog w = .ok (.value (.pointer (some ⟨p, 0, none⟩))) w := by
  show (execOp a.eval { dst := some 36, op := Op.nilCheck (Operand.tmp 28), type := _, pos := _, after := _, guard := _ }).run Tryz.prog w = _
  rw [Array.getD_eq_getD_getElem?] at e28
  simp [execOp, Act.eval, go_sem, resolve, invoke, e28]
set_option maxRecDepth 100000 in
theorem rRS_9 (a : Act) (w : World) (u : Value) (k t mm : Int) (n2 c2 : Nat) (a2 : Option Addr) (p mb L H m : Nat) (vs : List Value) (e36 : a.tmps.getD 36 undef = .pointer (some ⟨p, 0, none⟩))  : (execOp a.eval (opsRS[9]'(by decide))).run Tryz.prog w = .ok (.value (.pointer (some ⟨p, 2, none⟩))) w := by
  show (execOp a.eval { dst := some 37, op := Op.fieldAddr 60 (Operand.tmp 36) 1, type := _, pos := _, after := _, guard := _ }).run Tryz.prog w = _
  rw [Array.getD_eq_getD_getElem?] at e36
  simp [execOp, Act.eval, go_sem, resolve, invoke, e36]
set_option maxRecDepth 100000 in
theorem rRS_10 (a : Act) (w : World) (ob g m cap : Nat) (u0 : Value) (e53 : a.tmps.getD 35 undef = .slice (some ⟨g, 0, none⟩) m cap) (e54 : a.tmps.getD 37 undef = .pointer (some ⟨ob, 2, none⟩)) (hc : w.cell? ⟨ob, 2, none⟩ = some u0) (hf : w.frozen? ⟨ob, 2, none⟩ = false) : (execOp a.eval (opsRS[10]'(by decide))).run Tryz.prog w = .ok .skip (w.setCell ⟨ob, 2, none⟩ (.slice (some ⟨g, 0, none⟩) m cap)) := by
  show (execOp a.eval { dst := none, op := Op.store 32 (Operand.tmp 37) (Operand.tmp 35), type := _, pos := _, after := _, guard := _ }).run Tryz.prog w = _
  rw [Array.getD_eq_getD_getElem?] at e53 e54
  simp [execOp, Act.eval, go_sem, resolve, invoke, e53, e54, hc, hf]

set_option maxHeartbeats 3200000 in
set_option maxRecDepth 100000 in
theorem regionRS (Q : Exit → Act → World → Prop) (a0 : Act) (w0 : World) (u : Value) (k t mm : Int) (n2 c2 : Nat) (a2 : Option Addr) (p mb L H m : Nat) (vs : List Value) (hz : a0.tmps.size = 44) (q0 : a0.tmps.getD 0 undef = .pointer (some ⟨p, 0, none⟩)) (q3 : a0.tmps.getD 3 undef = .pointer (some ⟨mb, 0, none⟩))
    (hL : L ≤ w0.heap.size) (hH : H ≤ w0.heap.size) (hOH : ∀ q, u.ownBlock = some q → q < w0.heap.size) (hm : m ≤ 1048576) (hmb : mb < w0.heap.size) (hob : p < w0.heap.size) (nM : some mb ≠ u.ownBlock) (nO : some p ≠ u.ownBlock) (b0 : w0.cell? ⟨mb, 0, none⟩ = some (.int .i64 k)) (b1 : w0.cell? ⟨mb, 1, none⟩ = some (.int .i64 t)) (b2 : w0.cell? ⟨mb, 2, none⟩ = some (.int .i64 mm)) (b3 : w0.cell? ⟨mb, 3, none⟩ = some (.slice a2 n2 c2)) (o1 : w0.cell? ⟨p, 2, none⟩ = some u) (f1 : w0.frozen? ⟨p, 2, none⟩ = false) (HR : w0.ownsRow L 26 4 u m vs)
    (hQ : ∀ (b : Act) (w : World), b.tmps.size = 44 → b.defers = a0.defers → (∀ d, (∀ j, j < 11 → dRS j ≠ d) → b.tmps.getD d undef = a0.tmps.getD d undef) → (∃ g cap w2, w = w2.setCell ⟨p, 2, none⟩ (.slice (some ⟨g, 0, none⟩) (m + 1) cap) ∧ (u.ownBlock = some g ∨ H ≤ g) ∧ w2.ownsRow L 26 4 (.slice (some ⟨g, 0, none⟩) (m + 1) cap) (m + 1) (vs ++ [.int .i64 k, .int .i64 t, .int .i64 mm, .slice a2 n2 c2]) ∧ w0.grownBy w2 u.ownBlock) → Q .normal b w) :
    (Code.region 5 opsRS true).wp Tryz.prog Q a0 w0 := by
  have hdr : w0.grownBy w0.drew u.ownBlock := ⟨rfl, rfl, rfl, Nat.le_refl _, fun _ _ _ => rfl⟩
  have hdr0 : Below w0.heap.size w0 w0.drew := ⟨rfl, rfl, rfl, Nat.le_refl _, fun _ _ => rfl⟩
  have hOB : ∀ g, u.ownBlock = some g → L ≤ g ∧ g < w0.heap.size := fun g hg => World.ownsRow.lt HR g hg
  obtain ⟨i0, hi0, hz0, hz1, hz2⟩ := info_parts infoEvR
  refine regionE 11 44 dRS (PRS u k t mm n2 c2 a2 p mb L H m vs) (RelRS u k t mm n2 c2 a2 p mb L H m vs) (fun listed w => w0.grownBy w u.ownBlock ∧ (listed.getD 7 false = false → Below w0.heap.size w0 w)) (fun b w => b.tmps.size = 44 ∧ b.defers = a0.defers ∧ (∀ d, (∀ j, j < 11 → dRS j ≠ d) → b.tmps.getD d undef = a0.tmps.getD d undef) ∧ (∃ g cap w2, w = w2.setCell ⟨p, 2, none⟩ (.slice (some ⟨g, 0, none⟩) (m + 1) cap) ∧ (u.ownBlock = some g ∨ H ≤ g) ∧ w2.ownsRow L 26 4 (.slice (some ⟨g, 0, none⟩) (m + 1) cap) (m + 1) (vs ++ [.int .i64 k, .int .i64 t, .int .i64 mm, .slice a2 n2 c2]) ∧ w0.grownBy w2 u.ownBlock)) Q a0 w0 (by kernel_rfl) rfl (by decide) apartRS ltRS backRS downRS (PRS_below u k t mm n2 c2 a2 p mb L H m vs) hz ⟨hdr, fun _ => hdr0⟩ ?_ ?_ (fun b w h => hQ b w h.1 h.2.1 h.2.2.1 h.2.2.2)
  · intro i hi listed b w hls hli tz keep hID g hcl K hK
    have hb := hID.1
    have hrf : Below w.heap.size w w := Below.refl _ _
    have hsz := hb.size
    have hset : i ≠ 7 → (listed.setIfInBounds i true).getD 7 false = false → Below w0.heap.size w0 w := fun h1 h2 => hID.2 (by rw [set_getD hls (by omega), if_neg h1] at h2; exact h2)
    have hcase : i = 0 ∨ i = 1 ∨ i = 2 ∨ i = 3 ∨ i = 4 ∨ i = 5 ∨ i = 6 ∨ i = 7 ∨ i = 8 ∨ i = 9 := by omega
    rcases hcase with rfl | rfl | rfl | rfl | rfl | rfl | rfl | rfl | rfl | rfl
    · exact wantD (ops := opsRS) (n := 0) (by decide) (.inl rfl) (wpD_val (rRS_0 b w u k t mm n2 c2 a2 p mb L H m vs ((keep 0 (by decide)).trans q0) ) (hK _ w ⟨hb, hset (by decide)⟩ hrf rfl))
    · exact wantD (ops := opsRS) (n := 1) (by decide) (.inl rfl) (wpD_val (rRS_1 b w u k t mm n2 c2 a2 p mb L H m vs ((keep 0 (by decide)).trans q0) ) (hK _ w ⟨hb, hset (by decide)⟩ hrf rfl))
    · exact wantD (ops := opsRS) (n := 2) (by decide) (.inl rfl) (wpD_val (rRS_2 b w u k t mm n2 c2 a2 p mb L H m vs (g 1 (by decide) (by decide +kernel)) ) (hK _ w ⟨hb, hset (by decide)⟩ hrf rfl))
    · exact wantD (ops := opsRS) (n := 3) (by decide) (.inl rfl) (wpD_val (rRS_3 b w u k t mm n2 c2 a2 p mb L H m vs (g 2 (by decide) (by decide +kernel)) ) (hK _ w ⟨hb, hset (by decide)⟩ hrf rfl))
    · exact wantD (ops := opsRS) (n := 4) (by decide) (.inl rfl) (wpD_val (rRS_4 b w u k t mm n2 c2 a2 p mb L H m vs (g 3 (by decide) (by decide +kernel)) ((World.cell?_of_block (a := ⟨p, 2, none⟩) (hb.block p hob nO)).trans o1)) (hK _ w ⟨hb, hset (by decide)⟩ hrf rfl))
    · exact wantD (ops := opsRS) (n := 5) (by decide) (.inl rfl) (wpD_val (rRS_5 b w u k t mm n2 c2 a2 p mb L H m vs ((keep 3 (by decide)).trans q3) ((World.cell?_of_block (a := ⟨mb, 0, none⟩) (hb.block mb hmb nM)).trans b0) ((World.cell?_of_block (a := ⟨mb, 1, none⟩) (hb.block mb hmb nM)).trans b1) ((World.cell?_of_block (a := ⟨mb, 2, none⟩) (hb.block mb hmb nM)).trans b2) ((World.cell?_of_block (a := ⟨mb, 3, none⟩) (hb.block mb hmb nM)).trans b3)) (hK _ w ⟨hb, hset (by decide)⟩ hrf rfl))
    · have e33 := g 5 (by decide) (by decide +kernel)
      have hbw := hID.2 (hcl 7 (by decide) (by decide +kernel))
      have hal : Below w.heap.size w (w.alloc (.cells #[.int .i64 k, .int .i64 t, .int .i64 mm, .slice a2 n2 c2] 26)) := (Below.refl _ _).alloc (Nat.le_refl _) _
      exact wantD (ops := opsRS) (n := 6) (by decide) (.inl rfl) (wpD_val (rRS_6 b w k t mm n2 c2 a2 e33) (hK _ _ ⟨hb.trans (below_grown hal _), fun _ => hbw.trans (hal.mono hbw.size)⟩ hal ⟨w.heap.size, rfl, by simp, by simp [World.cell?_alloc_at], by simp [World.cell?_alloc_at], by simp [World.cell?_alloc_at], by simp [World.cell?_alloc_at], fun h => by have := hOH _ h; have := hbw.size; omega⟩))
    · have hbw := hID.2 hli
      obtain ⟨gb, e34, g1, z0, z1, z2, z3, g3⟩ := g 6 (by decide) (by decide +kernel)
      have e32 := g 4 (by decide) (by decide +kernel)
      refine wantD (ops := opsRS) (n := 7) (by decide) (.inl rfl) (wp_append_lies w (.tmp 32) (.tmp 34) 32 rfl L 26 i0 (.agg #[.int .i64 0, .int .i64 0, .int .i64 0, .slice none 0 0]) 4 48 Tryz.underlying32 hi0 hz0 hz1 hz2 rfl (by decide) u m vs e32 (own_of_block HR (fun q hq => hbw.block q (World.ownsRow.lt HR q hq).2)) ⟨gb, 0, none⟩ 1 1 [.int .i64 k, .int .i64 t, .int .i64 mm, .slice a2 n2 c2] e34 rfl ?_ (by intro u hu; simp at hu; rcases hu with rfl | rfl | rfl | rfl <;> rfl) (by decide) (by unfold maxLen; omega) (by omega) (by have := hbw.size; omega) w.heap.size rfl ?_)
      · intro j u hu
        match j, hu with
        | 0, hu => cases hu; exact z0
        | 1, hu => cases hu; exact z1
        | 2, hu => cases hu; exact z2
        | 3, hu => cases hu; exact z3
      · intro g' cap w' k1 k2 k3 _
        exact hK _ w' ⟨hb.trans k2, fun h => by rw [set_getD hls (by decide), if_pos rfl] at h; cases h⟩ k2 ⟨g', cap, rfl, k3.imp id (fun e => by have := hbw.size; omega), k1⟩
    · exact wantD (ops := opsRS) (n := 8) (by decide) (.inl rfl) (wpD_val (rRS_8 b w u k t mm n2 c2 a2 p mb L H m vs (g 0 (by decide) (by decide +kernel)) ) (hK _ w ⟨hb, hset (by decide)⟩ hrf rfl))
    · exact wantD (ops := opsRS) (n := 9) (by decide) (.inl rfl) (wpD_val (rRS_9 b w u k t mm n2 c2 a2 p mb L H m vs (g 8 (by decide) (by decide +kernel)) ) (hK _ w ⟨hb, hset (by decide)⟩ hrf rfl))
  · intro listed b w hall tz df keep hID g
    have hb := hID.1
    obtain ⟨g', cap, e53, h1, h2⟩ := g 7 (by decide)
    have e54 := g 9 (by decide)
    refine wantD (ops := opsRS) (n := 10) (by decide) (.inl rfl) (wpD_skip (rRS_10 b w p g' (m + 1) cap u e53 e54 ((World.cell?_of_block (a := ⟨p, 2, none⟩) (hb.block p hob nO)).trans o1) ((World.frozen?_of_block (a := ⟨p, 2, none⟩) (hb.block p hob nO)).trans f1)) ?_)
    show b.tmps.size = _ ∧ b.defers = _ ∧ _
    exact ⟨tz, df, fun d hd => keep d (fun j hj => hd j (by omega)), g', cap, w, rfl, h1, e53 ▸ h2, hb⟩

set_option maxHeartbeats 1600000 in
set_option maxRecDepth 100000 in
theorem regionXRS {Q : Exit → Act → World → Prop} {u1 u2 u4 u5 u6 u7 u8 u9 u10 u11 u12 u13 u14 u15 u16 u17 u18 u19 u20 u21 u22 u23 u24 u25 u26 u27 u28 u29 u30 u31 u32 u33 u34 u35 u36 u37 u38 u39 u40 u41 u42 u43 : Value} {ds : List Deferred} {w0 : World} (u : Value) (k t mm : Int) (n2 c2 : Nat) (a2 : Option Addr) (p mb L H m : Nat) (vs : List Value)
    (hL : L ≤ w0.heap.size) (hH : H ≤ w0.heap.size) (hOH : ∀ q, u.ownBlock = some q → q < w0.heap.size) (hm : m ≤ 1048576) (hmb : mb < w0.heap.size) (hob : p < w0.heap.size) (nM : some mb ≠ u.ownBlock) (nO : some p ≠ u.ownBlock) (b0 : w0.cell? ⟨mb, 0, none⟩ = some (.int .i64 k)) (b1 : w0.cell? ⟨mb, 1, none⟩ = some (.int .i64 t)) (b2 : w0.cell? ⟨mb, 2, none⟩ = some (.int .i64 mm)) (b3 : w0.cell? ⟨mb, 3, none⟩ = some (.slice a2 n2 c2)) (o1 : w0.cell? ⟨p, 2, none⟩ = some u) (f1 : w0.frozen? ⟨p, 2, none⟩ = false) (HR : w0.ownsRow L 26 4 u m vs)
    (hQ : ∀ (x28 x29 x30 x31 x32 x33 x34 x35 x36 x37 : Value) (g cap : Nat) (w2 : World), (u.ownBlock = some g ∨ H ≤ g) → w2.ownsRow L 26 4 (.slice (some ⟨g, 0, none⟩) (m + 1) cap) (m + 1) (vs ++ [.int .i64 k, .int .i64 t, .int .i64 mm, .slice a2 n2 c2]) → w0.grownBy w2 u.ownBlock → Q .normal ⟨#[.pointer (some ⟨p, 0, none⟩), u1, u2, .pointer (some ⟨mb, 0, none⟩), u4, u5, u6, u7, u8, u9, u10, u11, u12, u13, u14, u15, u16, u17, u18, u19, u20, u21, u22, u23, u24, u25, u26, u27, x28, x29, x30, x31, x32, x33, x34, x35, x36, x37, u38, u39, u40, u41, u42, u43], ds⟩ (w2.setCell ⟨p, 2, none⟩ (.slice (some ⟨g, 0, none⟩) (m + 1) cap))) :
    (Code.region 5 opsRS true).wp Tryz.prog Q ⟨#[.pointer (some ⟨p, 0, none⟩), u1, u2, .pointer (some ⟨mb, 0, none⟩), u4, u5, u6, u7, u8, u9, u10, u11, u12, u13, u14, u15, u16, u17, u18, u19, u20, u21, u22, u23, u24, u25, u26, u27, u28, u29, u30, u31, u32, u33, u34, u35, u36, u37, u38, u39, u40, u41, u42, u43], ds⟩ w0 := by
  refine regionRS Q _ w0 u k t mm n2 c2 a2 p mb L H m vs rfl rfl rfl hL hH hOH hm hmb hob nM nO b0 b1 b2 b3 o1 f1 HR ?_
  intro b w hz hd hkp hl
  obtain ⟨g, cap, w2, rfl, h1, h2, h3⟩ := hl
  have e : b = ⟨#[.pointer (some ⟨p, 0, none⟩), u1, u2, .pointer (some ⟨mb, 0, none⟩), u4, u5, u6, u7, u8, u9, u10, u11, u12, u13, u14, u15, u16, u17, u18, u19, u20, u21, u22, u23, u24, u25, u26, u27, b.tmps.getD 28 undef, b.tmps.getD 29 undef, b.tmps.getD 30 undef, b.tmps.getD 31 undef, b.tmps.getD 32 undef, b.tmps.getD 33 undef, b.tmps.getD 34 undef, b.tmps.getD 35 undef, b.tmps.getD 36 undef, b.tmps.getD 37 undef, u38, u39, u40, u41, u42, u43], ds⟩ := by
    have h1 := arrRS b.tmps hz
    have h2 : b = ⟨b.tmps, b.defers⟩ := rfl
    rw [h1, hd, hkp 0 (by decide), hkp 1 (by decide), hkp 2 (by decide), hkp 3 (by decide), hkp 4 (by decide), hkp 5 (by decide), hkp 6 (by decide), hkp 7 (by decide), hkp 8 (by decide), hkp 9 (by decide), hkp 10 (by decide), hkp 11 (by decide), hkp 12 (by decide), hkp 13 (by decide), hkp 14 (by decide), hkp 15 (by decide), hkp 16 (by decide), hkp 17 (by decide), hkp 18 (by decide), hkp 19 (by decide), hkp 20 (by decide), hkp 21 (by decide), hkp 22 (by decide), hkp 23 (by decide), hkp 24 (by decide), hkp 25 (by decide), hkp 26 (by decide), hkp 27 (by decide), hkp 38 (by decide), hkp 39 (by decide), hkp 40 (by decide), hkp 41 (by decide), hkp 42 (by decide), hkp 43 (by decide)] at h2
    exact h2
  rw [e]
  exact hQ _ _ _ _ _ _ _ _ _ _ g cap w2 h1 h2 h3
end Go.Proofs.YtjmgfpldjccilaaGreatDoor
