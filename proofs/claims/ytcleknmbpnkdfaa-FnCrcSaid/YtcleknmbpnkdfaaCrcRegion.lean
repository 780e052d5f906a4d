/- The last statement of the law FnCrc: its operations may come up in many orders, some of them guarded. -/
import Derived.Test.YtcleknmbpnkdfaaRegionG
import Derived.Test.YtcleknmbpnkdfaaCrcInj
import Derived.Test.YtcleknmbpnkdfaaCommon
namespace Go.Proofs.Ytcleknmbpnkdfaa
open Go Go.RowKit Go.PlainAid
set_option linter.unusedSimpArgs false
set_option linter.unusedVariables false

def opsC : Array Oper := #[
  { dst := some 24, op := Op.move (Operand.tmp 6), type := 3, pos := "laws.go:743", after := #[], guard := none },
  { dst := some 25, op := Op.move (Operand.tmp 5), type := 9, pos := "laws.go:743", after := #[], guard := none },
  { dst := some 26, op := Op.call { callee := Callee.value (Operand.func 6), args := #[Operand.tmp 25], argTypes := #[9] }, type := 3, pos := "laws.go:743", after := #[{ on := 1, ground := Ground.data }], guard := none },
  { dst := some 27, op := Op.binOp BinOp.eql 3 (Operand.tmp 24) (Operand.tmp 26) 3, type := 4, pos := "laws.go:743", after := #[{ on := 0, ground := Ground.data }, { on := 2, ground := Ground.data }], guard := none },
  { dst := some 28, op := Op.move (Operand.tmp 27), type := 4, pos := "laws.go:743", after := #[{ on := 3, ground := Ground.data }, { on := 2, ground := Ground.chain }], guard := none },
  { dst := some 29, op := Op.call { callee := Callee.value (Operand.func 5), args := #[Operand.const (Value.string { data := #[49, 50, 51, 52, 53, 54, 55, 56, 57] })], argTypes := #[9] }, type := 3, pos := "laws.go:743", after := #[{ on := 4, ground := Ground.chain }, { on := 4, ground := Ground.guard }], guard := some (4, true) },
  { dst := some 30, op := Op.binOp BinOp.eql 3 (Operand.tmp 29) (Operand.const (Value.int IntKind.i64 3421780262)) 3, type := 4, pos := "laws.go:743", after := #[{ on := 5, ground := Ground.data }, { on := 4, ground := Ground.guard }], guard := some (4, true) },
  { dst := some 31, op := Op.pick (Operand.tmp 28) (Operand.tmp 30) (Operand.const (Value.bool false)), type := 4, pos := "laws.go:743", after := #[{ on := 4, ground := Ground.data }, { on := 6, ground := Ground.data }], guard := none },
  { dst := some 32, op := Op.move (Operand.tmp 31), type := 4, pos := "laws.go:743", after := #[{ on := 7, ground := Ground.data }, { on := 5, ground := Ground.chain }], guard := none },
  { dst := some 33, op := Op.move (Operand.tmp 6), type := 3, pos := "laws.go:743", after := #[{ on := 8, ground := Ground.guard }], guard := some (8, true) },
  { dst := some 34, op := Op.binOp BinOp.geq 3 (Operand.tmp 33) (Operand.const (Value.int IntKind.i64 0)) 3, type := 4, pos := "laws.go:743", after := #[{ on := 9, ground := Ground.data }, { on := 8, ground := Ground.guard }], guard := some (8, true) },
  { dst := some 35, op := Op.pick (Operand.tmp 32) (Operand.tmp 34) (Operand.const (Value.bool false)), type := 4, pos := "laws.go:743", after := #[{ on := 8, ground := Ground.data }, { on := 10, ground := Ground.data }], guard := none },
  { dst := some 36, op := Op.move (Operand.tmp 35), type := 4, pos := "laws.go:743", after := #[{ on := 11, ground := Ground.data }, { on := 8, ground := Ground.chain }], guard := none },
  { dst := some 37, op := Op.move (Operand.tmp 6), type := 3, pos := "laws.go:743", after := #[{ on := 12, ground := Ground.guard }], guard := some (12, true) },
  { dst := some 38, op := Op.binOp BinOp.leq 3 (Operand.tmp 37) (Operand.const (Value.int IntKind.i64 4294967295)) 3, type := 4, pos := "laws.go:743", after := #[{ on := 13, ground := Ground.data }, { on := 12, ground := Ground.guard }], guard := some (12, true) },
  { dst := some 39, op := Op.pick (Operand.tmp 36) (Operand.tmp 38) (Operand.const (Value.bool false)), type := 4, pos := "laws.go:743", after := #[{ on := 12, ground := Ground.data }, { on := 14, ground := Ground.data }], guard := none },
  { dst := some 40, op := Op.move (Operand.tmp 39), type := 4, pos := "laws.go:743", after := #[{ on := 15, ground := Ground.data }, { on := 12, ground := Ground.chain }], guard := none },
  { dst := some 41, op := Op.move (Operand.tmp 5), type := 9, pos := "laws.go:743", after := #[{ on := 16, ground := Ground.guard }], guard := some (16, true) },
  { dst := some 42, op := Op.move (Operand.tmp 7), type := 5, pos := "laws.go:743", after := #[{ on := 16, ground := Ground.guard }], guard := some (16, true) },
  { dst := some 43, op := Op.buildSlice 22 1 #[(0, Operand.tmp 42)], type := 22, pos := "laws.go:743", after := #[{ on := 18, ground := Ground.data }, { on := 16, ground := Ground.guard }], guard := some (16, true) },
  { dst := some 44, op := Op.convert 22 9 (Operand.tmp 43), type := 9, pos := "laws.go:743", after := #[{ on := 19, ground := Ground.data }, { on := 16, ground := Ground.guard }], guard := some (16, true) },
  { dst := some 45, op := Op.binOp BinOp.add 9 (Operand.tmp 41) (Operand.tmp 44) 9, type := 9, pos := "laws.go:743", after := #[{ on := 17, ground := Ground.data }, { on := 20, ground := Ground.data }, { on := 16, ground := Ground.guard }], guard := some (16, true) },
  { dst := some 46, op := Op.call { callee := Callee.value (Operand.func 5), args := #[Operand.tmp 45], argTypes := #[9] }, type := 3, pos := "laws.go:743", after := #[{ on := 21, ground := Ground.data }, { on := 16, ground := Ground.chain }, { on := 16, ground := Ground.guard }], guard := some (16, true) },
  { dst := some 47, op := Op.move (Operand.tmp 5), type := 9, pos := "laws.go:743", after := #[{ on := 16, ground := Ground.guard }], guard := some (16, true) },
  { dst := some 48, op := Op.move (Operand.tmp 7), type := 5, pos := "laws.go:743", after := #[{ on := 16, ground := Ground.guard }], guard := some (16, true) },
  { dst := some 49, op := Op.binOp BinOp.add 5 (Operand.tmp 48) (Operand.const (Value.int IntKind.u8 1)) 5, type := 5, pos := "laws.go:743", after := #[{ on := 24, ground := Ground.data }, { on := 16, ground := Ground.guard }], guard := some (16, true) },
  { dst := some 50, op := Op.buildSlice 22 1 #[(0, Operand.tmp 49)], type := 22, pos := "laws.go:743", after := #[{ on := 25, ground := Ground.data }, { on := 16, ground := Ground.guard }], guard := some (16, true) },
  { dst := some 51, op := Op.convert 22 9 (Operand.tmp 50), type := 9, pos := "laws.go:743", after := #[{ on := 26, ground := Ground.data }, { on := 16, ground := Ground.guard }], guard := some (16, true) },
  { dst := some 52, op := Op.binOp BinOp.add 9 (Operand.tmp 47) (Operand.tmp 51) 9, type := 9, pos := "laws.go:743", after := #[{ on := 23, ground := Ground.data }, { on := 27, ground := Ground.data }, { on := 16, ground := Ground.guard }], guard := some (16, true) },
  { dst := some 53, op := Op.call { callee := Callee.value (Operand.func 5), args := #[Operand.tmp 52], argTypes := #[9] }, type := 3, pos := "laws.go:743", after := #[{ on := 28, ground := Ground.data }, { on := 22, ground := Ground.chain }, { on := 16, ground := Ground.guard }], guard := some (16, true) },
  { dst := some 54, op := Op.binOp BinOp.neq 3 (Operand.tmp 46) (Operand.tmp 53) 3, type := 4, pos := "laws.go:743", after := #[{ on := 22, ground := Ground.data }, { on := 29, ground := Ground.data }, { on := 16, ground := Ground.guard }], guard := some (16, true) },
  { dst := some 55, op := Op.pick (Operand.tmp 40) (Operand.tmp 54) (Operand.const (Value.bool false)), type := 4, pos := "laws.go:743", after := #[{ on := 16, ground := Ground.data }, { on := 30, ground := Ground.data }], guard := none },
  { dst := some 4, op := Op.assign (Operand.tmp 55), type := 4, pos := "laws.go:743", after := #[{ on := 31, ground := Ground.data }, { on := 29, ground := Ground.chain }, { on := 0, ground := Ground.phase }, { on := 1, ground := Ground.phase }, { on := 2, ground := Ground.phase }, { on := 3, ground := Ground.phase }, { on := 4, ground := Ground.phase }, { on := 5, ground := Ground.phase }, { on := 6, ground := Ground.phase }, { on := 7, ground := Ground.phase }, { on := 8, ground := Ground.phase }, { on := 9, ground := Ground.phase }, { on := 10, ground := Ground.phase }, { on := 11, ground := Ground.phase }, { on := 12, ground := Ground.phase }, { on := 13, ground := Ground.phase }, { on := 14, ground := Ground.phase }, { on := 15, ground := Ground.phase }, { on := 16, ground := Ground.phase }, { on := 17, ground := Ground.phase }, { on := 18, ground := Ground.phase }, { on := 19, ground := Ground.phase }, { on := 20, ground := Ground.phase }, { on := 21, ground := Ground.phase }, { on := 22, ground := Ground.phase }, { on := 23, ground := Ground.phase }, { on := 24, ground := Ground.phase }, { on := 25, ground := Ground.phase }, { on := 26, ground := Ground.phase }, { on := 27, ground := Ground.phase }, { on := 28, ground := Ground.phase }, { on := 29, ground := Ground.phase }, { on := 30, ground := Ground.phase }, { on := 31, ground := Ground.phase }], guard := none }]
theorem opsC_size : opsC.size = 33 := rfl
def dC (i : Nat) : Nat := [24, 25, 26, 27, 28, 29, 30, 31, 32, 33, 34, 35, 36, 37, 38, 39, 40, 41, 42, 43, 44, 45, 46, 47, 48, 49, 50, 51, 52, 53, 54, 55, 4].getD i 0
theorem dC_apart {i j : Nat} (hi : i < 33) (hj : j < 33) (h : i ≠ j) : dC i ≠ dC j := by
  have key : ∀ i j : Fin 33, i ≠ j → dC i.val ≠ dC j.val := by decide +kernel
  exact key ⟨i, hi⟩ ⟨j, hj⟩ (fun e => h (by cases e; rfl))
theorem dC_lt {i : Nat} (hi : i < 33) : dC i < 56 ∧ dC i ≠ 5 ∧ dC i ≠ 6 ∧ dC i ≠ 7 := by
  have key : ∀ i : Fin 33, dC i.val < 56 ∧ dC i.val ≠ 5 ∧ dC i.val ≠ 6 ∧ dC i.val ≠ 7 := by decide +kernel
  exact key ⟨i, hi⟩
/-- what each operation leaves -/
def PC (s s1 s2 : ByteArray) (M C1 C2 A A2 : Int) : Nat → Value → World → Prop
  | 0, v, _ => v = .int .i64 M
  | 1, v, _ => v = .string s
  | 2, v, _ => v = .int .i64 M
  | 3, v, _ => v = .bool true
  | 4, v, _ => v = .bool true
  | 5, v, _ => v = .int .i64 3421780262
  | 6, v, _ => v = .bool true
  | 7, v, _ => v = .bool true
  | 8, v, _ => v = .bool true
  | 9, v, _ => v = .int .i64 M
  | 10, v, _ => v = .bool true
  | 11, v, _ => v = .bool true
  | 12, v, _ => v = .bool true
  | 13, v, _ => v = .int .i64 M
  | 14, v, _ => v = .bool true
  | 15, v, _ => v = .bool true
  | 16, v, _ => v = .bool true
  | 17, v, _ => v = .string s
  | 18, v, _ => v = .int .u8 A
  | 19, v, w => ∃ g, v = .slice (some ⟨g, 0, none⟩) 1 1 ∧ g < w.heap.size ∧ w.cell? ⟨g, 0, none⟩ = some (.int .u8 A)
  | 20, v, _ => v = .string s1
  | 21, v, _ => v = .string (s ++ s1)
  | 22, v, _ => v = .int .i64 C1
  | 23, v, _ => v = .string s
  | 24, v, _ => v = .int .u8 A
  | 25, v, _ => v = .int .u8 A2
  | 26, v, w => ∃ g, v = .slice (some ⟨g, 0, none⟩) 1 1 ∧ g < w.heap.size ∧ w.cell? ⟨g, 0, none⟩ = some (.int .u8 A2)
  | 27, v, _ => v = .string s2
  | 28, v, _ => v = .string (s ++ s2)
  | 29, v, _ => v = .int .i64 C2
  | 30, v, _ => v = .bool true
  | 31, v, _ => v = .bool true
  | 32, v, _ => v = .bool true
  | _, _, _ => True
theorem PC.below {s s1 s2 : ByteArray} {M C1 C2 A A2 : Int} {i : Nat} {v : Value} {w w' : World} (h : PC s s1 s2 M C1 C2 A A2 i v w) (hb : Below w.heap.size w w') : PC s s1 s2 M C1 C2 A A2 i v w' := by
  unfold PC at h ⊢
  split at h <;> first | exact h | (obtain ⟨g, h1, h2, h3⟩ := h; exact ⟨g, h1, Nat.lt_of_lt_of_le h2 hb.size, (hb.cell (p := ⟨g, 0, none⟩) h2).trans h3⟩)
structure JC (s s1 s2 : ByteArray) (M C1 C2 A A2 : Int) (w0 : World) (a0 : Act) (listed : Array Bool) (a : Act) (w : World) : Prop where
  size : listed.size = 33
  tz : a.tmps.size = 56
  df : a.defers = a0.defers
  s5 : a.tmps.getD 5 undef = .string s
  s6 : a.tmps.getD 6 undef = .int .i64 M
  s7 : a.tmps.getD 7 undef = .int .u8 A
  bel : Below w0.heap.size w0 w
  val : ∀ i, i < 33 → listed.getD i false = true → PC s s1 s2 M C1 C2 A A2 i (a.tmps.getD (dC i) undef) w
theorem JC.step {s s1 s2 : ByteArray} {M C1 C2 A A2 : Int} {w0 : World} {a0 : Act} {listed : Array Bool} {a : Act} {w : World} (h : JC s s1 s2 M C1 C2 A A2 w0 a0 listed a w) {i : Nat} (hi : i < 33) {v : Value} {w' : World} (hb : Below w.heap.size w w') (hv : PC s s1 s2 M C1 C2 A A2 i v w') : JC s s1 s2 M C1 C2 A A2 w0 a0 (listed.setIfInBounds i true) (a.put (some (dC i)) v) w' := by
  obtain ⟨l1, l2, l3, l4⟩ := dC_lt hi
  have hg : ∀ j, (listed.setIfInBounds i true).getD j false = if i = j then true else listed.getD j false := by
    intro j
    simp only [Array.getD_eq_getD_getElem?, Array.getElem?_setIfInBounds]
    split
    · rw [if_pos (by rw [h.size]; exact hi)]; rfl
    · rfl
  refine ⟨by simpa using h.size, by rw [put_sizeG]; exact h.tz, h.df, (put_otherG l2).trans h.s5, (put_otherG l3).trans h.s6, (put_otherG l4).trans h.s7, h.bel.trans (hb.mono h.bel.size), ?_⟩
  intro j hj hl
  rw [hg] at hl
  by_cases e : i = j
  · subst e
    rw [put_selfG (by rw [h.tz]; exact l1)]; exact hv
  · rw [if_neg e] at hl
    rw [put_otherG (dC_apart hi hj e)]
    exact (h.val j hj hl).below hb
theorem conv_one (n : Int) (h0 : 0 ≤ n) (h1 : n < 256) (W : World) (b : Nat) (hc : W.cell? ⟨b, 0, none⟩ = some (.int .u8 n)) : (convert 22 9 (.slice (some ⟨b, 0, none⟩) 1 1)).run Try.prog W = .ok (.string ⟨#[UInt8.ofNat n.toNat]⟩) W := by
  refine run_convert_bytes_back (P := Try.prog) W 22 9 5 ⟨b, 0, none⟩ 1 [UInt8.ofNat n.toNat] Try.underlying22 Try.underlying5 Try.underlying9 ?_
  intro j hj
  match j, hj with
  | 0, _ =>
    have e : ((UInt8.ofNat n.toNat).toNat : Int) = n := by
      rw [UInt8.toNat_ofNat']; omega
    simp only [List.getElem_cons_zero, e]
    simpa [Addr.add] using hc

set_option maxRecDepth 100000 in
theorem rC0 (a : Act) (w : World) (s s1 s2 : ByteArray) (M C1 C2 A A2 : Int) (e0 : a.tmps.getD 6 undef = .int .i64 M)  : (execOp a.eval (opsC[0]'(by decide))).run Try.prog w = .ok (.value (.int .i64 M)) w := by
  show (execOp a.eval { dst := some 24, op := Op.move (Operand.tmp 6), type := _, pos := _, after := _, guard := _ }).run Try.prog w = _
  rw [Array.getD_eq_getD_getElem?] at e0
  simp [execOp, Act.eval, go_sem, resolve, invoke, e0]

set_option maxRecDepth 100000 in
theorem rC1 (a : Act) (w : World) (s s1 s2 : ByteArray) (M C1 C2 A A2 : Int) (e0 : a.tmps.getD 5 undef = .string s)  : (execOp a.eval (opsC[1]'(by decide))).run Try.prog w = .ok (.value (.string s)) w := by
  show (execOp a.eval { dst := some 25, op := Op.move (Operand.tmp 5), type := _, pos := _, after := _, guard := _ }).run Try.prog w = _
  rw [Array.getD_eq_getD_getElem?] at e0
  simp [execOp, Act.eval, go_sem, resolve, invoke, e0]

set_option maxRecDepth 100000 in
theorem rC2 (a : Act) (w : World) (s s1 s2 : ByteArray) (M C1 C2 A A2 : Int) (e0 : a.tmps.getD 25 undef = .string s)  : (execOp a.eval (opsC[2]'(by decide))).run Try.prog w = .ok (.enter 6 #[.string s]) w := by
  show (execOp a.eval { dst := some 26, op := Op.call { callee := Callee.value (Operand.func 6), args := #[Operand.tmp 25], argTypes := #[9] }, type := _, pos := _, after := _, guard := _ }).run Try.prog w = _
  rw [Array.getD_eq_getD_getElem?] at e0
  simp [execOp, Act.eval, go_sem, resolve, invoke, e0]

set_option maxRecDepth 100000 in
theorem rC3 (a : Act) (w : World) (s s1 s2 : ByteArray) (M C1 C2 A A2 : Int) (e0 : a.tmps.getD 24 undef = .int .i64 M) (e1 : a.tmps.getD 26 undef = .int .i64 M)  : (execOp a.eval (opsC[3]'(by decide))).run Try.prog w = .ok (.value (.bool true)) w := by
  show (execOp a.eval { dst := some 27, op := Op.binOp BinOp.eql 3 (Operand.tmp 24) (Operand.tmp 26) 3, type := _, pos := _, after := _, guard := _ }).run Try.prog w = _
  rw [Array.getD_eq_getD_getElem?] at e0 e1
  simp [execOp, Act.eval, go_sem, resolve, invoke, e0, e1]

set_option maxRecDepth 100000 in
theorem rC4 (a : Act) (w : World) (s s1 s2 : ByteArray) (M C1 C2 A A2 : Int) (e0 : a.tmps.getD 27 undef = .bool true)  : (execOp a.eval (opsC[4]'(by decide))).run Try.prog w = .ok (.value (.bool true)) w := by
  show (execOp a.eval { dst := some 28, op := Op.move (Operand.tmp 27), type := _, pos := _, after := _, guard := _ }).run Try.prog w = _
  rw [Array.getD_eq_getD_getElem?] at e0
  simp [execOp, Act.eval, go_sem, resolve, invoke, e0]

set_option maxRecDepth 100000 in
theorem rC5 (a : Act) (w : World) (s s1 s2 : ByteArray) (M C1 C2 A A2 : Int)   : (execOp a.eval (opsC[5]'(by decide))).run Try.prog w = .ok (.enter 5 #[.string ⟨#[49, 50, 51, 52, 53, 54, 55, 56, 57]⟩]) w := by
  show (execOp a.eval { dst := some 29, op := Op.call { callee := Callee.value (Operand.func 5), args := #[Operand.const (Value.string { data := #[49, 50, 51, 52, 53, 54, 55, 56, 57] })], argTypes := #[9] }, type := _, pos := _, after := _, guard := _ }).run Try.prog w = _
  simp [execOp, Act.eval, go_sem, resolve, invoke]

set_option maxRecDepth 100000 in
theorem rC6 (a : Act) (w : World) (s s1 s2 : ByteArray) (M C1 C2 A A2 : Int) (e0 : a.tmps.getD 29 undef = .int .i64 3421780262)  : (execOp a.eval (opsC[6]'(by decide))).run Try.prog w = .ok (.value (.bool true)) w := by
  show (execOp a.eval { dst := some 30, op := Op.binOp BinOp.eql 3 (Operand.tmp 29) (Operand.const (Value.int IntKind.i64 3421780262)) 3, type := _, pos := _, after := _, guard := _ }).run Try.prog w = _
  rw [Array.getD_eq_getD_getElem?] at e0
  simp [execOp, Act.eval, go_sem, resolve, invoke, e0]

set_option maxRecDepth 100000 in
theorem rC7 (a : Act) (w : World) (s s1 s2 : ByteArray) (M C1 C2 A A2 : Int) (e0 : a.tmps.getD 28 undef = .bool true) (e1 : a.tmps.getD 30 undef = .bool true)  : (execOp a.eval (opsC[7]'(by decide))).run Try.prog w = .ok (.value (.bool true)) w := by
  show (execOp a.eval { dst := some 31, op := Op.pick (Operand.tmp 28) (Operand.tmp 30) (Operand.const (Value.bool false)), type := _, pos := _, after := _, guard := _ }).run Try.prog w = _
  rw [Array.getD_eq_getD_getElem?] at e0 e1
  simp [execOp, Act.eval, go_sem, resolve, invoke, e0, e1]

set_option maxRecDepth 100000 in
theorem rC8 (a : Act) (w : World) (s s1 s2 : ByteArray) (M C1 C2 A A2 : Int) (e0 : a.tmps.getD 31 undef = .bool true)  : (execOp a.eval (opsC[8]'(by decide))).run Try.prog w = .ok (.value (.bool true)) w := by
  show (execOp a.eval { dst := some 32, op := Op.move (Operand.tmp 31), type := _, pos := _, after := _, guard := _ }).run Try.prog w = _
  rw [Array.getD_eq_getD_getElem?] at e0
  simp [execOp, Act.eval, go_sem, resolve, invoke, e0]

set_option maxRecDepth 100000 in
theorem rC9 (a : Act) (w : World) (s s1 s2 : ByteArray) (M C1 C2 A A2 : Int) (e0 : a.tmps.getD 6 undef = .int .i64 M)  : (execOp a.eval (opsC[9]'(by decide))).run Try.prog w = .ok (.value (.int .i64 M)) w := by
  show (execOp a.eval { dst := some 33, op := Op.move (Operand.tmp 6), type := _, pos := _, after := _, guard := _ }).run Try.prog w = _
  rw [Array.getD_eq_getD_getElem?] at e0
  simp [execOp, Act.eval, go_sem, resolve, invoke, e0]

set_option maxRecDepth 100000 in
theorem rC10 (a : Act) (w : World) (s s1 s2 : ByteArray) (M C1 C2 A A2 : Int) (e0 : a.tmps.getD 33 undef = .int .i64 M) (h0 : 0 ≤ M) : (execOp a.eval (opsC[10]'(by decide))).run Try.prog w = .ok (.value (.bool true)) w := by
  show (execOp a.eval { dst := some 34, op := Op.binOp BinOp.geq 3 (Operand.tmp 33) (Operand.const (Value.int IntKind.i64 0)) 3, type := _, pos := _, after := _, guard := _ }).run Try.prog w = _
  rw [Array.getD_eq_getD_getElem?] at e0
  simp [execOp, Act.eval, go_sem, resolve, invoke, e0, h0]

set_option maxRecDepth 100000 in
theorem rC11 (a : Act) (w : World) (s s1 s2 : ByteArray) (M C1 C2 A A2 : Int) (e0 : a.tmps.getD 32 undef = .bool true) (e1 : a.tmps.getD 34 undef = .bool true)  : (execOp a.eval (opsC[11]'(by decide))).run Try.prog w = .ok (.value (.bool true)) w := by
  show (execOp a.eval { dst := some 35, op := Op.pick (Operand.tmp 32) (Operand.tmp 34) (Operand.const (Value.bool false)), type := _, pos := _, after := _, guard := _ }).run Try.prog w = _
  rw [Array.getD_eq_getD_getElem?] at e0 e1
  simp [execOp, Act.eval, go_sem, resolve, invoke, e0, e1]

set_option maxRecDepth 100000 in
theorem rC12 (a : Act) (w : World) (s s1 s2 : ByteArray) (M C1 C2 A A2 : Int) (e0 : a.tmps.getD 35 undef = .bool true)  : (execOp a.eval (opsC[12]'(by decide))).run Try.prog w = .ok (.value (.bool true)) w := by
  show (execOp a.eval { dst := some 36, op := Op.move (Operand.tmp 35), type := _, pos := _, after := _, guard := _ }).run Try.prog w = _
  rw [Array.getD_eq_getD_getElem?] at e0
  simp [execOp, Act.eval, go_sem, resolve, invoke, e0]

set_option maxRecDepth 100000 in
theorem rC13 (a : Act) (w : World) (s s1 s2 : ByteArray) (M C1 C2 A A2 : Int) (e0 : a.tmps.getD 6 undef = .int .i64 M)  : (execOp a.eval (opsC[13]'(by decide))).run Try.prog w = .ok (.value (.int .i64 M)) w := by
  show (execOp a.eval { dst := some 37, op := Op.move (Operand.tmp 6), type := _, pos := _, after := _, guard := _ }).run Try.prog w = _
  rw [Array.getD_eq_getD_getElem?] at e0
  simp [execOp, Act.eval, go_sem, resolve, invoke, e0]

set_option maxRecDepth 100000 in
theorem rC14 (a : Act) (w : World) (s s1 s2 : ByteArray) (M C1 C2 A A2 : Int) (e0 : a.tmps.getD 37 undef = .int .i64 M) (h0 : M ≤ 4294967295) : (execOp a.eval (opsC[14]'(by decide))).run Try.prog w = .ok (.value (.bool true)) w := by
  show (execOp a.eval { dst := some 38, op := Op.binOp BinOp.leq 3 (Operand.tmp 37) (Operand.const (Value.int IntKind.i64 4294967295)) 3, type := _, pos := _, after := _, guard := _ }).run Try.prog w = _
  rw [Array.getD_eq_getD_getElem?] at e0
  simp [execOp, Act.eval, go_sem, resolve, invoke, e0, h0]

set_option maxRecDepth 100000 in
theorem rC15 (a : Act) (w : World) (s s1 s2 : ByteArray) (M C1 C2 A A2 : Int) (e0 : a.tmps.getD 36 undef = .bool true) (e1 : a.tmps.getD 38 undef = .bool true)  : (execOp a.eval (opsC[15]'(by decide))).run Try.prog w = .ok (.value (.bool true)) w := by
  show (execOp a.eval { dst := some 39, op := Op.pick (Operand.tmp 36) (Operand.tmp 38) (Operand.const (Value.bool false)), type := _, pos := _, after := _, guard := _ }).run Try.prog w = _
  rw [Array.getD_eq_getD_getElem?] at e0 e1
  simp [execOp, Act.eval, go_sem, resolve, invoke, e0, e1]

set_option maxRecDepth 100000 in
theorem rC16 (a : Act) (w : World) (s s1 s2 : ByteArray) (M C1 C2 A A2 : Int) (e0 : a.tmps.getD 39 undef = .bool true)  : (execOp a.eval (opsC[16]'(by decide))).run Try.prog w = .ok (.value (.bool true)) w := by
  show (execOp a.eval { dst := some 40, op := Op.move (Operand.tmp 39), type := _, pos := _, after := _, guard := _ }).run Try.prog w = _
  rw [Array.getD_eq_getD_getElem?] at e0
  simp [execOp, Act.eval, go_sem, resolve, invoke, e0]

set_option maxRecDepth 100000 in
theorem rC17 (a : Act) (w : World) (s s1 s2 : ByteArray) (M C1 C2 A A2 : Int) (e0 : a.tmps.getD 5 undef = .string s)  : (execOp a.eval (opsC[17]'(by decide))).run Try.prog w = .ok (.value (.string s)) w := by
  show (execOp a.eval { dst := some 41, op := Op.move (Operand.tmp 5), type := _, pos := _, after := _, guard := _ }).run Try.prog w = _
  rw [Array.getD_eq_getD_getElem?] at e0
  simp [execOp, Act.eval, go_sem, resolve, invoke, e0]

set_option maxRecDepth 100000 in
theorem rC18 (a : Act) (w : World) (s s1 s2 : ByteArray) (M C1 C2 A A2 : Int) (e0 : a.tmps.getD 7 undef = .int .u8 A)  : (execOp a.eval (opsC[18]'(by decide))).run Try.prog w = .ok (.value (.int .u8 A)) w := by
  show (execOp a.eval { dst := some 42, op := Op.move (Operand.tmp 7), type := _, pos := _, after := _, guard := _ }).run Try.prog w = _
  rw [Array.getD_eq_getD_getElem?] at e0
  simp [execOp, Act.eval, go_sem, resolve, invoke, e0]

set_option maxRecDepth 100000 in
theorem rC19 (a : Act) (w : World) (s s1 s2 : ByteArray) (M C1 C2 A A2 : Int) (e0 : a.tmps.getD 42 undef = .int .u8 A)  : (execOp a.eval (opsC[19]'(by decide))).run Try.prog w = .ok (.value (.slice (some ⟨w.heap.size, 0, none⟩) 1 1)) (w.alloc (.cells #[.int .u8 A] 5)) := by
  show (execOp a.eval { dst := some 43, op := Op.buildSlice 22 1 #[(0, Operand.tmp 42)], type := _, pos := _, after := _, guard := _ }).run Try.prog w = _
  rw [Array.getD_eq_getD_getElem?] at e0
  simp [execOp, Act.eval, go_sem, resolve, invoke, e0]

set_option maxRecDepth 100000 in
theorem rC20 (a : Act) (w : World) (s s1 s2 : ByteArray) (M C1 C2 A A2 : Int) (g : Nat) (e0 : a.tmps.getD 43 undef = .slice (some ⟨g, 0, none⟩) 1 1) (h0 : 0 ≤ A) (h1 : A < 256) (c : w.cell? ⟨g, 0, none⟩ = some (.int .u8 A)) : (execOp a.eval (opsC[20]'(by decide))).run Try.prog w = .ok (.value (.string ⟨#[UInt8.ofNat A.toNat]⟩)) w := by
  show (execOp a.eval { dst := some 44, op := Op.convert 22 9 (Operand.tmp 43), type := _, pos := _, after := _, guard := _ }).run Try.prog w = _
  rw [Array.getD_eq_getD_getElem?] at e0
  have hcv := conv_one A h0 h1 w g c
  simp [execOp, Act.eval, go_sem, resolve, invoke, e0, hcv]

set_option maxRecDepth 100000 in
theorem rC21 (a : Act) (w : World) (s s1 s2 : ByteArray) (M C1 C2 A A2 : Int) (e0 : a.tmps.getD 41 undef = .string s) (e1 : a.tmps.getD 44 undef = .string s1) (hz : s.size + s1.size ≤ 9223372036854775807) : (execOp a.eval (opsC[21]'(by decide))).run Try.prog w = .ok (.value (.string (s ++ s1))) w := by
  show (execOp a.eval { dst := some 45, op := Op.binOp BinOp.add 9 (Operand.tmp 41) (Operand.tmp 44) 9, type := _, pos := _, after := _, guard := _ }).run Try.prog w = _
  rw [Array.getD_eq_getD_getElem?] at e0 e1
  simp [execOp, Act.eval, go_sem, resolve, invoke, e0, e1, hz]

set_option maxRecDepth 100000 in
theorem rC22 (a : Act) (w : World) (s s1 s2 : ByteArray) (M C1 C2 A A2 : Int) (e0 : a.tmps.getD 45 undef = .string (s ++ s1))  : (execOp a.eval (opsC[22]'(by decide))).run Try.prog w = .ok (.enter 5 #[.string (s ++ s1)]) w := by
  show (execOp a.eval { dst := some 46, op := Op.call { callee := Callee.value (Operand.func 5), args := #[Operand.tmp 45], argTypes := #[9] }, type := _, pos := _, after := _, guard := _ }).run Try.prog w = _
  rw [Array.getD_eq_getD_getElem?] at e0
  simp [execOp, Act.eval, go_sem, resolve, invoke, e0]

set_option maxRecDepth 100000 in
theorem rC23 (a : Act) (w : World) (s s1 s2 : ByteArray) (M C1 C2 A A2 : Int) (e0 : a.tmps.getD 5 undef = .string s)  : (execOp a.eval (opsC[23]'(by decide))).run Try.prog w = .ok (.value (.string s)) w := by
  show (execOp a.eval { dst := some 47, op := Op.move (Operand.tmp 5), type := _, pos := _, after := _, guard := _ }).run Try.prog w = _
  rw [Array.getD_eq_getD_getElem?] at e0
  simp [execOp, Act.eval, go_sem, resolve, invoke, e0]

set_option maxRecDepth 100000 in
theorem rC24 (a : Act) (w : World) (s s1 s2 : ByteArray) (M C1 C2 A A2 : Int) (e0 : a.tmps.getD 7 undef = .int .u8 A)  : (execOp a.eval (opsC[24]'(by decide))).run Try.prog w = .ok (.value (.int .u8 A)) w := by
  show (execOp a.eval { dst := some 48, op := Op.move (Operand.tmp 7), type := _, pos := _, after := _, guard := _ }).run Try.prog w = _
  rw [Array.getD_eq_getD_getElem?] at e0
  simp [execOp, Act.eval, go_sem, resolve, invoke, e0]

set_option maxRecDepth 100000 in
theorem rC25 (a : Act) (w : World) (s s1 s2 : ByteArray) (M C1 C2 A A2 : Int) (e0 : a.tmps.getD 48 undef = .int .u8 A) (h2 : IntKind.u8.wrap (A + 1) = A2) : (execOp a.eval (opsC[25]'(by decide))).run Try.prog w = .ok (.value (.int .u8 A2)) w := by
  show (execOp a.eval { dst := some 49, op := Op.binOp BinOp.add 5 (Operand.tmp 48) (Operand.const (Value.int IntKind.u8 1)) 5, type := _, pos := _, after := _, guard := _ }).run Try.prog w = _
  rw [Array.getD_eq_getD_getElem?] at e0
  simp [execOp, Act.eval, go_sem, resolve, invoke, e0, h2]

set_option maxRecDepth 100000 in
theorem rC26 (a : Act) (w : World) (s s1 s2 : ByteArray) (M C1 C2 A A2 : Int) (e0 : a.tmps.getD 49 undef = .int .u8 A2)  : (execOp a.eval (opsC[26]'(by decide))).run Try.prog w = .ok (.value (.slice (some ⟨w.heap.size, 0, none⟩) 1 1)) (w.alloc (.cells #[.int .u8 A2] 5)) := by
  show (execOp a.eval { dst := some 50, op := Op.buildSlice 22 1 #[(0, Operand.tmp 49)], type := _, pos := _, after := _, guard := _ }).run Try.prog w = _
  rw [Array.getD_eq_getD_getElem?] at e0
  simp [execOp, Act.eval, go_sem, resolve, invoke, e0]

set_option maxRecDepth 100000 in
theorem rC27 (a : Act) (w : World) (s s1 s2 : ByteArray) (M C1 C2 A A2 : Int) (g : Nat) (e0 : a.tmps.getD 50 undef = .slice (some ⟨g, 0, none⟩) 1 1) (h0 : 0 ≤ A2) (h1 : A2 < 256) (c : w.cell? ⟨g, 0, none⟩ = some (.int .u8 A2)) : (execOp a.eval (opsC[27]'(by decide))).run Try.prog w = .ok (.value (.string ⟨#[UInt8.ofNat A2.toNat]⟩)) w := by
  show (execOp a.eval { dst := some 51, op := Op.convert 22 9 (Operand.tmp 50), type := _, pos := _, after := _, guard := _ }).run Try.prog w = _
  rw [Array.getD_eq_getD_getElem?] at e0
  have hcv := conv_one A2 h0 h1 w g c
  simp [execOp, Act.eval, go_sem, resolve, invoke, e0, hcv]

set_option maxRecDepth 100000 in
theorem rC28 (a : Act) (w : World) (s s1 s2 : ByteArray) (M C1 C2 A A2 : Int) (e0 : a.tmps.getD 47 undef = .string s) (e1 : a.tmps.getD 51 undef = .string s2) (hz : s.size + s2.size ≤ 9223372036854775807) : (execOp a.eval (opsC[28]'(by decide))).run Try.prog w = .ok (.value (.string (s ++ s2))) w := by
  show (execOp a.eval { dst := some 52, op := Op.binOp BinOp.add 9 (Operand.tmp 47) (Operand.tmp 51) 9, type := _, pos := _, after := _, guard := _ }).run Try.prog w = _
  rw [Array.getD_eq_getD_getElem?] at e0 e1
  simp [execOp, Act.eval, go_sem, resolve, invoke, e0, e1, hz]

set_option maxRecDepth 100000 in
theorem rC29 (a : Act) (w : World) (s s1 s2 : ByteArray) (M C1 C2 A A2 : Int) (e0 : a.tmps.getD 52 undef = .string (s ++ s2))  : (execOp a.eval (opsC[29]'(by decide))).run Try.prog w = .ok (.enter 5 #[.string (s ++ s2)]) w := by
  show (execOp a.eval { dst := some 53, op := Op.call { callee := Callee.value (Operand.func 5), args := #[Operand.tmp 52], argTypes := #[9] }, type := _, pos := _, after := _, guard := _ }).run Try.prog w = _
  rw [Array.getD_eq_getD_getElem?] at e0
  simp [execOp, Act.eval, go_sem, resolve, invoke, e0]

set_option maxRecDepth 100000 in
theorem rC30 (a : Act) (w : World) (s s1 s2 : ByteArray) (M C1 C2 A A2 : Int) (e0 : a.tmps.getD 46 undef = .int .i64 C1) (e1 : a.tmps.getD 53 undef = .int .i64 C2) (hne : C1 ≠ C2) : (execOp a.eval (opsC[30]'(by decide))).run Try.prog w = .ok (.value (.bool true)) w := by
  show (execOp a.eval { dst := some 54, op := Op.binOp BinOp.neq 3 (Operand.tmp 46) (Operand.tmp 53) 3, type := _, pos := _, after := _, guard := _ }).run Try.prog w = _
  rw [Array.getD_eq_getD_getElem?] at e0 e1
  simp [execOp, Act.eval, go_sem, resolve, invoke, e0, e1, hne]

set_option maxRecDepth 100000 in
theorem rC31 (a : Act) (w : World) (s s1 s2 : ByteArray) (M C1 C2 A A2 : Int) (e0 : a.tmps.getD 40 undef = .bool true) (e1 : a.tmps.getD 54 undef = .bool true)  : (execOp a.eval (opsC[31]'(by decide))).run Try.prog w = .ok (.value (.bool true)) w := by
  show (execOp a.eval { dst := some 55, op := Op.pick (Operand.tmp 40) (Operand.tmp 54) (Operand.const (Value.bool false)), type := _, pos := _, after := _, guard := _ }).run Try.prog w = _
  rw [Array.getD_eq_getD_getElem?] at e0 e1
  simp [execOp, Act.eval, go_sem, resolve, invoke, e0, e1]

set_option maxRecDepth 100000 in
theorem rC32 (a : Act) (w : World) (s s1 s2 : ByteArray) (M C1 C2 A A2 : Int) (e0 : a.tmps.getD 55 undef = .bool true)  : (execOp a.eval (opsC[32]'(by decide))).run Try.prog w = .ok (.value (.bool true)) w := by
  show (execOp a.eval { dst := some 4, op := Op.assign (Operand.tmp 55), type := _, pos := _, after := _, guard := _ }).run Try.prog w = _
  rw [Array.getD_eq_getD_getElem?] at e0
  simp [execOp, Act.eval, go_sem, resolve, invoke, e0]

theorem backC : ∀ (j : Nat) (o : Oper), opsC[j]? = some o → ∀ e ∈ o.after, Region.binds .any e = true → e.on < j := back_ofG 33 rfl (by decide +kernel)
set_option maxHeartbeats 3200000 in
set_option maxRecDepth 100000 in
theorem regionC (Q : Exit → Act → World → Prop) (a0 : Act) (w0 : World) (s s1 s2 : ByteArray) (M C1 C2 A A2 : Int) (hz : a0.tmps.size = 56) (q5 : a0.tmps.getD 5 undef = .string s) (q6 : a0.tmps.getD 6 undef = .int .i64 M) (q7 : a0.tmps.getD 7 undef = .int .u8 A)
    (m0 : 0 ≤ M) (m1 : M ≤ 4294967295) (k0 : 0 ≤ A) (k1 : A < 256) (k2 : 0 ≤ A2) (k3 : A2 < 256) (hA : IntKind.u8.wrap (A + 1) = A2) (es1 : s1 = ⟨#[UInt8.ofNat A.toNat]⟩) (es2 : s2 = ⟨#[UInt8.ofNat A2.toNat]⟩) (hss : s.size + 1 ≤ 9223372036854775807) (hne : C1 ≠ C2)
    (HS : ∀ w, Calls Try.prog 6 #[.string s] w fun e w' => e = .returned (.int .i64 M) ∧ w' = w)
    (HK : ∀ w, Calls Try.prog 5 #[.string ⟨#[49, 50, 51, 52, 53, 54, 55, 56, 57]⟩] w fun e w' => e = .returned (.int .i64 3421780262) ∧ w' = w)
    (H1 : ∀ w, Calls Try.prog 5 #[.string (s ++ s1)] w fun e w' => e = .returned (.int .i64 C1) ∧ w' = w)
    (H2 : ∀ w, Calls Try.prog 5 #[.string (s ++ s2)] w fun e w' => e = .returned (.int .i64 C2) ∧ w' = w)
    (hQ : ∀ a w, a.tmps.size = 56 → a.defers = a0.defers → a.tmps.getD 4 undef = .bool true → Below w0.heap.size w0 w → Q .normal a w) :
    (Code.region 6 opsC true).wp Try.prog Q a0 w0 := by
  have hz1 : s1.size = 1 := by rw [es1]; rfl
  have hz2 : s2.size = 1 := by rw [es2]; rfl
  refine wp_region_any (by kernel_rfl) ?_
  change wpAny Try.prog .any opsC Q 33 (Array.replicate 33 false) a0 w0.drew
  have hdr : Below w0.heap.size w0 w0.drew := ⟨rfl, rfl, rfl, Nat.le_refl _, fun _ _ => rfl⟩
  refine wpAny_inv (ops := opsC) (JC s s1 s2 M C1 C2 A A2 w0 a0) (fun _ _ _ h => h.size.trans rfl) ?_ ?_ _ _ _ _ (by decide +kernel) ⟨rfl, hz, rfl, q5, q6, q7, hdr, fun i hi h => ?_⟩
  · intro listed a w i h hi
    obtain ⟨hi1, hi2, hi3⟩ := ready_mem hi
    have hi1 : i < 33 := hi1
    have hnew : ∀ o, Below w.heap.size w (w.alloc o) := fun o => (Below.refl _ _).alloc (Nat.le_refl _) o
    have hrf : Below w.heap.size w w := Below.refl _ _
    have g := fun j (hj : j < 33) (hc : ((opsC[i]?).map fun o => o.after.any fun e => (e.on == j) && Region.binds .any e).getD false = true) => h.val j hj (dep_ofG hi3 hc)
    have hcase : i = 0 ∨ i = 1 ∨ i = 2 ∨ i = 3 ∨ i = 4 ∨ i = 5 ∨ i = 6 ∨ i = 7 ∨ i = 8 ∨ i = 9 ∨ i = 10 ∨ i = 11 ∨ i = 12 ∨ i = 13 ∨ i = 14 ∨ i = 15 ∨ i = 16 ∨ i = 17 ∨ i = 18 ∨ i = 19 ∨ i = 20 ∨ i = 21 ∨ i = 22 ∨ i = 23 ∨ i = 24 ∨ i = 25 ∨ i = 26 ∨ i = 27 ∨ i = 28 ∨ i = 29 ∨ i = 30 ∨ i = 31 ∨ i = 32 := by omega
    rcases hcase with rfl | rfl | rfl | rfl | rfl | rfl | rfl | rfl | rfl | rfl | rfl | rfl | rfl | rfl | rfl | rfl | rfl | rfl | rfl | rfl | rfl | rfl | rfl | rfl | rfl | rfl | rfl | rfl | rfl | rfl | rfl | rfl | rfl
    · exact valG (ops := opsC) (n := 0) (by decide) rfl (.inl rfl) (rC0 a w s s1 s2 M C1 C2 A A2 h.s6) (h.step (i := 0) (by decide) hrf rfl)
    · exact valG (ops := opsC) (n := 1) (by decide) rfl (.inl rfl) (rC1 a w s s1 s2 M C1 C2 A A2 h.s5) (h.step (i := 1) (by decide) hrf rfl)
    · refine callG (ops := opsC) (n := 2) (by decide) rfl (.inl rfl) (rC2 a w s s1 s2 M C1 C2 A A2 (g 1 (by decide) (by decide +kernel))) ((HS w).mono ?_)
      rintro e w' ⟨rfl, rfl⟩
      exact ⟨_, rfl, h.step (i := 2) (by decide) (Below.refl _ _) rfl⟩
    · exact valG (ops := opsC) (n := 3) (by decide) rfl (.inl rfl) (rC3 a w s s1 s2 M C1 C2 A A2 (g 0 (by decide) (by decide +kernel)) (g 2 (by decide) (by decide +kernel))) (h.step (i := 3) (by decide) hrf rfl)
    · exact valG (ops := opsC) (n := 4) (by decide) rfl (.inl rfl) (rC4 a w s s1 s2 M C1 C2 A A2 (g 3 (by decide) (by decide +kernel))) (h.step (i := 4) (by decide) hrf rfl)
    · refine callG (ops := opsC) (n := 5) (by decide) rfl (.inr ⟨4, rfl, yields (d := 28) rfl (g 4 (by decide) (by decide +kernel))⟩) (rC5 a w s s1 s2 M C1 C2 A A2 ) ((HK w).mono ?_)
      rintro e w' ⟨rfl, rfl⟩
      exact ⟨_, rfl, h.step (i := 5) (by decide) (Below.refl _ _) rfl⟩
    · exact valG (ops := opsC) (n := 6) (by decide) rfl (.inr ⟨4, rfl, yields (d := 28) rfl (g 4 (by decide) (by decide +kernel))⟩) (rC6 a w s s1 s2 M C1 C2 A A2 (g 5 (by decide) (by decide +kernel))) (h.step (i := 6) (by decide) hrf rfl)
    · exact valG (ops := opsC) (n := 7) (by decide) rfl (.inl rfl) (rC7 a w s s1 s2 M C1 C2 A A2 (g 4 (by decide) (by decide +kernel)) (g 6 (by decide) (by decide +kernel))) (h.step (i := 7) (by decide) hrf rfl)
    · exact valG (ops := opsC) (n := 8) (by decide) rfl (.inl rfl) (rC8 a w s s1 s2 M C1 C2 A A2 (g 7 (by decide) (by decide +kernel))) (h.step (i := 8) (by decide) hrf rfl)
    · exact valG (ops := opsC) (n := 9) (by decide) rfl (.inr ⟨8, rfl, yields (d := 32) rfl (g 8 (by decide) (by decide +kernel))⟩) (rC9 a w s s1 s2 M C1 C2 A A2 h.s6) (h.step (i := 9) (by decide) hrf rfl)
    · exact valG (ops := opsC) (n := 10) (by decide) rfl (.inr ⟨8, rfl, yields (d := 32) rfl (g 8 (by decide) (by decide +kernel))⟩) (rC10 a w s s1 s2 M C1 C2 A A2 (g 9 (by decide) (by decide +kernel)) m0) (h.step (i := 10) (by decide) hrf rfl)
    · exact valG (ops := opsC) (n := 11) (by decide) rfl (.inl rfl) (rC11 a w s s1 s2 M C1 C2 A A2 (g 8 (by decide) (by decide +kernel)) (g 10 (by decide) (by decide +kernel))) (h.step (i := 11) (by decide) hrf rfl)
    · exact valG (ops := opsC) (n := 12) (by decide) rfl (.inl rfl) (rC12 a w s s1 s2 M C1 C2 A A2 (g 11 (by decide) (by decide +kernel))) (h.step (i := 12) (by decide) hrf rfl)
    · exact valG (ops := opsC) (n := 13) (by decide) rfl (.inr ⟨12, rfl, yields (d := 36) rfl (g 12 (by decide) (by decide +kernel))⟩) (rC13 a w s s1 s2 M C1 C2 A A2 h.s6) (h.step (i := 13) (by decide) hrf rfl)
    · exact valG (ops := opsC) (n := 14) (by decide) rfl (.inr ⟨12, rfl, yields (d := 36) rfl (g 12 (by decide) (by decide +kernel))⟩) (rC14 a w s s1 s2 M C1 C2 A A2 (g 13 (by decide) (by decide +kernel)) m1) (h.step (i := 14) (by decide) hrf rfl)
    · exact valG (ops := opsC) (n := 15) (by decide) rfl (.inl rfl) (rC15 a w s s1 s2 M C1 C2 A A2 (g 12 (by decide) (by decide +kernel)) (g 14 (by decide) (by decide +kernel))) (h.step (i := 15) (by decide) hrf rfl)
    · exact valG (ops := opsC) (n := 16) (by decide) rfl (.inl rfl) (rC16 a w s s1 s2 M C1 C2 A A2 (g 15 (by decide) (by decide +kernel))) (h.step (i := 16) (by decide) hrf rfl)
    · exact valG (ops := opsC) (n := 17) (by decide) rfl (.inr ⟨16, rfl, yields (d := 40) rfl (g 16 (by decide) (by decide +kernel))⟩) (rC17 a w s s1 s2 M C1 C2 A A2 h.s5) (h.step (i := 17) (by decide) hrf rfl)
    · exact valG (ops := opsC) (n := 18) (by decide) rfl (.inr ⟨16, rfl, yields (d := 40) rfl (g 16 (by decide) (by decide +kernel))⟩) (rC18 a w s s1 s2 M C1 C2 A A2 h.s7) (h.step (i := 18) (by decide) hrf rfl)
    · exact valG (ops := opsC) (n := 19) (by decide) rfl (.inr ⟨16, rfl, yields (d := 40) rfl (g 16 (by decide) (by decide +kernel))⟩) (rC19 a w s s1 s2 M C1 C2 A A2 (g 18 (by decide) (by decide +kernel))) (h.step (i := 19) (by decide) (hnew _) ⟨_, rfl, by simp, by simp [World.cell?_alloc_at]⟩)
    · obtain ⟨gg, e1, e2, e3⟩ := g 19 (by decide) (by decide +kernel)
      exact valG (ops := opsC) (n := 20) (by decide) rfl (.inr ⟨16, rfl, yields (d := 40) rfl (g 16 (by decide) (by decide +kernel))⟩) (rC20 a w s s1 s2 M C1 C2 A A2 gg e1 k0 k1 e3) (h.step (i := 20) (by decide) hrf (by rw [← es1]; rfl))
    · exact valG (ops := opsC) (n := 21) (by decide) rfl (.inr ⟨16, rfl, yields (d := 40) rfl (g 16 (by decide) (by decide +kernel))⟩) (rC21 a w s s1 s2 M C1 C2 A A2 (g 17 (by decide) (by decide +kernel)) (g 20 (by decide) (by decide +kernel)) (by omega)) (h.step (i := 21) (by decide) hrf rfl)
    · refine callG (ops := opsC) (n := 22) (by decide) rfl (.inr ⟨16, rfl, yields (d := 40) rfl (g 16 (by decide) (by decide +kernel))⟩) (rC22 a w s s1 s2 M C1 C2 A A2 (g 21 (by decide) (by decide +kernel))) ((H1 w).mono ?_)
      rintro e w' ⟨rfl, rfl⟩
      exact ⟨_, rfl, h.step (i := 22) (by decide) (Below.refl _ _) rfl⟩
    · exact valG (ops := opsC) (n := 23) (by decide) rfl (.inr ⟨16, rfl, yields (d := 40) rfl (g 16 (by decide) (by decide +kernel))⟩) (rC23 a w s s1 s2 M C1 C2 A A2 h.s5) (h.step (i := 23) (by decide) hrf rfl)
    · exact valG (ops := opsC) (n := 24) (by decide) rfl (.inr ⟨16, rfl, yields (d := 40) rfl (g 16 (by decide) (by decide +kernel))⟩) (rC24 a w s s1 s2 M C1 C2 A A2 h.s7) (h.step (i := 24) (by decide) hrf rfl)
    · exact valG (ops := opsC) (n := 25) (by decide) rfl (.inr ⟨16, rfl, yields (d := 40) rfl (g 16 (by decide) (by decide +kernel))⟩) (rC25 a w s s1 s2 M C1 C2 A A2 (g 24 (by decide) (by decide +kernel)) hA) (h.step (i := 25) (by decide) hrf rfl)
    · exact valG (ops := opsC) (n := 26) (by decide) rfl (.inr ⟨16, rfl, yields (d := 40) rfl (g 16 (by decide) (by decide +kernel))⟩) (rC26 a w s s1 s2 M C1 C2 A A2 (g 25 (by decide) (by decide +kernel))) (h.step (i := 26) (by decide) (hnew _) ⟨_, rfl, by simp, by simp [World.cell?_alloc_at]⟩)
    · obtain ⟨gg, e1, e2, e3⟩ := g 26 (by decide) (by decide +kernel)
      exact valG (ops := opsC) (n := 27) (by decide) rfl (.inr ⟨16, rfl, yields (d := 40) rfl (g 16 (by decide) (by decide +kernel))⟩) (rC27 a w s s1 s2 M C1 C2 A A2 gg e1 k2 k3 e3) (h.step (i := 27) (by decide) hrf (by rw [← es2]; rfl))
    · exact valG (ops := opsC) (n := 28) (by decide) rfl (.inr ⟨16, rfl, yields (d := 40) rfl (g 16 (by decide) (by decide +kernel))⟩) (rC28 a w s s1 s2 M C1 C2 A A2 (g 23 (by decide) (by decide +kernel)) (g 27 (by decide) (by decide +kernel)) (by omega)) (h.step (i := 28) (by decide) hrf rfl)
    · refine callG (ops := opsC) (n := 29) (by decide) rfl (.inr ⟨16, rfl, yields (d := 40) rfl (g 16 (by decide) (by decide +kernel))⟩) (rC29 a w s s1 s2 M C1 C2 A A2 (g 28 (by decide) (by decide +kernel))) ((H2 w).mono ?_)
      rintro e w' ⟨rfl, rfl⟩
      exact ⟨_, rfl, h.step (i := 29) (by decide) (Below.refl _ _) rfl⟩
    · exact valG (ops := opsC) (n := 30) (by decide) rfl (.inr ⟨16, rfl, yields (d := 40) rfl (g 16 (by decide) (by decide +kernel))⟩) (rC30 a w s s1 s2 M C1 C2 A A2 (g 22 (by decide) (by decide +kernel)) (g 29 (by decide) (by decide +kernel)) hne) (h.step (i := 30) (by decide) hrf rfl)
    · exact valG (ops := opsC) (n := 31) (by decide) rfl (.inl rfl) (rC31 a w s s1 s2 M C1 C2 A A2 (g 16 (by decide) (by decide +kernel)) (g 30 (by decide) (by decide +kernel))) (h.step (i := 31) (by decide) hrf rfl)
    · exact valG (ops := opsC) (n := 32) (by decide) rfl (.inl rfl) (rC32 a w s s1 s2 M C1 C2 A A2 (g 31 (by decide) (by decide +kernel))) (h.step (i := 32) (by decide) hrf rfl)
  · intro listed a w h hr0
    have hall := all_listedG (ops := opsC) (h.size.trans rfl) backC hr0
    exact hQ a w h.tz h.df (h.val 32 (by decide) (hall 32 (by decide))) h.bel
  · simp [Array.getD_eq_getD_getElem?, Array.getElem?_replicate, hi] at h
end Go.Proofs.Ytcleknmbpnkdfaa
