/- Drawn names of DrawCodeOf: the statement that lays them out and picks one, whatever the order. -/
import Derived.Test.YtbpfonmkbbnkcaaGreatDoorDrawRun
import Derived.Test.YtbpfonmkbbnkcaaGreatDoorRegionAny
namespace Go.Proofs.YtbpfonmkbbnkcaaGreatDoor
open Go Go.RowKit Go.PlainAid
set_option linter.unusedSimpArgs false
set_option linter.unusedVariables false

def opsD : Array Oper :=
      #[{ dst := some 10, op := Op.move (Operand.tmp 5), type := 23, pos := "l30_draw.go:145", after := #[],
          guard := none },
        { dst := some 11,
          op :=
            Op.buildSlice 31 4
              #[(0, Operand.const (Value.string { data := #[120] })),
                (1, Operand.const (Value.string { data := #[121] })),
                (2, Operand.const (Value.string { data := #[99] })),
                (3, Operand.const (Value.string { data := #[110] }))],
          type := 31, pos := "l30_draw.go:145", after := #[{ on := 10, ground := Ground.gcOnly Departure.lateStores }],
          guard := none },
        { dst := some 12,
          op :=
            Op.buildSlice 31 4
              #[(0, Operand.const (Value.string { data := #[110] })),
                (1, Operand.const (Value.string { data := #[99] })),
                (2, Operand.const (Value.string { data := #[121] })),
                (3, Operand.const (Value.string { data := #[120] }))],
          type := 31, pos := "l30_draw.go:145", after := #[{ on := 10, ground := Ground.gcOnly Departure.lateStores }],
          guard := none },
        { dst := some 13,
          op :=
            Op.buildSlice 31 2
              #[(0, Operand.const (Value.string { data := #[120] })),
                (1, Operand.const (Value.string { data := #[121] }))],
          type := 31, pos := "l30_draw.go:145", after := #[{ on := 10, ground := Ground.gcOnly Departure.lateStores }],
          guard := none },
        { dst := some 14,
          op :=
            Op.buildSlice 73 4
              #[(0, Operand.tmp 11), (1, Operand.tmp 12), (2, Operand.tmp 13),
                (3, Operand.const (Value.slice none 0 0))],
          type := 73, pos := "l30_draw.go:145",
          after :=
            #[{ on := 1, ground := Ground.data }, { on := 2, ground := Ground.data },
              { on := 3, ground := Ground.data }, { on := 10, ground := Ground.gcOnly Departure.lateStores }],
          guard := none },
        { dst := some 15, op := Op.move (Operand.tmp 4), type := 62, pos := "l30_draw.go:145", after := #[],
          guard := none },
        { dst := some 16,
          op :=
            Op.buildSlice 32 6
              #[(0, Operand.const (Value.int IntKind.i64 0)), (1, Operand.const (Value.int IntKind.i64 0)),
                (2, Operand.const (Value.int IntKind.i64 1)), (3, Operand.const (Value.int IntKind.i64 1)),
                (4, Operand.const (Value.int IntKind.i64 2)), (5, Operand.const (Value.int IntKind.i64 3))],
          type := 32, pos := "l30_draw.go:145", after := #[], guard := none },
        { dst := some 17,
          op :=
            Op.call
              { callee := Callee.value (Operand.func 54), args := #[Operand.tmp 15, Operand.tmp 16],
                argTypes := #[62, 32] },
          type := 3, pos := "l30_draw.go:145",
          after := #[{ on := 5, ground := Ground.data }, { on := 6, ground := Ground.data }], guard := none },
        { dst := some 18, op := Op.indexAddr 73 (Operand.tmp 14) (Operand.tmp 17), type := 0, pos := "l30_draw.go:145",
          after :=
            #[{ on := 4, ground := Ground.data }, { on := 7, ground := Ground.data },
              { on := 10, ground := Ground.gcOnly Departure.lateStores }],
          guard := none },
        { dst := some 19, op := Op.load 31 (Operand.tmp 18), type := 31, pos := "l30_draw.go:145",
          after := #[{ on := 8, ground := Ground.data }, { on := 10, ground := Ground.gcOnly Departure.lateStores }],
          guard := none },
        { dst := some 2, op := Op.assign (Operand.tmp 10), type := 23, pos := "l30_draw.go:145",
          after :=
            #[{ on := 0, ground := Ground.data }, { on := 7, ground := Ground.chain },
              { on := 0, ground := Ground.phase }, { on := 1, ground := Ground.textOnly Departure.lateStores },
              { on := 2, ground := Ground.textOnly Departure.lateStores },
              { on := 3, ground := Ground.textOnly Departure.lateStores },
              { on := 4, ground := Ground.textOnly Departure.lateStores },
              { on := 5, ground := Ground.textOnly Departure.lateStores },
              { on := 6, ground := Ground.textOnly Departure.lateStores },
              { on := 7, ground := Ground.textOnly Departure.lateStoresUnsure },
              { on := 8, ground := Ground.textOnly Departure.lateStores },
              { on := 9, ground := Ground.textOnly Departure.lateStores }],
          guard := none },
        { dst := some 3, op := Op.assign (Operand.tmp 19), type := 31, pos := "l30_draw.go:145",
          after :=
            #[{ on := 9, ground := Ground.data }, { on := 10, ground := Ground.chain },
              { on := 0, ground := Ground.phase }, { on := 1, ground := Ground.phase },
              { on := 2, ground := Ground.phase }, { on := 3, ground := Ground.phase },
              { on := 4, ground := Ground.phase }, { on := 5, ground := Ground.phase },
              { on := 6, ground := Ground.phase }, { on := 7, ground := Ground.phase },
              { on := 8, ground := Ground.phase }, { on := 9, ground := Ground.phase },
              { on := 10, ground := Ground.phase }],
          guard := none }]
theorem opsD_size : opsD.size = 12 := rfl
def dD (i : Nat) : Nat := [10, 11, 12, 13, 14, 15, 16, 17, 18, 19, 2, 3].getD i 0

/-- the names that are drawn for code -/
def DrawnCode (names : List ByteArray) : Prop := names = [nx, ny, nc, nn] ∨ names = [nn, nc, ny, nx] ∨ names = [nx, ny] ∨ names = []
def RowD (B g : Nat) (w : World) (l : List ByteArray) : Prop := B ≤ g ∧ g < w.heap.size ∧ ∀ i, (h : i < l.length) → w.cell? ⟨g, 0 + i, none⟩ = some (.string l[i])
/-- a value that is drawn names -/
def Nm (B : Nat) (v : Value) (w : World) : Prop := ∃ aa na ca names, v = .slice aa na ca ∧ DrawnCode names ∧ IsStrs w.heap.size w aa na names ∧ ∀ q o, aa = some ⟨q, o, none⟩ → B ≤ q
def TabD (B g : Nat) (w : World) : Prop := B ≤ g ∧ g < w.heap.size ∧ ∀ V, V < 4 → ∃ v, w.cell? ⟨g, V, none⟩ = some v ∧ Nm B v w
def IntD (B g : Nat) (w : World) : Prop := B ≤ g ∧ g < w.heap.size ∧ IsInts w.heap.size w (some ⟨g, 0, none⟩) 6 [0, 0, 1, 1, 2, 3]
theorem RowD.mv {B g p : Nat} {w w' : World} {l : List ByteArray} (h : RowD B g w l) (hm : Mv p w w') (hp : p < B) : RowD B g w' l :=
  ⟨h.1, Nat.lt_of_lt_of_le h.2.1 hm.size, fun i hi => (World.cell?_of_block (hm.block g h.2.1 (by have := h.1; omega))).trans (h.2.2 i hi)⟩
theorem Nm.mv {B p : Nat} {v : Value} {w w' : World} (h : Nm B v w) (hm : Mv p w w') (hp : p < B) : Nm B v w' := by
  obtain ⟨aa, na, ca, names, h1, h2, ⟨h3, h4⟩, h5⟩ := h
  refine ⟨aa, na, ca, names, h1, h2, ⟨h3, ?_⟩, h5⟩
  rcases h4 with h4 | ⟨q, o, rfl, hlt, hc⟩
  · exact .inl h4
  · have hq := h5 q o rfl
    exact .inr ⟨q, o, rfl, Nat.lt_of_lt_of_le hlt hm.size, fun i hi => (World.cell?_of_block (hm.block q hlt (by omega))).trans (hc i hi)⟩
theorem TabD.mv {B g p : Nat} {w w' : World} (h : TabD B g w) (hm : Mv p w w') (hp : p < B) : TabD B g w' :=
  ⟨h.1, Nat.lt_of_lt_of_le h.2.1 hm.size, fun V hV => by
    obtain ⟨v, h1, h2⟩ := h.2.2 V hV
    exact ⟨v, (World.cell?_of_block (hm.block g h.2.1 (by have := h.1; omega))).trans h1, h2.mv hm hp⟩⟩
theorem IntD.mv {B g p : Nat} {w w' : World} (h : IntD B g w) (hm : Mv p w w') (hp : p < B) : IntD B g w' := by
  obtain ⟨h1, h2, h3, h4⟩ := h
  refine ⟨h1, Nat.lt_of_lt_of_le h2 hm.size, h3, ?_⟩
  rcases h4 with h4 | ⟨q, o, e, hlt, hc⟩
  · cases h4
  · cases e
    exact .inr ⟨g, 0, rfl, Nat.lt_of_lt_of_le hlt hm.size, fun i hi => (World.cell?_of_block (hm.block g hlt (by omega))).trans (hc i hi)⟩
/-- what each operation leaves -/
def PD (B p : Nat) (lst : Value) : Nat → Value → World → Prop
  | 0, v, _ => v = lst
  | 1, v, w => ∃ g, v = .slice (some ⟨g, 0, none⟩) 4 4 ∧ RowD B g w [nx, ny, nc, nn]
  | 2, v, w => ∃ g, v = .slice (some ⟨g, 0, none⟩) 4 4 ∧ RowD B g w [nn, nc, ny, nx]
  | 3, v, w => ∃ g, v = .slice (some ⟨g, 0, none⟩) 2 2 ∧ RowD B g w [nx, ny]
  | 4, v, w => ∃ g, v = .slice (some ⟨g, 0, none⟩) 4 4 ∧ TabD B g w
  | 5, v, _ => v = .pointer (some ⟨p, 0, none⟩)
  | 6, v, w => ∃ g, v = .slice (some ⟨g, 0, none⟩) 6 6 ∧ IntD B g w
  | 7, v, _ => ∃ y : Nat, y < 4 ∧ v = .int .i64 y
  | 8, v, w => ∃ g, ∃ y : Nat, y < 4 ∧ v = .pointer (some ⟨g, y, none⟩) ∧ TabD B g w
  | 9, v, w => Nm B v w
  | 10, v, _ => v = lst
  | _, v, w => Nm B v w
theorem PD.mv {B p : Nat} {lst : Value} {i : Nat} {v : Value} {w w' : World} (h : PD B p lst i v w) (hm : Mv p w w') (hp : p < B) : PD B p lst i v w' := by
  unfold PD at h ⊢
  split at h
  · exact h
  · obtain ⟨g, h1, h2⟩ := h; exact ⟨g, h1, h2.mv hm hp⟩
  · obtain ⟨g, h1, h2⟩ := h; exact ⟨g, h1, h2.mv hm hp⟩
  · obtain ⟨g, h1, h2⟩ := h; exact ⟨g, h1, h2.mv hm hp⟩
  · obtain ⟨g, h1, h2⟩ := h; exact ⟨g, h1, h2.mv hm hp⟩
  · exact h
  · obtain ⟨g, h1, h2⟩ := h; exact ⟨g, h1, h2.mv hm hp⟩
  · exact h
  · obtain ⟨g, y, h1, h2, h3⟩ := h; exact ⟨g, y, h1, h2, h3.mv hm hp⟩
  · exact Nm.mv h hm hp
  · exact h
  · exact Nm.mv h hm hp

structure JD (B p : Nat) (lst : Value) (a1 : Option Addr) (n1 c1 : Nat) (bs1 : List Int) (k2 : Nat) (w0 : World) (a0 : Act) (listed : Array Bool) (a : Act) (w : World) : Prop where
  size : listed.size = 12
  tz : a.tmps.size = 20
  df : a.defers = a0.defers
  s4 : a.tmps.getD 4 undef = .pointer (some ⟨p, 0, none⟩)
  s5 : a.tmps.getD 5 undef = lst
  mv : Mv p w0 w
  rd : listed.getD 7 false = false → RdAt w p a1 n1 c1 bs1 k2
  val : ∀ i, i < 12 → listed.getD i false = true → PD B p lst i (a.tmps.getD (dD i) undef) w
theorem dD_apart {i j : Nat} (hi : i < 12) (hj : j < 12) (h : i ≠ j) : dD i ≠ dD j := by
  have key : ∀ i j : Fin 12, i ≠ j → dD i.val ≠ dD j.val := by decide
  exact key ⟨i, hi⟩ ⟨j, hj⟩ (fun e => h (by cases e; rfl))
theorem dD_lt {i : Nat} (hi : i < 12) : dD i < 20 ∧ dD i ≠ 4 ∧ dD i ≠ 5 := by
  have key : ∀ i : Fin 12, dD i.val < 20 ∧ dD i.val ≠ 4 ∧ dD i.val ≠ 5 := by decide
  exact key ⟨i, hi⟩
theorem JD.step {B p : Nat} {lst : Value} {a1 : Option Addr} {n1 c1 : Nat} {bs1 : List Int} {k2 : Nat} {w0 : World} {a0 : Act} {listed : Array Bool} {a : Act} {w : World} (h : JD B p lst a1 n1 c1 bs1 k2 w0 a0 listed a w) (hp : p < B) {i : Nat} (hi : i < 12) {v : Value} {w' : World} (hm : Mv p w w')
    (h7 : i = 7 ∨ (RdAt w p a1 n1 c1 bs1 k2 → RdAt w' p a1 n1 c1 bs1 k2)) (hv : PD B p lst i v w') : JD B p lst a1 n1 c1 bs1 k2 w0 a0 (listed.setIfInBounds i true) (a.put (some (dD i)) v) w' := by
  obtain ⟨l1, l2, l3⟩ := dD_lt hi
  have hg : ∀ j, (listed.setIfInBounds i true).getD j false = if i = j then true else listed.getD j false := by
    intro j
    simp only [Array.getD_eq_getD_getElem?, Array.getElem?_setIfInBounds]
    split
    · rw [if_pos (by rw [h.size]; exact hi)]; rfl
    · rfl
  refine ⟨by simpa using h.size, by rw [put_size']; exact h.tz, h.df, (put_other l2).trans h.s4, (put_other l3).trans h.s5, h.mv.trans hm, ?_, ?_⟩
  · intro h0
    rw [hg] at h0
    split at h0
    · cases h0
    · rename_i hne
      rcases h7 with h7 | h7
      · exact absurd h7 hne
      · exact h7 (h.rd h0)
  · intro j hj hl
    rw [hg] at hl
    by_cases e : i = j
    · subst e
      rw [put_self (by rw [h.tz]; exact l1)]; exact hv
    · rw [if_neg e] at hl
      rw [put_other (dD_apart hi hj e)]
      exact (h.val j hj hl).mv hm hp

set_option maxRecDepth 100000 in
theorem rD0 (a : Act) (w : World) {v : Value} (e : a.tmps.getD 5 undef = v) : (execOp a.eval (opsD[0]'(by decide))).run Tryz.prog w = .ok (.value v) w := by
  show (execOp a.eval { dst := some 10, op := Op.move (Operand.tmp 5), type := _, pos := _, after := _, guard := _ }).run Tryz.prog w = _
  simp [execOp, Act.eval, go_sem, e]

set_option maxRecDepth 100000 in
theorem rD1 (a : Act) (w : World) : (execOp a.eval (opsD[1]'(by decide))).run Tryz.prog w = .ok (.value (.slice (some ⟨w.heap.size, 0, none⟩) 4 4)) (w.alloc (.cells #[.string ⟨#[120]⟩, .string ⟨#[121]⟩, .string ⟨#[99]⟩, .string ⟨#[110]⟩] 9)) := by
  show (execOp a.eval { dst := some 11, op := Op.buildSlice 31 4 #[(0, (Operand.const (Value.string { data := #[120] }))), (1, (Operand.const (Value.string { data := #[121] }))), (2, (Operand.const (Value.string { data := #[99] }))), (3, (Operand.const (Value.string { data := #[110] })))], type := _, pos := _, after := _, guard := _ }).run Tryz.prog w = _
  simp [execOp, Act.eval, go_sem]

set_option maxRecDepth 100000 in
theorem rD2 (a : Act) (w : World) : (execOp a.eval (opsD[2]'(by decide))).run Tryz.prog w = .ok (.value (.slice (some ⟨w.heap.size, 0, none⟩) 4 4)) (w.alloc (.cells #[.string ⟨#[110]⟩, .string ⟨#[99]⟩, .string ⟨#[121]⟩, .string ⟨#[120]⟩] 9)) := by
  show (execOp a.eval { dst := some 12, op := Op.buildSlice 31 4 #[(0, (Operand.const (Value.string { data := #[110] }))), (1, (Operand.const (Value.string { data := #[99] }))), (2, (Operand.const (Value.string { data := #[121] }))), (3, (Operand.const (Value.string { data := #[120] })))], type := _, pos := _, after := _, guard := _ }).run Tryz.prog w = _
  simp [execOp, Act.eval, go_sem]

set_option maxRecDepth 100000 in
theorem rD3 (a : Act) (w : World) : (execOp a.eval (opsD[3]'(by decide))).run Tryz.prog w = .ok (.value (.slice (some ⟨w.heap.size, 0, none⟩) 2 2)) (w.alloc (.cells #[.string ⟨#[120]⟩, .string ⟨#[121]⟩] 9)) := by
  show (execOp a.eval { dst := some 13, op := Op.buildSlice 31 2 #[(0, (Operand.const (Value.string { data := #[120] }))), (1, (Operand.const (Value.string { data := #[121] })))], type := _, pos := _, after := _, guard := _ }).run Tryz.prog w = _
  simp [execOp, Act.eval, go_sem]

set_option maxRecDepth 100000 in
theorem rD4 (a : Act) (w : World) {g1 g2 g3 : Nat} (e1 : a.tmps.getD 11 undef = .slice (some ⟨g1, 0, none⟩) 4 4) (e2 : a.tmps.getD 12 undef = .slice (some ⟨g2, 0, none⟩) 4 4) (e3 : a.tmps.getD 13 undef = .slice (some ⟨g3, 0, none⟩) 2 2) : (execOp a.eval (opsD[4]'(by decide))).run Tryz.prog w = .ok (.value (.slice (some ⟨w.heap.size, 0, none⟩) 4 4)) (w.alloc (.cells #[.slice (some ⟨g1, 0, none⟩) 4 4, .slice (some ⟨g2, 0, none⟩) 4 4, .slice (some ⟨g3, 0, none⟩) 2 2, .slice none 0 0] 31)) := by
  show (execOp a.eval { dst := some 14, op := Op.buildSlice 73 4 #[(0, Operand.tmp 11), (1, Operand.tmp 12), (2, Operand.tmp 13), (3, Operand.const (Value.slice none 0 0))], type := _, pos := _, after := _, guard := _ }).run Tryz.prog w = _
  rw [Array.getD_eq_getD_getElem?] at e1 e2 e3
  simp [execOp, Act.eval, go_sem, e1, e2, e3]

set_option maxRecDepth 100000 in
theorem rD5 (a : Act) (w : World) {v : Value} (e : a.tmps.getD 4 undef = v) : (execOp a.eval (opsD[5]'(by decide))).run Tryz.prog w = .ok (.value v) w := by
  show (execOp a.eval { dst := some 15, op := Op.move (Operand.tmp 4), type := _, pos := _, after := _, guard := _ }).run Tryz.prog w = _
  simp [execOp, Act.eval, go_sem, e]

set_option maxRecDepth 100000 in
theorem rD6 (a : Act) (w : World) : (execOp a.eval (opsD[6]'(by decide))).run Tryz.prog w = .ok (.value (.slice (some ⟨w.heap.size, 0, none⟩) 6 6)) (w.alloc (.cells #[.int .i64 0, .int .i64 0, .int .i64 1, .int .i64 1, .int .i64 2, .int .i64 3] 3)) := by
  show (execOp a.eval { dst := some 16, op := Op.buildSlice 32 6 #[(0, Operand.const (Value.int IntKind.i64 0)), (1, Operand.const (Value.int IntKind.i64 0)), (2, Operand.const (Value.int IntKind.i64 1)), (3, Operand.const (Value.int IntKind.i64 1)), (4, Operand.const (Value.int IntKind.i64 2)), (5, Operand.const (Value.int IntKind.i64 3))], type := _, pos := _, after := _, guard := _ }).run Tryz.prog w = _
  simp [execOp, Act.eval, go_sem]

set_option maxRecDepth 100000 in
theorem rD7 (a : Act) (w : World) {x y : Value} (e1 : a.tmps.getD 15 undef = x) (e2 : a.tmps.getD 16 undef = y) : (execOp a.eval (opsD[7]'(by decide))).run Tryz.prog w = .ok (.enter 54 #[x, y]) w := by
  show (execOp a.eval { dst := some 17, op := Op.call { callee := Callee.value (Operand.func 54), args := #[Operand.tmp 15, Operand.tmp 16], argTypes := _ }, type := _, pos := _, after := _, guard := _ }).run Tryz.prog w = _
  simp [execOp, Act.eval, go_sem, e1, e2, resolve, invoke]

set_option maxRecDepth 100000 in
theorem rD8 (a : Act) (w : World) {g y : Nat} (e1 : a.tmps.getD 14 undef = .slice (some ⟨g, 0, none⟩) 4 4) (e2 : a.tmps.getD 17 undef = .int .i64 y) (hy : y < 4) (hy2 : (y : Int) < 4) : (execOp a.eval (opsD[8]'(by decide))).run Tryz.prog w = .ok (.value (.pointer (some ⟨g, y, none⟩))) w := by
  show (execOp a.eval { dst := some 18, op := Op.indexAddr 73 (Operand.tmp 14) (Operand.tmp 17), type := _, pos := _, after := _, guard := _ }).run Tryz.prog w = _
  simp [execOp, Act.eval, go_sem, e1, e2, hy, hy2]

set_option maxRecDepth 100000 in
theorem rD9 (a : Act) (w : World) {g y : Nat} {v : Value} (e1 : a.tmps.getD 18 undef = .pointer (some ⟨g, y, none⟩)) (c : w.cell? ⟨g, y, none⟩ = some v) : (execOp a.eval (opsD[9]'(by decide))).run Tryz.prog w = .ok (.value v) w := by
  show (execOp a.eval { dst := some 19, op := Op.load 31 (Operand.tmp 18), type := _, pos := _, after := _, guard := _ }).run Tryz.prog w = _
  simp [execOp, Act.eval, go_sem, e1, c]

set_option maxRecDepth 100000 in
theorem rD10 (a : Act) (w : World) {v : Value} (e : a.tmps.getD 10 undef = v) : (execOp a.eval (opsD[10]'(by decide))).run Tryz.prog w = .ok (.value v) w := by
  show (execOp a.eval { dst := some 2, op := Op.assign (Operand.tmp 10), type := _, pos := _, after := _, guard := _ }).run Tryz.prog w = _
  simp [execOp, Act.eval, go_sem, e]

set_option maxRecDepth 100000 in
theorem rD11 (a : Act) (w : World) {v : Value} (e : a.tmps.getD 19 undef = v) : (execOp a.eval (opsD[11]'(by decide))).run Tryz.prog w = .ok (.value v) w := by
  show (execOp a.eval { dst := some 3, op := Op.assign (Operand.tmp 19), type := _, pos := _, after := _, guard := _ }).run Tryz.prog w = _
  simp [execOp, Act.eval, go_sem, e]

theorem backD : ∀ (j : Nat) (o : Oper), opsD[j]? = some o → ∀ e ∈ o.after, Region.binds .any e = true → e.on < j := back_of 12 rfl (by decide +kernel)
theorem rowD_new {w : World} {l : List ByteArray} {B : Nat} {cs : Array Value} {t : TypeId} (hB : B ≤ w.heap.size) (h : ∀ i, (h : i < l.length) → cs[i]? = some (.string l[i])) : RowD B w.heap.size (w.alloc (.cells cs t)) l :=
  ⟨hB, by simp, fun i hi => by
    rw [Nat.zero_add]
    have := h i hi
    simp [World.cell?_alloc_at, this]⟩
theorem RowD.nm {B g n c : Nat} {w : World} {l : List ByteArray} (h : RowD B g w l) (hl : l.length = n) (hd : DrawnCode l) : Nm B (.slice (some ⟨g, 0, none⟩) n c) w :=
  ⟨_, _, _, l, rfl, hd, ⟨hl, .inr ⟨g, 0, rfl, h.2.1, h.2.2⟩⟩, fun q o e => by cases e; exact h.1⟩

set_option maxHeartbeats 1600000 in
set_option maxRecDepth 100000 in
theorem regionD (Q : Exit → Act → World → Prop) (a0 : Act) (w0 : World) (p : Nat) (lst : Value) (a1 : Option Addr) (n1 c1 : Nat) (bs1 : List Int) (k2 : Nat) (hz : a0.tmps.size = 20) (s4 : a0.tmps.getD 4 undef = .pointer (some ⟨p, 0, none⟩)) (s5 : a0.tmps.getD 5 undef = lst) (hk : k2 ≤ 1000000) (hr : RdAt w0 p a1 n1 c1 bs1 k2)
    (hQ : ∀ a w, a.tmps.size = 20 → a.defers = a0.defers → a.tmps.getD 2 undef = lst → Nm w0.heap.size (a.tmps.getD 3 undef) w → Mv p w0 w → Q .normal a w) :
    (Code.region 3 opsD true).wp Tryz.prog Q a0 w0 := by
  have hp := hr.lt
  refine wp_region_any (by kernel_rfl) ?_
  change wpAny Tryz.prog .any opsD Q 12 (Array.replicate 12 false) a0 w0.drew
  have hdr : Below w0.heap.size w0 w0.drew := ⟨rfl, rfl, rfl, Nat.le_refl _, fun _ _ => rfl⟩
  refine wpAny_inv (ops := opsD) (JD w0.heap.size p lst a1 n1 c1 bs1 k2 w0 a0) (fun _ _ _ h => h.size.trans rfl) ?_ ?_ _ _ _ _ (by decide +kernel) ⟨rfl, hz, rfl, s4, s5, Mv.of_below hdr, fun _ => hr.below hdr, fun i hi h => ?_⟩
  · intro listed a w i h hi
    obtain ⟨hi1, hi2, hi3⟩ := ready_mem hi
    have hi1 : i < 12 := hi1
    have hsz := h.mv.size
    have hnew : ∀ o, Below w.heap.size w (w.alloc o) := fun o => (Below.refl _ _).alloc (Nat.le_refl _) o
    have g := fun j (hj : j < 12) (hc : ((opsD[i]?).map fun o => o.after.any fun e => (e.on == j) && Region.binds .any e).getD false = true) => h.val j hj (dep_of hi3 hc)
    have hcase : i = 0 ∨ i = 1 ∨ i = 2 ∨ i = 3 ∨ i = 4 ∨ i = 5 ∨ i = 6 ∨ i = 7 ∨ i = 8 ∨ i = 9 ∨ i = 10 ∨ i = 11 := by omega
    rcases hcase with rfl | rfl | rfl | rfl | rfl | rfl | rfl | rfl | rfl | rfl | rfl | rfl
    · exact val_of (ops := opsD) (n := 0) (by decide) rfl rfl (rD0 a w h.s5) (h.step hp (i := 0) (by decide) (Mv.refl _ _) (.inr id) rfl)
    · exact val_of (ops := opsD) (n := 1) (by decide) rfl rfl (rD1 a w) (h.step hp (i := 1) (by decide) (Mv.of_below (hnew _)) (.inr fun q => q.below (hnew _)) ⟨_, rfl, rowD_new hsz (by intro i hi; simp at hi; have : i = 0 ∨ i = 1 ∨ i = 2 ∨ i = 3 := (by omega); rcases this with rfl | rfl | rfl | rfl <;> rfl)⟩)
    · exact val_of (ops := opsD) (n := 2) (by decide) rfl rfl (rD2 a w) (h.step hp (i := 2) (by decide) (Mv.of_below (hnew _)) (.inr fun q => q.below (hnew _)) ⟨_, rfl, rowD_new hsz (by intro i hi; simp at hi; have : i = 0 ∨ i = 1 ∨ i = 2 ∨ i = 3 := (by omega); rcases this with rfl | rfl | rfl | rfl <;> rfl)⟩)
    · exact val_of (ops := opsD) (n := 3) (by decide) rfl rfl (rD3 a w) (h.step hp (i := 3) (by decide) (Mv.of_below (hnew _)) (.inr fun q => q.below (hnew _)) ⟨_, rfl, rowD_new hsz (by intro i hi; simp at hi; have : i = 0 ∨ i = 1 := (by omega); rcases this with rfl | rfl <;> rfl)⟩)
    · obtain ⟨g1, e1, r1⟩ := g 1 (by decide) (by decide +kernel)
      obtain ⟨g2, e2, r2⟩ := g 2 (by decide) (by decide +kernel)
      obtain ⟨g3, e3, r3⟩ := g 3 (by decide) (by decide +kernel)
      refine val_of (ops := opsD) (n := 4) (by decide) rfl rfl (rD4 a w e1 e2 e3) (h.step hp (i := 4) (by decide) (Mv.of_below (hnew _)) (.inr fun q => q.below (hnew _)) ⟨_, rfl, hsz, by simp, fun V hV => ?_⟩)
      have hm := Mv.of_below (p := p) (hnew (.cells #[.slice (some ⟨g1, 0, none⟩) 4 4, .slice (some ⟨g2, 0, none⟩) 4 4, .slice (some ⟨g3, 0, none⟩) 2 2, .slice none 0 0] 31))
      have hV' : V = 0 ∨ V = 1 ∨ V = 2 ∨ V = 3 := by omega
      rcases hV' with rfl | rfl | rfl | rfl
      · exact ⟨_, by first | (simp [World.cell?_alloc_at]; done) | (simp [World.cell?_alloc_at]; rfl), (r1.mv hm hp).nm rfl (.inl rfl)⟩
      · exact ⟨_, by first | (simp [World.cell?_alloc_at]; done) | (simp [World.cell?_alloc_at]; rfl), (r2.mv hm hp).nm rfl (.inr (.inl rfl))⟩
      · exact ⟨_, by first | (simp [World.cell?_alloc_at]; done) | (simp [World.cell?_alloc_at]; rfl), (r3.mv hm hp).nm rfl (.inr (.inr (.inl rfl)))⟩
      · exact ⟨_, by first | (simp [World.cell?_alloc_at]; done) | (simp [World.cell?_alloc_at]; rfl), none, 0, 0, [], rfl, .inr (.inr (.inr rfl)), ⟨rfl, .inl rfl⟩, fun q o e => by cases e⟩
    · exact val_of (ops := opsD) (n := 5) (by decide) rfl rfl (rD5 a w h.s4) (h.step hp (i := 5) (by decide) (Mv.refl _ _) (.inr id) rfl)
    · refine val_of (ops := opsD) (n := 6) (by decide) rfl rfl (rD6 a w) (h.step hp (i := 6) (by decide) (Mv.of_below (hnew _)) (.inr fun q => q.below (hnew _)) ⟨_, rfl, hsz, by simp, rfl, .inr ⟨_, 0, rfl, by simp, fun i hi => ?_⟩⟩)
      have : i = 0 ∨ i = 1 ∨ i = 2 ∨ i = 3 ∨ i = 4 ∨ i = 5 := by omega
      rcases this with rfl | rfl | rfl | rfl | rfl | rfl <;> simp [World.cell?_alloc_at]
    · have e5 : a.tmps.getD 15 undef = .pointer (some ⟨p, 0, none⟩) := g 5 (by decide) (by decide +kernel)
      obtain ⟨g6, e6, i1, i2, i3, i4⟩ := g 6 (by decide) (by decide +kernel)
      have hl7 : listed.getD 7 false = false := by
        have h7 : 7 < listed.size := by rw [h.size]; decide
        simp [Array.getD, h7] at hi2 ⊢; exact hi2
      refine call_of (ops := opsD) (n := 7) (by decide) rfl rfl (rD7 a w e5 e6) ?_
      have hrow : RowI w p (some ⟨g6, 0, none⟩) [0, 0, 1, 1, 2, 3] := by
        refine ⟨g6, 0, rfl, by omega, fun i hi => ?_⟩
        rcases i4 with i4 | ⟨q, o, e, _, hc⟩
        · cases i4
        · cases e
          have := hc i (by simpa using hi)
          simp only [List.getD_eq_getElem?_getD, List.getElem?_eq_getElem hi, Option.getD_some] at this
          exact this
      refine (one_any p a1 n1 c1 bs1 k2 (some ⟨g6, 0, none⟩) 6 6 [0, 0, 1, 1, 2, 3] w hk (h.rd hl7) rfl (by decide) (by decide) hrow).mono ?_
      rintro e w' ⟨y, hy, rfl, d, rfl⟩
      have hY : 0 ≤ y ∧ y < 4 := by
        simp only [List.mem_cons, List.not_mem_nil, or_false] at hy
        rcases hy with rfl | rfl | rfl | rfl | rfl | rfl <;> decide
      refine ⟨_, rfl, h.step hp (i := 7) (by decide) (Mv.step _ _ _ _) (.inl rfl) ⟨y.toNat, by omega, ?_⟩⟩
      rw [Int.toNat_of_nonneg hY.1]
    · obtain ⟨g4, e4, t4⟩ := g 4 (by decide) (by decide +kernel)
      obtain ⟨y, hy, e7⟩ := g 7 (by decide) (by decide +kernel)
      exact val_of (ops := opsD) (n := 8) (by decide) rfl rfl (rD8 a w e4 e7 hy (by omega)) (h.step hp (i := 8) (by decide) (Mv.refl _ _) (.inr id) ⟨g4, y, hy, rfl, t4⟩)
    · obtain ⟨g4, y, hy, e8, t4⟩ := g 8 (by decide) (by decide +kernel)
      obtain ⟨v, hv, hn⟩ := t4.2.2 y hy
      exact val_of (ops := opsD) (n := 9) (by decide) rfl rfl (rD9 a w e8 hv) (h.step hp (i := 9) (by decide) (Mv.refl _ _) (.inr id) hn)
    · exact val_of (ops := opsD) (n := 10) (by decide) rfl rfl (rD10 a w (g 0 (by decide) (by decide +kernel))) (h.step hp (i := 10) (by decide) (Mv.refl _ _) (.inr id) rfl)
    · exact val_of (ops := opsD) (n := 11) (by decide) rfl rfl (rD11 a w rfl) (h.step hp (i := 11) (by decide) (Mv.refl _ _) (.inr id) (g 9 (by decide) (by decide +kernel)))
  · intro listed a w h hr0
    have hall := all_listed' (ops := opsD) (h.size.trans rfl) backD hr0
    exact hQ a w h.tz h.df (h.val 10 (by decide) (hall 10 (by decide))) (h.val 11 (by decide) (hall 11 (by decide))) h.mv
  · simp [Array.getD_eq_getD_getElem?, Array.getElem?_replicate, hi] at h

end Go.Proofs.YtbpfonmkbbnkcaaGreatDoor
