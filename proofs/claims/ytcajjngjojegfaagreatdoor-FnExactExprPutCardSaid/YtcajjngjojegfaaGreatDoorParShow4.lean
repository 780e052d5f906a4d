/- The greatest statement of l1Show, whatever the order. -/
import Derived.Test.YtcajjngjojegfaaGreatDoorParShow3
namespace Go.Proofs.YtcajjngjojegfaaGreatDoor
open Go Go.RowKit Go.PlainAid
set_option linter.unusedSimpArgs false
set_option linter.unusedVariables false

theorem back23 : ∀ (j : Nat) (o : Oper), ops23[j]? = some o → ∀ e ∈ o.after, e.on < j := by
  intro j o h
  have hj : j < 37 := by
    rcases Nat.lt_or_ge j 37 with h1 | h1
    · exact h1
    · rw [Array.getElem?_eq_none (by show 37 ≤ j; omega)] at h; cases h
  have key : ∀ j : Fin 37, ((ops23[j.val]?).map (fun o => o.after.all (fun e => decide (e.on < j.val)))).getD false = true := by decide +kernel
  have := key ⟨j, hj⟩
  simp only [h, Option.map_some, Option.getD_some, Array.all_eq_true'] at this
  intro e he
  simpa using this e he
theorem dep23 {listed : Array Bool} {i j : Nat} (h3 : ∀ o, ops23[i]? = some o → ∀ e ∈ o.after, Region.binds .any e = true → listed.getD e.on false = true)
    (hc : ((ops23[i]?).map fun o => o.after.any fun e => (e.on == j) && Region.binds .any e).getD false = true) : listed.getD j false = true := by
  cases ho : ops23[i]? with
  | none => rw [ho] at hc; cases hc
  | some o =>
    rw [ho] at hc
    simp only [Option.map_some, Option.getD_some, Array.any_eq_true'] at hc
    obtain ⟨e, he, hb⟩ := hc
    simp only [Bool.and_eq_true, beq_iff_eq] at hb
    rw [← hb.1]
    exact h3 o ho e he hb.2
theorem dstEq (n : Nat) (h : n < 37) : (ops23[n]'h).dst = dstOf ops23 n := by
  unfold dstOf
  rw [Array.getElem?_eq_getElem (xs := ops23) (i := n) h]; rfl
theorem val_at {Q : Exit → Act → World → Prop} {n : Nat} {K : Act → World → Prop} {a : Act} {w w' : World} {v : Value} (hn : n < 37) (hg : (ops23[n]'hn).guard = none)
    (hrun : (execOp a.eval (ops23[n]'hn)).run Tryz.prog w = .ok (.value v) w') (hK : K (a.put (dstOf ops23 n) v) w') : wpOp Tryz.prog ops23 Q n K a w := by
  refine step_val _ (Array.getElem?_eq_getElem hn) hg hrun ?_
  rw [dstEq n hn]; exact hK
theorem call_at {Q : Exit → Act → World → Prop} {n : Nat} {K : Act → World → Prop} {a : Act} {w : World} {f : Nat} {args : Array Value} (hn : n < 37) (hg : (ops23[n]'hn).guard = none)
    (hrun : (execOp a.eval (ops23[n]'hn)).run Tryz.prog w = .ok (.enter f args) w) (hK : Calls Tryz.prog f args w fun e w' => ∃ v, e = .returned v ∧ K (a.put (dstOf ops23 n) v) w') : wpOp Tryz.prog ops23 Q n K a w := by
  refine step_call _ (Array.getElem?_eq_getElem hn) hg hrun ?_
  rw [dstEq n hn]; exact hK

set_option maxRecDepth 100000 in
theorem r0 (a : Act) (w : World) {gt ct N : Nat} (e4 : a.tmps.getD 4 undef = .slice (some ⟨gt, 0, none⟩) N ct) : (execOp a.eval (ops23[0]'(by decide))).run Tryz.prog w = .ok (.value (.slice (some ⟨gt, 0, none⟩) N ct)) w := by
  show (execOp a.eval { dst := some 138, op := Op.move (Operand.tmp 4), type := _, pos := _, after := _, guard := _ }).run Tryz.prog w = _
  simp [execOp, Act.eval, go_sem, e4]

set_option maxRecDepth 100000 in
theorem r1 (a : Act) (w : World) {N : Nat} (e7 : a.tmps.getD 7 undef = .int .i64 N) : (execOp a.eval (ops23[1]'(by decide))).run Tryz.prog w = .ok (.value (.int .i64 N)) w := by
  show (execOp a.eval { dst := some 139, op := Op.move (Operand.tmp 7), type := _, pos := _, after := _, guard := _ }).run Tryz.prog w = _
  simp [execOp, Act.eval, go_sem, e7]

set_option maxRecDepth 100000 in
theorem r2 (a : Act) (w : World) {N L : Nat} (e139 : a.tmps.getD 139 undef = .int .i64 N) (q1 : (N : Int) - 2 = L) (p1 : IntKind.i64.wrap (L : Int) = L) : (execOp a.eval (ops23[2]'(by decide))).run Tryz.prog w = .ok (.value (.int .i64 L)) w := by
  show (execOp a.eval { dst := some 140, op := Op.binOp BinOp.sub 3 (Operand.tmp 139) (Operand.const (Value.int IntKind.i64 2)) 3, type := _, pos := _, after := _, guard := _ }).run Tryz.prog w = _
  simp [execOp, Act.eval, go_sem, e139, q1, p1]

set_option maxRecDepth 100000 in
theorem r3 (a : Act) (w : World) {gt ct N : Nat} (e4 : a.tmps.getD 4 undef = .slice (some ⟨gt, 0, none⟩) N ct) : (execOp a.eval (ops23[3]'(by decide))).run Tryz.prog w = .ok (.value (.slice (some ⟨gt, 0, none⟩) N ct)) w := by
  show (execOp a.eval { dst := some 141, op := Op.move (Operand.tmp 4), type := _, pos := _, after := _, guard := _ }).run Tryz.prog w = _
  simp [execOp, Act.eval, go_sem, e4]

set_option maxRecDepth 100000 in
theorem r4 (a : Act) (w : World) {N : Nat} (e7 : a.tmps.getD 7 undef = .int .i64 N) : (execOp a.eval (ops23[4]'(by decide))).run Tryz.prog w = .ok (.value (.int .i64 N)) w := by
  show (execOp a.eval { dst := some 142, op := Op.move (Operand.tmp 7), type := _, pos := _, after := _, guard := _ }).run Tryz.prog w = _
  simp [execOp, Act.eval, go_sem, e7]

set_option maxRecDepth 100000 in
theorem r5 (a : Act) (w : World) {N L : Nat} (e142 : a.tmps.getD 142 undef = .int .i64 N) (q1 : (N : Int) - 2 = L) (p1 : IntKind.i64.wrap (L : Int) = L) : (execOp a.eval (ops23[5]'(by decide))).run Tryz.prog w = .ok (.value (.int .i64 L)) w := by
  show (execOp a.eval { dst := some 143, op := Op.binOp BinOp.sub 3 (Operand.tmp 142) (Operand.const (Value.int IntKind.i64 2)) 3, type := _, pos := _, after := _, guard := _ }).run Tryz.prog w = _
  simp [execOp, Act.eval, go_sem, e142, q1, p1]

set_option maxRecDepth 100000 in
theorem r6 (a : Act) (w : World) {gt ct N L : Nat} (e141 : a.tmps.getD 141 undef = .slice (some ⟨gt, 0, none⟩) N ct) (e143 : a.tmps.getD 143 undef = .int .i64 L) (q3 : (L : Int) < N) (q5 : L < N) : (execOp a.eval (ops23[6]'(by decide))).run Tryz.prog w = .ok (.value (.pointer (some ⟨gt, L, none⟩))) w := by
  show (execOp a.eval { dst := some 144, op := Op.indexAddr 31 (Operand.tmp 141) (Operand.tmp 143), type := _, pos := _, after := _, guard := _ }).run Tryz.prog w = _
  simp [execOp, Act.eval, go_sem, e141, e143, q3, q5]

set_option maxRecDepth 100000 in
theorem r7 (a : Act) (w : World) {gt L : Nat} {t1 : ByteArray} (e144 : a.tmps.getD 144 undef = .pointer (some ⟨gt, L, none⟩)) (c1 : w.cell? ⟨gt, L, none⟩ = some (.string t1)) : (execOp a.eval (ops23[7]'(by decide))).run Tryz.prog w = .ok (.value (.string t1)) w := by
  show (execOp a.eval { dst := some 145, op := Op.load 9 (Operand.tmp 144), type := _, pos := _, after := _, guard := _ }).run Tryz.prog w = _
  simp [execOp, Act.eval, go_sem, e144, c1]

set_option maxRecDepth 100000 in
theorem r8 (a : Act) (w : World) {gl cl N : Nat} (e5 : a.tmps.getD 5 undef = .slice (some ⟨gl, 0, none⟩) N cl) : (execOp a.eval (ops23[8]'(by decide))).run Tryz.prog w = .ok (.value (.slice (some ⟨gl, 0, none⟩) N cl)) w := by
  show (execOp a.eval { dst := some 146, op := Op.move (Operand.tmp 5), type := _, pos := _, after := _, guard := _ }).run Tryz.prog w = _
  simp [execOp, Act.eval, go_sem, e5]

set_option maxRecDepth 100000 in
theorem r9 (a : Act) (w : World) {N : Nat} (e7 : a.tmps.getD 7 undef = .int .i64 N) : (execOp a.eval (ops23[9]'(by decide))).run Tryz.prog w = .ok (.value (.int .i64 N)) w := by
  show (execOp a.eval { dst := some 147, op := Op.move (Operand.tmp 7), type := _, pos := _, after := _, guard := _ }).run Tryz.prog w = _
  simp [execOp, Act.eval, go_sem, e7]

set_option maxRecDepth 100000 in
theorem r10 (a : Act) (w : World) {N L : Nat} (e147 : a.tmps.getD 147 undef = .int .i64 N) (q1 : (N : Int) - 2 = L) (p1 : IntKind.i64.wrap (L : Int) = L) : (execOp a.eval (ops23[10]'(by decide))).run Tryz.prog w = .ok (.value (.int .i64 L)) w := by
  show (execOp a.eval { dst := some 148, op := Op.binOp BinOp.sub 3 (Operand.tmp 147) (Operand.const (Value.int IntKind.i64 2)) 3, type := _, pos := _, after := _, guard := _ }).run Tryz.prog w = _
  simp [execOp, Act.eval, go_sem, e147, q1, p1]

set_option maxRecDepth 100000 in
theorem r11 (a : Act) (w : World) {gl cl N L : Nat} (e146 : a.tmps.getD 146 undef = .slice (some ⟨gl, 0, none⟩) N cl) (e148 : a.tmps.getD 148 undef = .int .i64 L) (q3 : (L : Int) < N) (q5 : L < N) : (execOp a.eval (ops23[11]'(by decide))).run Tryz.prog w = .ok (.value (.pointer (some ⟨gl, L, none⟩))) w := by
  show (execOp a.eval { dst := some 149, op := Op.indexAddr 32 (Operand.tmp 146) (Operand.tmp 148), type := _, pos := _, after := _, guard := _ }).run Tryz.prog w = _
  simp [execOp, Act.eval, go_sem, e146, e148, q3, q5]

set_option maxRecDepth 100000 in
theorem r12 (a : Act) (w : World) {gl L : Nat} {l1 : Int} (e149 : a.tmps.getD 149 undef = .pointer (some ⟨gl, L, none⟩)) (d1 : w.cell? ⟨gl, L, none⟩ = some (.int .i64 l1)) : (execOp a.eval (ops23[12]'(by decide))).run Tryz.prog w = .ok (.value (.int .i64 l1)) w := by
  show (execOp a.eval { dst := some 150, op := Op.load 3 (Operand.tmp 149), type := _, pos := _, after := _, guard := _ }).run Tryz.prog w = _
  simp [execOp, Act.eval, go_sem, e149, d1]

set_option maxRecDepth 100000 in
theorem r13 (a : Act) (w : World) {lv : Int} (e10 : a.tmps.getD 10 undef = .int .i64 lv) : (execOp a.eval (ops23[13]'(by decide))).run Tryz.prog w = .ok (.value (.int .i64 lv)) w := by
  show (execOp a.eval { dst := some 151, op := Op.move (Operand.tmp 10), type := _, pos := _, after := _, guard := _ }).run Tryz.prog w = _
  simp [execOp, Act.eval, go_sem, e10]

set_option maxRecDepth 100000 in
theorem r14 (a : Act) (w : World) {t1 : ByteArray} {l1 lv : Int} (e145 : a.tmps.getD 145 undef = .string t1) (e150 : a.tmps.getD 150 undef = .int .i64 l1) (e151 : a.tmps.getD 151 undef = .int .i64 lv) : (execOp a.eval (ops23[14]'(by decide))).run Tryz.prog w = .ok (.enter 98 #[.string t1, .int .i64 l1, .int .i64 lv]) w := by
  show (execOp a.eval { dst := some 152, op := Op.call { callee := Callee.value (Operand.func 98), args := #[Operand.tmp 145, Operand.tmp 150, Operand.tmp 151], argTypes := _ }, type := _, pos := _, after := _, guard := _ }).run Tryz.prog w = _
  simp [execOp, Act.eval, go_sem, e145, e150, e151, resolve, invoke]

set_option maxRecDepth 100000 in
theorem r15 (a : Act) (w : World)  : (execOp a.eval (ops23[15]'(by decide))).run Tryz.prog w = .ok (.enter 100 #[]) w := by
  show (execOp a.eval { dst := some 153, op := Op.call { callee := Callee.value (Operand.func 100), args := #[], argTypes := _ }, type := _, pos := _, after := _, guard := _ }).run Tryz.prog w = _
  simp [execOp, Act.eval, go_sem, resolve, invoke]

set_option maxRecDepth 100000 in
theorem r16 (a : Act) (w : World) {x : Nat} (e8 : a.tmps.getD 8 undef = .pointer (some ⟨x, 0, none⟩)) : (execOp a.eval (ops23[16]'(by decide))).run Tryz.prog w = .ok (.value (.pointer (some ⟨x, 0, none⟩))) w := by
  show (execOp a.eval { dst := some 154, op := Op.fieldAddr 38 (Operand.tmp 8) 0, type := _, pos := _, after := _, guard := _ }).run Tryz.prog w = _
  simp [execOp, Act.eval, go_sem, e8]

set_option maxRecDepth 100000 in
theorem r17 (a : Act) (w : World) {x k : Nat} (e154 : a.tmps.getD 154 undef = .pointer (some ⟨x, 0, none⟩)) (ck : w.cell? ⟨x, 0, none⟩ = some (.int .i64 k)) : (execOp a.eval (ops23[17]'(by decide))).run Tryz.prog w = .ok (.value (.int .i64 k)) w := by
  show (execOp a.eval { dst := some 155, op := Op.load 3 (Operand.tmp 154), type := _, pos := _, after := _, guard := _ }).run Tryz.prog w = _
  simp [execOp, Act.eval, go_sem, e154, ck]

set_option maxRecDepth 100000 in
theorem r18 (a : Act) (w : World) {q k : Nat} (e153 : a.tmps.getD 153 undef = .slice (some ⟨q, 0, none⟩) 14 14) (e155 : a.tmps.getD 155 undef = .int .i64 k) (hk14 : (k : Int) < 14) (hk14n : k < 14) : (execOp a.eval (ops23[18]'(by decide))).run Tryz.prog w = .ok (.value (.pointer (some ⟨q, k, none⟩))) w := by
  show (execOp a.eval { dst := some 156, op := Op.indexAddr 31 (Operand.tmp 153) (Operand.tmp 155), type := _, pos := _, after := _, guard := _ }).run Tryz.prog w = _
  simp [execOp, Act.eval, go_sem, e153, e155, hk14, hk14n]

set_option maxRecDepth 100000 in
theorem r19 (a : Act) (w : World) {q k : Nat} (e156 : a.tmps.getD 156 undef = .pointer (some ⟨q, k, none⟩)) (cs : w.cell? ⟨q, k, none⟩ = some (.string (sg k))) : (execOp a.eval (ops23[19]'(by decide))).run Tryz.prog w = .ok (.value (.string (sg k))) w := by
  show (execOp a.eval { dst := some 157, op := Op.load 9 (Operand.tmp 156), type := _, pos := _, after := _, guard := _ }).run Tryz.prog w = _
  simp [execOp, Act.eval, go_sem, e156, cs]

set_option maxRecDepth 100000 in
theorem r20 (a : Act) (w : World) {k : Nat} {t1 : ByteArray} {l1 lv : Int} (e152 : a.tmps.getD 152 undef = .string (boundM t1 l1 lv)) (e157 : a.tmps.getD 157 undef = .string (sg k)) (y1 : (boundM t1 l1 lv).size + (sg k).size ≤ 9223372036854775807) : (execOp a.eval (ops23[20]'(by decide))).run Tryz.prog w = .ok (.value (.string (boundM t1 l1 lv ++ sg k))) w := by
  show (execOp a.eval { dst := some 158, op := Op.binOp BinOp.add 9 (Operand.tmp 152) (Operand.tmp 157) 9, type := _, pos := _, after := _, guard := _ }).run Tryz.prog w = _
  simp [execOp, Act.eval, go_sem, e152, e157, y1]

set_option maxRecDepth 100000 in
theorem r21 (a : Act) (w : World) {gt ct N : Nat} (e4 : a.tmps.getD 4 undef = .slice (some ⟨gt, 0, none⟩) N ct) : (execOp a.eval (ops23[21]'(by decide))).run Tryz.prog w = .ok (.value (.slice (some ⟨gt, 0, none⟩) N ct)) w := by
  show (execOp a.eval { dst := some 159, op := Op.move (Operand.tmp 4), type := _, pos := _, after := _, guard := _ }).run Tryz.prog w = _
  simp [execOp, Act.eval, go_sem, e4]

set_option maxRecDepth 100000 in
theorem r22 (a : Act) (w : World) {N : Nat} (e7 : a.tmps.getD 7 undef = .int .i64 N) : (execOp a.eval (ops23[22]'(by decide))).run Tryz.prog w = .ok (.value (.int .i64 N)) w := by
  show (execOp a.eval { dst := some 160, op := Op.move (Operand.tmp 7), type := _, pos := _, after := _, guard := _ }).run Tryz.prog w = _
  simp [execOp, Act.eval, go_sem, e7]

set_option maxRecDepth 100000 in
theorem r23 (a : Act) (w : World) {N M : Nat} (e160 : a.tmps.getD 160 undef = .int .i64 N) (q2 : (N : Int) - 1 = M) (p2 : IntKind.i64.wrap (M : Int) = M) : (execOp a.eval (ops23[23]'(by decide))).run Tryz.prog w = .ok (.value (.int .i64 M)) w := by
  show (execOp a.eval { dst := some 161, op := Op.binOp BinOp.sub 3 (Operand.tmp 160) (Operand.const (Value.int IntKind.i64 1)) 3, type := _, pos := _, after := _, guard := _ }).run Tryz.prog w = _
  simp [execOp, Act.eval, go_sem, e160, q2, p2]

set_option maxRecDepth 100000 in
theorem r24 (a : Act) (w : World) {gt ct N M : Nat} (e159 : a.tmps.getD 159 undef = .slice (some ⟨gt, 0, none⟩) N ct) (e161 : a.tmps.getD 161 undef = .int .i64 M) (q4 : (M : Int) < N) (q6 : M < N) : (execOp a.eval (ops23[24]'(by decide))).run Tryz.prog w = .ok (.value (.pointer (some ⟨gt, M, none⟩))) w := by
  show (execOp a.eval { dst := some 162, op := Op.indexAddr 31 (Operand.tmp 159) (Operand.tmp 161), type := _, pos := _, after := _, guard := _ }).run Tryz.prog w = _
  simp [execOp, Act.eval, go_sem, e159, e161, q4, q6]

set_option maxRecDepth 100000 in
theorem r25 (a : Act) (w : World) {gt M : Nat} {t2 : ByteArray} (e162 : a.tmps.getD 162 undef = .pointer (some ⟨gt, M, none⟩)) (c2 : w.cell? ⟨gt, M, none⟩ = some (.string t2)) : (execOp a.eval (ops23[25]'(by decide))).run Tryz.prog w = .ok (.value (.string t2)) w := by
  show (execOp a.eval { dst := some 163, op := Op.load 9 (Operand.tmp 162), type := _, pos := _, after := _, guard := _ }).run Tryz.prog w = _
  simp [execOp, Act.eval, go_sem, e162, c2]

set_option maxRecDepth 100000 in
theorem r26 (a : Act) (w : World) {gl cl N : Nat} (e5 : a.tmps.getD 5 undef = .slice (some ⟨gl, 0, none⟩) N cl) : (execOp a.eval (ops23[26]'(by decide))).run Tryz.prog w = .ok (.value (.slice (some ⟨gl, 0, none⟩) N cl)) w := by
  show (execOp a.eval { dst := some 164, op := Op.move (Operand.tmp 5), type := _, pos := _, after := _, guard := _ }).run Tryz.prog w = _
  simp [execOp, Act.eval, go_sem, e5]

set_option maxRecDepth 100000 in
theorem r27 (a : Act) (w : World) {N : Nat} (e7 : a.tmps.getD 7 undef = .int .i64 N) : (execOp a.eval (ops23[27]'(by decide))).run Tryz.prog w = .ok (.value (.int .i64 N)) w := by
  show (execOp a.eval { dst := some 165, op := Op.move (Operand.tmp 7), type := _, pos := _, after := _, guard := _ }).run Tryz.prog w = _
  simp [execOp, Act.eval, go_sem, e7]

set_option maxRecDepth 100000 in
theorem r28 (a : Act) (w : World) {N M : Nat} (e165 : a.tmps.getD 165 undef = .int .i64 N) (q2 : (N : Int) - 1 = M) (p2 : IntKind.i64.wrap (M : Int) = M) : (execOp a.eval (ops23[28]'(by decide))).run Tryz.prog w = .ok (.value (.int .i64 M)) w := by
  show (execOp a.eval { dst := some 166, op := Op.binOp BinOp.sub 3 (Operand.tmp 165) (Operand.const (Value.int IntKind.i64 1)) 3, type := _, pos := _, after := _, guard := _ }).run Tryz.prog w = _
  simp [execOp, Act.eval, go_sem, e165, q2, p2]

set_option maxRecDepth 100000 in
theorem r29 (a : Act) (w : World) {gl cl N M : Nat} (e164 : a.tmps.getD 164 undef = .slice (some ⟨gl, 0, none⟩) N cl) (e166 : a.tmps.getD 166 undef = .int .i64 M) (q4 : (M : Int) < N) (q6 : M < N) : (execOp a.eval (ops23[29]'(by decide))).run Tryz.prog w = .ok (.value (.pointer (some ⟨gl, M, none⟩))) w := by
  show (execOp a.eval { dst := some 167, op := Op.indexAddr 32 (Operand.tmp 164) (Operand.tmp 166), type := _, pos := _, after := _, guard := _ }).run Tryz.prog w = _
  simp [execOp, Act.eval, go_sem, e164, e166, q4, q6]

set_option maxRecDepth 100000 in
theorem r30 (a : Act) (w : World) {gl M : Nat} {l2 : Int} (e167 : a.tmps.getD 167 undef = .pointer (some ⟨gl, M, none⟩)) (d2 : w.cell? ⟨gl, M, none⟩ = some (.int .i64 l2)) : (execOp a.eval (ops23[30]'(by decide))).run Tryz.prog w = .ok (.value (.int .i64 l2)) w := by
  show (execOp a.eval { dst := some 168, op := Op.load 3 (Operand.tmp 167), type := _, pos := _, after := _, guard := _ }).run Tryz.prog w = _
  simp [execOp, Act.eval, go_sem, e167, d2]

set_option maxRecDepth 100000 in
theorem r31 (a : Act) (w : World) {lv : Int} (e10 : a.tmps.getD 10 undef = .int .i64 lv) : (execOp a.eval (ops23[31]'(by decide))).run Tryz.prog w = .ok (.value (.int .i64 lv)) w := by
  show (execOp a.eval { dst := some 169, op := Op.move (Operand.tmp 10), type := _, pos := _, after := _, guard := _ }).run Tryz.prog w = _
  simp [execOp, Act.eval, go_sem, e10]

set_option maxRecDepth 100000 in
theorem r32 (a : Act) (w : World) {lv : Int} (e169 : a.tmps.getD 169 undef = .int .i64 lv) (p3 : IntKind.i64.wrap (lv + 1) = lv + 1) : (execOp a.eval (ops23[32]'(by decide))).run Tryz.prog w = .ok (.value (.int .i64 (lv + 1))) w := by
  show (execOp a.eval { dst := some 170, op := Op.binOp BinOp.add 3 (Operand.tmp 169) (Operand.const (Value.int IntKind.i64 1)) 3, type := _, pos := _, after := _, guard := _ }).run Tryz.prog w = _
  simp [execOp, Act.eval, go_sem, e169, p3]

set_option maxRecDepth 100000 in
theorem r33 (a : Act) (w : World) {t2 : ByteArray} {l2 lv : Int} (e163 : a.tmps.getD 163 undef = .string t2) (e168 : a.tmps.getD 168 undef = .int .i64 l2) (e170 : a.tmps.getD 170 undef = .int .i64 (lv + 1)) : (execOp a.eval (ops23[33]'(by decide))).run Tryz.prog w = .ok (.enter 98 #[.string t2, .int .i64 l2, .int .i64 (lv + 1)]) w := by
  show (execOp a.eval { dst := some 171, op := Op.call { callee := Callee.value (Operand.func 98), args := #[Operand.tmp 163, Operand.tmp 168, Operand.tmp 170], argTypes := _ }, type := _, pos := _, after := _, guard := _ }).run Tryz.prog w = _
  simp [execOp, Act.eval, go_sem, e163, e168, e170, resolve, invoke]

set_option maxRecDepth 100000 in
theorem r34 (a : Act) (w : World) {k : Nat} {t1 t2 : ByteArray} {l1 l2 lv : Int} (e158 : a.tmps.getD 158 undef = .string (boundM t1 l1 lv ++ sg k)) (e171 : a.tmps.getD 171 undef = .string (boundM t2 l2 (lv + 1))) (y2 : (boundM t1 l1 lv).size + (sg k).size + (boundM t2 l2 (lv + 1)).size ≤ 9223372036854775807) : (execOp a.eval (ops23[34]'(by decide))).run Tryz.prog w = .ok (.value (.string (boundM t1 l1 lv ++ sg k ++ boundM t2 l2 (lv + 1)))) w := by
  show (execOp a.eval { dst := some 172, op := Op.binOp BinOp.add 9 (Operand.tmp 158) (Operand.tmp 171) 9, type := _, pos := _, after := _, guard := _ }).run Tryz.prog w = _
  simp [execOp, Act.eval, go_sem, e158, e171, y2]

set_option maxRecDepth 100000 in
theorem r35 (a : Act) (w : World) {gt ct N L : Nat} (e138 : a.tmps.getD 138 undef = .slice (some ⟨gt, 0, none⟩) N ct) (e140 : a.tmps.getD 140 undef = .int .i64 L) (q3 : (L : Int) < N) (q5 : L < N) : (execOp a.eval (ops23[35]'(by decide))).run Tryz.prog w = .ok (.value (.pointer (some ⟨gt, L, none⟩))) w := by
  show (execOp a.eval { dst := some 173, op := Op.indexAddr 31 (Operand.tmp 138) (Operand.tmp 140), type := _, pos := _, after := _, guard := _ }).run Tryz.prog w = _
  simp [execOp, Act.eval, go_sem, e138, e140, q3, q5]

set_option maxRecDepth 100000 in
theorem r36 (a : Act) (w : World) {gt L : Nat} {y t0 : ByteArray} (e172 : a.tmps.getD 172 undef = .string y) (e173 : a.tmps.getD 173 undef = .pointer (some ⟨gt, L, none⟩)) (c1 : w.cell? ⟨gt, L, none⟩ = some (.string t0)) (fz : w.frozen? ⟨gt, L, none⟩ = false) :
    (execOp a.eval (ops23[36]'(by decide))).run Tryz.prog w = .ok .skip (w.setCell ⟨gt, L, none⟩ (.string y)) := by
  show (execOp a.eval { dst := none, op := Op.store 9 (Operand.tmp 173) (Operand.tmp 172), type := _, pos := _, after := _, guard := _ }).run Tryz.prog w = _
  simp [execOp, Act.eval, go_sem, e172, e173, c1, fz]

set_option maxHeartbeats 1600000 in
set_option maxRecDepth 100000 in
theorem region23 (Q : Exit → Act → World → Prop) (a0 : Act) (w : World) (gt ct gl cl N L M x k : Nat) (t1 t2 : ByteArray) (l1 l2 lv : Int)
    (hz : a0.tmps.size = 193) (s4 : a0.tmps.getD 4 undef = .slice (some ⟨gt, 0, none⟩) N ct) (s5 : a0.tmps.getD 5 undef = .slice (some ⟨gl, 0, none⟩) N cl) (s7 : a0.tmps.getD 7 undef = .int .i64 N)
    (s8 : a0.tmps.getD 8 undef = .pointer (some ⟨x, 0, none⟩)) (s10 : a0.tmps.getD 10 undef = .int .i64 lv) (hN : N = L + 2) (hM : M = L + 1) (hN24 : N ≤ 24) (hlv : 1 ≤ lv ∧ lv ≤ 5) (hk : 5 ≤ k ∧ k ≤ 13) (z1 : t1.size ≤ 1000) (z2 : t2.size ≤ 1000)
    (c1 : w.cell? ⟨gt, L, none⟩ = some (.string t1)) (c2 : w.cell? ⟨gt, M, none⟩ = some (.string t2)) (d1 : w.cell? ⟨gl, L, none⟩ = some (.int .i64 l1)) (d2 : w.cell? ⟨gl, M, none⟩ = some (.int .i64 l2))
    (ck : w.cell? ⟨x, 0, none⟩ = some (.int .i64 k)) (fz : w.frozen? ⟨gt, L, none⟩ = false)
    (hQ : ∀ w1, Below w.heap.size w w1 → Q .normal (putL ops23 (val23 gt ct gl cl N L M w.heap.size x k t1 t2 l1 l2 lv) (Array.replicate 37 true) a0 37) (w1.setCell ⟨gt, L, none⟩ (.string (boundM t1 l1 lv ++ sg k ++ boundM t2 l2 (lv + 1))))) :
    (Code.region 23 ops23 true).wp Tryz.prog Q a0 w := by
  have b1 : gt < w.heap.size := World.block_lt_of_cell? w _ c1
  have b2 : gl < w.heap.size := World.block_lt_of_cell? w _ d1
  have b3 : x < w.heap.size := World.block_lt_of_cell? w _ ck
  have hbs1 := bound_size t1 l1 lv
  have hbs2 := bound_size t2 l2 (lv + 1)
  have hsg := sg_size k
  have q1 : (N : Int) - 2 = L := by omega
  have q2 : (N : Int) - 1 = M := by omega
  have q3 : (L : Int) < N := by omega
  have q4 : (M : Int) < N := by omega
  have q5 : L < N := by omega
  have q6 : M < N := by omega
  have p1 : IntKind.i64.wrap (L : Int) = L := IntWalk.i64_in _ ⟨by omega, by omega⟩
  have p2 : IntKind.i64.wrap (M : Int) = M := IntWalk.i64_in _ ⟨by omega, by omega⟩
  have p3 : IntKind.i64.wrap (lv + 1) = lv + 1 := IntWalk.i64_in _ ⟨by omega, by omega⟩
  have hk14 : (k : Int) < 14 := by omega
  have hk14n : k < 14 := by omega
  have y1 : (boundM t1 l1 lv).size + (sg k).size ≤ 9223372036854775807 := by omega
  have y2 : (boundM t1 l1 lv).size + (sg k).size + (boundM t2 l2 (lv + 1)).size ≤ 9223372036854775807 := by omega
  obtain ⟨V, hV⟩ : ∃ V, val23 gt ct gl cl N L M w.heap.size x k t1 t2 l1 l2 lv = V := ⟨_, rfl⟩
  rw [hV] at hQ
  refine wp_region_any (by kernel_rfl) ?_
  change wpAny Tryz.prog .any ops23 Q 37 (Array.replicate 37 false) a0 w.drew
  refine wpAny_inv (ops := ops23) (J V a0 w.drew ⟨gt, L, none⟩ (.string (boundM t1 l1 lv ++ sg k ++ boundM t2 l2 (lv + 1)))) (fun _ _ _ h => h.size.trans (by decide)) ?_ ?_ _ _ _ _ (by decide +kernel) (J.start _ _ _ _ _)
  · intro listed a w' i h hi
    obtain ⟨hi1, hi2, hi3⟩ := ready_mem hi
    have hi1 : i < 37 := hi1
    have g := h.get hz
    have gb := h.base
    rcases Nat.lt_or_ge i 36 with hi36 | hi36
    · have hu := h.undone hi36 hi2
      have hb := h.bel hu
      have cc : ∀ b o v, b < w.heap.size → w.cell? ⟨b, o, none⟩ = some v → w'.cell? ⟨b, o, none⟩ = some v := fun b o v h1 h2 => (hb.cell (p := ⟨b, o, none⟩) h1).trans h2
      have hcase : i = 0 ∨ i = 1 ∨ i = 2 ∨ i = 3 ∨ i = 4 ∨ i = 5 ∨ i = 6 ∨ i = 7 ∨ i = 8 ∨ i = 9 ∨ i = 10 ∨ i = 11 ∨ i = 12 ∨ i = 13 ∨ i = 14 ∨ i = 15 ∨ i = 16 ∨ i = 17 ∨ i = 18 ∨ i = 19 ∨ i = 20 ∨ i = 21 ∨ i = 22 ∨ i = 23 ∨ i = 24 ∨ i = 25 ∨ i = 26 ∨ i = 27 ∨ i = 28 ∨ i = 29 ∨ i = 30 ∨ i = 31 ∨ i = 32 ∨ i = 33 ∨ i = 34 ∨ i = 35 := by omega
      rcases hcase with rfl | rfl | rfl | rfl | rfl | rfl | rfl | rfl | rfl | rfl | rfl | rfl | rfl | rfl | rfl | rfl | rfl | rfl | rfl | rfl | rfl | rfl | rfl | rfl | rfl | rfl | rfl | rfl | rfl | rfl | rfl | rfl | rfl | rfl | rfl | rfl
      · have pl := h.plain (i := 0) (by decide) (by decide) hi2 (fun e => absurd e (by decide))
        have hv : V 0 = .slice (some ⟨gt, 0, none⟩) N ct := by rw [← hV]; rfl
        rw [hv] at pl
        exact val_at (n := 0) (by decide) rfl (r0 a w' ((gb 4 (by decide)).trans s4)) pl
      · have pl := h.plain (i := 1) (by decide) (by decide) hi2 (fun e => absurd e (by decide))
        have hv : V 1 = .int .i64 N := by rw [← hV]; rfl
        rw [hv] at pl
        exact val_at (n := 1) (by decide) rfl (r1 a w' ((gb 7 (by decide)).trans s7)) pl
      · have e139 : a.tmps.getD 139 undef = .int .i64 N := (g 1 (by decide) (dep23 hi3 (by decide +kernel))).trans (by rw [← hV]; rfl)
        have pl := h.plain (i := 2) (by decide) (by decide) hi2 (fun e => absurd e (by decide))
        have hv : V 2 = .int .i64 L := by rw [← hV]; rfl
        rw [hv] at pl
        exact val_at (n := 2) (by decide) rfl (r2 a w' e139 q1 p1) pl
      · have pl := h.plain (i := 3) (by decide) (by decide) hi2 (fun e => absurd e (by decide))
        have hv : V 3 = .slice (some ⟨gt, 0, none⟩) N ct := by rw [← hV]; rfl
        rw [hv] at pl
        exact val_at (n := 3) (by decide) rfl (r3 a w' ((gb 4 (by decide)).trans s4)) pl
      · have pl := h.plain (i := 4) (by decide) (by decide) hi2 (fun e => absurd e (by decide))
        have hv : V 4 = .int .i64 N := by rw [← hV]; rfl
        rw [hv] at pl
        exact val_at (n := 4) (by decide) rfl (r4 a w' ((gb 7 (by decide)).trans s7)) pl
      · have e142 : a.tmps.getD 142 undef = .int .i64 N := (g 4 (by decide) (dep23 hi3 (by decide +kernel))).trans (by rw [← hV]; rfl)
        have pl := h.plain (i := 5) (by decide) (by decide) hi2 (fun e => absurd e (by decide))
        have hv : V 5 = .int .i64 L := by rw [← hV]; rfl
        rw [hv] at pl
        exact val_at (n := 5) (by decide) rfl (r5 a w' e142 q1 p1) pl
      · have e141 : a.tmps.getD 141 undef = .slice (some ⟨gt, 0, none⟩) N ct := (g 3 (by decide) (dep23 hi3 (by decide +kernel))).trans (by rw [← hV]; rfl)
        have e143 : a.tmps.getD 143 undef = .int .i64 L := (g 5 (by decide) (dep23 hi3 (by decide +kernel))).trans (by rw [← hV]; rfl)
        have pl := h.plain (i := 6) (by decide) (by decide) hi2 (fun e => absurd e (by decide))
        have hv : V 6 = .pointer (some ⟨gt, L, none⟩) := by rw [← hV]; rfl
        rw [hv] at pl
        exact val_at (n := 6) (by decide) rfl (r6 a w' e141 e143 q3 q5) pl
      · have e144 : a.tmps.getD 144 undef = .pointer (some ⟨gt, L, none⟩) := (g 6 (by decide) (dep23 hi3 (by decide +kernel))).trans (by rw [← hV]; rfl)
        have pl := h.plain (i := 7) (by decide) (by decide) hi2 (fun e => absurd e (by decide))
        have hv : V 7 = .string t1 := by rw [← hV]; rfl
        rw [hv] at pl
        exact val_at (n := 7) (by decide) rfl (r7 a w' e144 (cc _ _ _ b1 c1)) pl
      · have pl := h.plain (i := 8) (by decide) (by decide) hi2 (fun e => absurd e (by decide))
        have hv : V 8 = .slice (some ⟨gl, 0, none⟩) N cl := by rw [← hV]; rfl
        rw [hv] at pl
        exact val_at (n := 8) (by decide) rfl (r8 a w' ((gb 5 (by decide)).trans s5)) pl
      · have pl := h.plain (i := 9) (by decide) (by decide) hi2 (fun e => absurd e (by decide))
        have hv : V 9 = .int .i64 N := by rw [← hV]; rfl
        rw [hv] at pl
        exact val_at (n := 9) (by decide) rfl (r9 a w' ((gb 7 (by decide)).trans s7)) pl
      · have e147 : a.tmps.getD 147 undef = .int .i64 N := (g 9 (by decide) (dep23 hi3 (by decide +kernel))).trans (by rw [← hV]; rfl)
        have pl := h.plain (i := 10) (by decide) (by decide) hi2 (fun e => absurd e (by decide))
        have hv : V 10 = .int .i64 L := by rw [← hV]; rfl
        rw [hv] at pl
        exact val_at (n := 10) (by decide) rfl (r10 a w' e147 q1 p1) pl
      · have e146 : a.tmps.getD 146 undef = .slice (some ⟨gl, 0, none⟩) N cl := (g 8 (by decide) (dep23 hi3 (by decide +kernel))).trans (by rw [← hV]; rfl)
        have e148 : a.tmps.getD 148 undef = .int .i64 L := (g 10 (by decide) (dep23 hi3 (by decide +kernel))).trans (by rw [← hV]; rfl)
        have pl := h.plain (i := 11) (by decide) (by decide) hi2 (fun e => absurd e (by decide))
        have hv : V 11 = .pointer (some ⟨gl, L, none⟩) := by rw [← hV]; rfl
        rw [hv] at pl
        exact val_at (n := 11) (by decide) rfl (r11 a w' e146 e148 q3 q5) pl
      · have e149 : a.tmps.getD 149 undef = .pointer (some ⟨gl, L, none⟩) := (g 11 (by decide) (dep23 hi3 (by decide +kernel))).trans (by rw [← hV]; rfl)
        have pl := h.plain (i := 12) (by decide) (by decide) hi2 (fun e => absurd e (by decide))
        have hv : V 12 = .int .i64 l1 := by rw [← hV]; rfl
        rw [hv] at pl
        exact val_at (n := 12) (by decide) rfl (r12 a w' e149 (cc _ _ _ b2 d1)) pl
      · have pl := h.plain (i := 13) (by decide) (by decide) hi2 (fun e => absurd e (by decide))
        have hv : V 13 = .int .i64 lv := by rw [← hV]; rfl
        rw [hv] at pl
        exact val_at (n := 13) (by decide) rfl (r13 a w' ((gb 10 (by decide)).trans s10)) pl
      · have e145 : a.tmps.getD 145 undef = .string t1 := (g 7 (by decide) (dep23 hi3 (by decide +kernel))).trans (by rw [← hV]; rfl)
        have e150 : a.tmps.getD 150 undef = .int .i64 l1 := (g 12 (by decide) (dep23 hi3 (by decide +kernel))).trans (by rw [← hV]; rfl)
        have e151 : a.tmps.getD 151 undef = .int .i64 lv := (g 13 (by decide) (dep23 hi3 (by decide +kernel))).trans (by rw [← hV]; rfl)
        have pl := h.plain (i := 14) (by decide) (by decide) hi2 (fun e => absurd e (by decide))
        have hv : V 14 = .string (boundM t1 l1 lv) := by rw [← hV]; rfl
        rw [hv] at pl
        refine call_at (n := 14) (by decide) rfl (r14 a w' e145 e150 e151) ((l1Bound_any t1 l1 lv w' (by omega)).mono ?_)
        rintro e w1 ⟨rfl, hw1⟩
        rw [hw1]
        exact ⟨_, rfl, pl⟩
      · have h15 : listed.getD 15 false = false := by have hlt : 15 < listed.size := (by rw [h.size]; decide); have h0 : listed[15] = false := (by simpa [Array.getD, hlt] using hi2); simp [Array.getD, hlt, h0]
        obtain rfl := h.w0 h15 hu
        have hv15 : V 15 = .slice (some ⟨w.heap.size, 0, none⟩) 14 14 := by rw [← hV]; rfl
        refine call_at (n := 15) (by decide) rfl (r15 a w.drew) ((l1Signs_any w.drew).mono ?_)
        rintro e w1 ⟨rfl, hb1, hlt1, hc1⟩
        refine ⟨_, rfl, ?_⟩
        have this := h.signs hi2 (w1 := w1) hb1 hc1
        rw [hv15] at this
        exact this
      · have pl := h.plain (i := 16) (by decide) (by decide) hi2 (fun e => absurd e (by decide))
        have hv : V 16 = .pointer (some ⟨x, 0, none⟩) := by rw [← hV]; rfl
        rw [hv] at pl
        exact val_at (n := 16) (by decide) rfl (r16 a w' ((gb 8 (by decide)).trans s8)) pl
      · have e154 : a.tmps.getD 154 undef = .pointer (some ⟨x, 0, none⟩) := (g 16 (by decide) (dep23 hi3 (by decide +kernel))).trans (by rw [← hV]; rfl)
        have pl := h.plain (i := 17) (by decide) (by decide) hi2 (fun e => absurd e (by decide))
        have hv : V 17 = .int .i64 k := by rw [← hV]; rfl
        rw [hv] at pl
        exact val_at (n := 17) (by decide) rfl (r17 a w' e154 (cc _ _ _ b3 ck)) pl
      · have e153 : a.tmps.getD 153 undef = .slice (some ⟨w.heap.size, 0, none⟩) 14 14 := (g 15 (by decide) (dep23 hi3 (by decide +kernel))).trans (by rw [← hV]; rfl)
        have e155 : a.tmps.getD 155 undef = .int .i64 k := (g 17 (by decide) (dep23 hi3 (by decide +kernel))).trans (by rw [← hV]; rfl)
        have pl := h.plain (i := 18) (by decide) (by decide) hi2 (fun _ => dep23 hi3 (by decide +kernel))
        have hv : V 18 = .pointer (some ⟨w.heap.size, k, none⟩) := by rw [← hV]; rfl
        rw [hv] at pl
        exact val_at (n := 18) (by decide) rfl (r18 a w' e153 e155 hk14 hk14n) pl
      · have e156 : a.tmps.getD 156 undef = .pointer (some ⟨w.heap.size, k, none⟩) := (g 18 (by decide) (dep23 hi3 (by decide +kernel))).trans (by rw [← hV]; rfl)
        have pl := h.plain (i := 19) (by decide) (by decide) hi2 (fun e => absurd e (by decide))
        have hv : V 19 = .string (sg k) := by rw [← hV]; rfl
        rw [hv] at pl
        have h15 : listed.getD 15 false = true := h.sgn (dep23 hi3 (by decide +kernel))
        have hcs := (h.w1 h15 hu).2 k hk14n
        exact val_at (n := 19) (by decide) rfl (r19 a w' e156 hcs) pl
      · have e152 : a.tmps.getD 152 undef = .string (boundM t1 l1 lv) := (g 14 (by decide) (dep23 hi3 (by decide +kernel))).trans (by rw [← hV]; rfl)
        have e157 : a.tmps.getD 157 undef = .string (sg k) := (g 19 (by decide) (dep23 hi3 (by decide +kernel))).trans (by rw [← hV]; rfl)
        have pl := h.plain (i := 20) (by decide) (by decide) hi2 (fun e => absurd e (by decide))
        have hv : V 20 = .string (boundM t1 l1 lv ++ sg k) := by rw [← hV]; rfl
        rw [hv] at pl
        exact val_at (n := 20) (by decide) rfl (r20 a w' e152 e157 y1) pl
      · have pl := h.plain (i := 21) (by decide) (by decide) hi2 (fun e => absurd e (by decide))
        have hv : V 21 = .slice (some ⟨gt, 0, none⟩) N ct := by rw [← hV]; rfl
        rw [hv] at pl
        exact val_at (n := 21) (by decide) rfl (r21 a w' ((gb 4 (by decide)).trans s4)) pl
      · have pl := h.plain (i := 22) (by decide) (by decide) hi2 (fun e => absurd e (by decide))
        have hv : V 22 = .int .i64 N := by rw [← hV]; rfl
        rw [hv] at pl
        exact val_at (n := 22) (by decide) rfl (r22 a w' ((gb 7 (by decide)).trans s7)) pl
      · have e160 : a.tmps.getD 160 undef = .int .i64 N := (g 22 (by decide) (dep23 hi3 (by decide +kernel))).trans (by rw [← hV]; rfl)
        have pl := h.plain (i := 23) (by decide) (by decide) hi2 (fun e => absurd e (by decide))
        have hv : V 23 = .int .i64 M := by rw [← hV]; rfl
        rw [hv] at pl
        exact val_at (n := 23) (by decide) rfl (r23 a w' e160 q2 p2) pl
      · have e159 : a.tmps.getD 159 undef = .slice (some ⟨gt, 0, none⟩) N ct := (g 21 (by decide) (dep23 hi3 (by decide +kernel))).trans (by rw [← hV]; rfl)
        have e161 : a.tmps.getD 161 undef = .int .i64 M := (g 23 (by decide) (dep23 hi3 (by decide +kernel))).trans (by rw [← hV]; rfl)
        have pl := h.plain (i := 24) (by decide) (by decide) hi2 (fun e => absurd e (by decide))
        have hv : V 24 = .pointer (some ⟨gt, M, none⟩) := by rw [← hV]; rfl
        rw [hv] at pl
        exact val_at (n := 24) (by decide) rfl (r24 a w' e159 e161 q4 q6) pl
      · have e162 : a.tmps.getD 162 undef = .pointer (some ⟨gt, M, none⟩) := (g 24 (by decide) (dep23 hi3 (by decide +kernel))).trans (by rw [← hV]; rfl)
        have pl := h.plain (i := 25) (by decide) (by decide) hi2 (fun e => absurd e (by decide))
        have hv : V 25 = .string t2 := by rw [← hV]; rfl
        rw [hv] at pl
        exact val_at (n := 25) (by decide) rfl (r25 a w' e162 (cc _ _ _ b1 c2)) pl
      · have pl := h.plain (i := 26) (by decide) (by decide) hi2 (fun e => absurd e (by decide))
        have hv : V 26 = .slice (some ⟨gl, 0, none⟩) N cl := by rw [← hV]; rfl
        rw [hv] at pl
        exact val_at (n := 26) (by decide) rfl (r26 a w' ((gb 5 (by decide)).trans s5)) pl
      · have pl := h.plain (i := 27) (by decide) (by decide) hi2 (fun e => absurd e (by decide))
        have hv : V 27 = .int .i64 N := by rw [← hV]; rfl
        rw [hv] at pl
        exact val_at (n := 27) (by decide) rfl (r27 a w' ((gb 7 (by decide)).trans s7)) pl
      · have e165 : a.tmps.getD 165 undef = .int .i64 N := (g 27 (by decide) (dep23 hi3 (by decide +kernel))).trans (by rw [← hV]; rfl)
        have pl := h.plain (i := 28) (by decide) (by decide) hi2 (fun e => absurd e (by decide))
        have hv : V 28 = .int .i64 M := by rw [← hV]; rfl
        rw [hv] at pl
        exact val_at (n := 28) (by decide) rfl (r28 a w' e165 q2 p2) pl
      · have e164 : a.tmps.getD 164 undef = .slice (some ⟨gl, 0, none⟩) N cl := (g 26 (by decide) (dep23 hi3 (by decide +kernel))).trans (by rw [← hV]; rfl)
        have e166 : a.tmps.getD 166 undef = .int .i64 M := (g 28 (by decide) (dep23 hi3 (by decide +kernel))).trans (by rw [← hV]; rfl)
        have pl := h.plain (i := 29) (by decide) (by decide) hi2 (fun e => absurd e (by decide))
        have hv : V 29 = .pointer (some ⟨gl, M, none⟩) := by rw [← hV]; rfl
        rw [hv] at pl
        exact val_at (n := 29) (by decide) rfl (r29 a w' e164 e166 q4 q6) pl
      · have e167 : a.tmps.getD 167 undef = .pointer (some ⟨gl, M, none⟩) := (g 29 (by decide) (dep23 hi3 (by decide +kernel))).trans (by rw [← hV]; rfl)
        have pl := h.plain (i := 30) (by decide) (by decide) hi2 (fun e => absurd e (by decide))
        have hv : V 30 = .int .i64 l2 := by rw [← hV]; rfl
        rw [hv] at pl
        exact val_at (n := 30) (by decide) rfl (r30 a w' e167 (cc _ _ _ b2 d2)) pl
      · have pl := h.plain (i := 31) (by decide) (by decide) hi2 (fun e => absurd e (by decide))
        have hv : V 31 = .int .i64 lv := by rw [← hV]; rfl
        rw [hv] at pl
        exact val_at (n := 31) (by decide) rfl (r31 a w' ((gb 10 (by decide)).trans s10)) pl
      · have e169 : a.tmps.getD 169 undef = .int .i64 lv := (g 31 (by decide) (dep23 hi3 (by decide +kernel))).trans (by rw [← hV]; rfl)
        have pl := h.plain (i := 32) (by decide) (by decide) hi2 (fun e => absurd e (by decide))
        have hv : V 32 = .int .i64 (lv + 1) := by rw [← hV]; rfl
        rw [hv] at pl
        exact val_at (n := 32) (by decide) rfl (r32 a w' e169 p3) pl
      · have e163 : a.tmps.getD 163 undef = .string t2 := (g 25 (by decide) (dep23 hi3 (by decide +kernel))).trans (by rw [← hV]; rfl)
        have e168 : a.tmps.getD 168 undef = .int .i64 l2 := (g 30 (by decide) (dep23 hi3 (by decide +kernel))).trans (by rw [← hV]; rfl)
        have e170 : a.tmps.getD 170 undef = .int .i64 (lv + 1) := (g 32 (by decide) (dep23 hi3 (by decide +kernel))).trans (by rw [← hV]; rfl)
        have pl := h.plain (i := 33) (by decide) (by decide) hi2 (fun e => absurd e (by decide))
        have hv : V 33 = .string (boundM t2 l2 (lv + 1)) := by rw [← hV]; rfl
        rw [hv] at pl
        refine call_at (n := 33) (by decide) rfl (r33 a w' e163 e168 e170) ((l1Bound_any t2 l2 (lv + 1) w' (by omega)).mono ?_)
        rintro e w1 ⟨rfl, hw1⟩
        rw [hw1]
        exact ⟨_, rfl, pl⟩
      · have e158 : a.tmps.getD 158 undef = .string (boundM t1 l1 lv ++ sg k) := (g 20 (by decide) (dep23 hi3 (by decide +kernel))).trans (by rw [← hV]; rfl)
        have e171 : a.tmps.getD 171 undef = .string (boundM t2 l2 (lv + 1)) := (g 33 (by decide) (dep23 hi3 (by decide +kernel))).trans (by rw [← hV]; rfl)
        have pl := h.plain (i := 34) (by decide) (by decide) hi2 (fun e => absurd e (by decide))
        have hv : V 34 = .string (boundM t1 l1 lv ++ sg k ++ boundM t2 l2 (lv + 1)) := by rw [← hV]; rfl
        rw [hv] at pl
        exact val_at (n := 34) (by decide) rfl (r34 a w' e158 e171 y2) pl
      · have e138 : a.tmps.getD 138 undef = .slice (some ⟨gt, 0, none⟩) N ct := (g 0 (by decide) (dep23 hi3 (by decide +kernel))).trans (by rw [← hV]; rfl)
        have e140 : a.tmps.getD 140 undef = .int .i64 L := (g 2 (by decide) (dep23 hi3 (by decide +kernel))).trans (by rw [← hV]; rfl)
        have pl := h.plain (i := 35) (by decide) (by decide) hi2 (fun e => absurd e (by decide))
        have hv : V 35 = .pointer (some ⟨gt, L, none⟩) := by rw [← hV]; rfl
        rw [hv] at pl
        exact val_at (n := 35) (by decide) rfl (r35 a w' e138 e140 q3 q5) pl
    · have hi : i = 36 := by omega
      subst hi
      have hall : ∀ j, j < 36 → listed.getD j false = true := by
        have key : ∀ j : Fin 36, ((ops23[36]?).map fun o => o.after.any fun e => (e.on == j.val) && Region.binds .any e).getD false = true := by decide +kernel
        exact fun j hj => dep23 hi3 (key ⟨j, hj⟩)
      have hlt : 36 < listed.size := by rw [h.size]; decide
      have hu : listed.getD 36 false = false := by
        have : listed[36] = false := by simpa [Array.getD, hlt] using hi2
        simp [Array.getD, hlt, this]
      have hb := h.bel hu
      have e172 : a.tmps.getD 172 undef = .string (boundM t1 l1 lv ++ sg k ++ boundM t2 l2 (lv + 1)) := (g 34 (by decide) (hall 34 (by decide))).trans (by rw [← hV]; rfl)
      have e173 : a.tmps.getD 173 undef = .pointer (some ⟨gt, L, none⟩) := (g 35 (by decide) (hall 35 (by decide))).trans (by rw [← hV]; rfl)
      refine step_skip (ops23[36]'(by decide)) (Array.getElem?_eq_getElem _) rfl (r36 a w' e172 e173 ((hb.cell (p := ⟨gt, L, none⟩) b1).trans c1) ((hb.frozen (p := ⟨gt, L, none⟩) b1).trans fz)) ?_
      exact h.store hi2 hall
  · intro listed a w' h hr
    have hall : ∀ j, j < 37 → listed.getD j false = true := all_listed h.size back23 hr
    obtain ⟨w1, hb, hw⟩ := h.w2 (hall 36 (by decide))
    rw [hw, h.act, putL_congr 37 (l' := Array.replicate 37 true) (fun j hj => by rw [hall j hj]; simp [Array.getD_eq_getD_getElem?, hj])]
    exact hQ w1 ⟨hb.os, hb.tape, hb.output, hb.size, hb.block⟩
end Go.Proofs.YtcajjngjojegfaaGreatDoor
