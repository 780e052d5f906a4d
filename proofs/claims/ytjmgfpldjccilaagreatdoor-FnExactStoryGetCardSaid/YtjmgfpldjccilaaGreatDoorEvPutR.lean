/- The region of l26Put that draws. -/
import Derived.Test.YtjmgfpldjccilaaGreatDoorRegionE
import Derived.Test.YtjmgfpldjccilaaGreatDoorOwnRow
import Derived.Deep.Slices
namespace Go.Proofs.YtjmgfpldjccilaaGreatDoor
open Go Go.RowKit Go.PlainAid Go.Deep
set_option linter.unusedSimpArgs false
set_option linter.unusedVariables false

def opsEP : Array Oper := #[
  { dst := some 4, op := Op.call { callee := Callee.value (Operand.func 53), args := #[], argTypes := #[] }, type := 53, pos := "l26_story.go:17", after := #[], guard := none },
  { dst := some 5, op := Op.fieldAddr 26 (Operand.tmp 1) 0, type := 0, pos := "l26_story.go:17", after := #[], guard := none },
  { dst := some 6, op := Op.load 3 (Operand.tmp 5), type := 3, pos := "l26_story.go:17", after := #[{ on := 1, ground := Ground.data }], guard := none },
  { dst := some 7, op := Op.indexAddr 53 (Operand.tmp 4) (Operand.tmp 6), type := 0, pos := "l26_story.go:17", after := #[{ on := 0, ground := Ground.data }, { on := 2, ground := Ground.data }], guard := none },
  { dst := some 8, op := Op.load 9 (Operand.tmp 7), type := 9, pos := "l26_story.go:17", after := #[{ on := 3, ground := Ground.data }], guard := none },
  { dst := some 9, op := Op.binOp BinOp.add 9 (Operand.tmp 8) (Operand.const (Value.string { data := #[32] })) 9, type := 9, pos := "l26_story.go:17", after := #[{ on := 4, ground := Ground.data }], guard := none },
  { dst := some 10, op := Op.fieldAddr 26 (Operand.tmp 1) 1, type := 0, pos := "l26_story.go:17", after := #[], guard := none },
  { dst := some 11, op := Op.load 3 (Operand.tmp 10), type := 3, pos := "l26_story.go:17", after := #[{ on := 6, ground := Ground.data }], guard := none },
  { dst := some 12, op := Op.call { callee := Callee.value (Operand.func 67), args := #[Operand.tmp 11], argTypes := #[3] }, type := 9, pos := "l26_story.go:17", after := #[{ on := 7, ground := Ground.data }, { on := 0, ground := Ground.chain }], guard := none },
  { dst := some 13, op := Op.binOp BinOp.add 9 (Operand.tmp 9) (Operand.tmp 12) 9, type := 9, pos := "l26_story.go:17", after := #[{ on := 5, ground := Ground.data }, { on := 8, ground := Ground.data }], guard := none },
  { dst := some 3, op := Op.assign (Operand.tmp 13), type := 9, pos := "l26_story.go:17", after := #[{ on := 9, ground := Ground.data }, { on := 8, ground := Ground.chain }, { on := 0, ground := Ground.phase }, { on := 1, ground := Ground.phase }, { on := 2, ground := Ground.phase }, { on := 3, ground := Ground.phase }, { on := 4, ground := Ground.phase }, { on := 5, ground := Ground.phase }, { on := 6, ground := Ground.phase }, { on := 7, ground := Ground.phase }, { on := 8, ground := Ground.phase }, { on := 9, ground := Ground.phase }], guard := none }]
def dEP (i : Nat) : Nat := [4, 5, 6, 7, 8, 9, 10, 11, 12, 13, 3].getD i 0
theorem apartEP : ∀ i j, i < 11 → j < 11 → i ≠ j → dEP i ≠ dEP j := by
  have key : ∀ i j : Fin 11, i ≠ j → dEP i.val ≠ dEP j.val := by decide +kernel
  intro i j hi hj h
  exact key ⟨i, hi⟩ ⟨j, hj⟩ (fun e => h (by cases e; rfl))
theorem ltEP : ∀ i, i + 1 < 11 → dEP i < 34 := by
  have key : ∀ i : Fin (11 - 1), dEP i.val < 34 := by decide +kernel
  exact fun i hi => key ⟨i, by omega⟩
theorem backEP : ∀ (j : Nat) (o : Oper), opsEP[j]? = some o → ∀ e ∈ o.after, Region.binds .any e = true → e.on < j := back_ofG 11 rfl (by decide +kernel)
theorem downEP : ∀ j, j + 1 < 11 → ∃ k, j < k ∧ k < 11 ∧ depD opsEP k j = true := by
  have key : ∀ j : Fin (11 - 1), ∃ k : Fin 11, j.val < k.val ∧ depD opsEP k.val j.val = true := by decide +kernel
  intro j hj
  obtain ⟨k, h1, h2⟩ := key ⟨j, by omega⟩
  exact ⟨k.val, h1, k.isLt, h2⟩
theorem arrEP (x : Array Value) (h : x.size = 34) : x = #[x.getD 0 undef, x.getD 1 undef, x.getD 2 undef, x.getD 3 undef, x.getD 4 undef, x.getD 5 undef, x.getD 6 undef, x.getD 7 undef, x.getD 8 undef, x.getD 9 undef, x.getD 10 undef, x.getD 11 undef, x.getD 12 undef, x.getD 13 undef, x.getD 14 undef, x.getD 15 undef, x.getD 16 undef, x.getD 17 undef, x.getD 18 undef, x.getD 19 undef, x.getD 20 undef, x.getD 21 undef, x.getD 22 undef, x.getD 23 undef, x.getD 24 undef, x.getD 25 undef, x.getD 26 undef, x.getD 27 undef, x.getD 28 undef, x.getD 29 undef, x.getD 30 undef, x.getD 31 undef, x.getD 32 undef, x.getD 33 undef] := by
  have e : x = ((List.range 34).map fun i => x.getD i undef).toArray := by
    apply Array.ext
    · simp [h]
    · intro i h1 h2
      simp [Array.getD_eq_getD_getElem?, h1]
  exact e.trans rfl

def PEP (p kk : Nat) (t : Int) (X Y : ByteArray) : Nat → Value → World → Prop
  | 0, v, w => ∃ g, v = .slice (some ⟨g, 0, none⟩) 10 10 ∧ g < w.heap.size ∧ w.cell? ⟨g, kk, none⟩ = some (.string X)
  | 1, v, w => v = .pointer (some ⟨p, 0, none⟩)
  | 2, v, w => v = .int .i64 kk
  | 3, v, w => ∃ g, v = .pointer (some ⟨g, kk, none⟩) ∧ g < w.heap.size ∧ w.cell? ⟨g, kk, none⟩ = some (.string X)
  | 4, v, w => v = .string X
  | 5, v, w => v = .string (X ++ (⟨#[32]⟩ : ByteArray))
  | 6, v, w => v = .pointer (some ⟨p, 1, none⟩)
  | 7, v, w => v = .int .i64 t
  | 8, v, w => v = .string Y
  | 9, v, w => v = .string (X ++ (⟨#[32]⟩ : ByteArray) ++ Y)
  | _, _, _ => True
def RelEP (p kk : Nat) (t : Int) (X Y : ByteArray) : Nat → World → World → Prop := fun _ w w' => Below w.heap.size w w'
theorem PEP_below (p kk : Nat) (t : Int) (X Y : ByteArray) : ∀ (i j : Nat) v (w w' : World), i ≠ j → PEP p kk t X Y j v w → RelEP p kk t X Y i w w' → PEP p kk t X Y j v w' := by
  intro i j v w w' hne h hr
  unfold PEP at h ⊢
  split at h
  all_goals first
    | exact h
    | (obtain ⟨g, e, h1, h2⟩ := h; exact ⟨g, e, Nat.lt_of_lt_of_le h1 hr.size, (hr.cell (p := ⟨g, kk, none⟩) h1).trans h2⟩)
    | (obtain ⟨g, e, h1, h2⟩ := h; exact ⟨g, e, Nat.lt_of_lt_of_le h1 hr.size, (hr.cell (p := ⟨g, kk, none⟩) h1).trans h2⟩)
set_option maxRecDepth 100000 in
theorem rEP_0 (a : Act) (w : World) (p kk : Nat) (t : Int) (X Y : ByteArray)   : (execOp a.eval (opsEP[0]'(by decide))).run Tryz.prog w = .ok (.enter 53 #[]) w := by
  show (execOp a.eval { dst := some 4, op := Op.call { callee := Callee.value (Operand.func 53), args := #[], argTypes := #[] }, type := _, pos := _, after := _, guard := _ }).run Tryz.prog w = _
  simp [execOp, Act.eval, go_sem, resolve, invoke]
set_option maxRecDepth 100000 in
theorem rEP_1 (a : Act) (w : World) (p kk : Nat) (t : Int) (X Y : ByteArray) (e1 : a.tmps.getD 1 undef = .pointer (some ⟨p, 0, none⟩))  : (execOp a.eval (opsEP[1]'(by decide))).run Tryz.prog w = .ok (.value (.pointer (some ⟨p, 0, none⟩))) w := by
  show (execOp a.eval { dst := some 5, op := Op.fieldAddr 26 (Operand.tmp 1) 0, type := _, pos := _, after := _, guard := _ }).run Tryz.prog w = _
  rw [Array.getD_eq_getD_getElem?] at e1
  simp [execOp, Act.eval, go_sem, resolve, invoke, e1]
set_option maxRecDepth 100000 in
theorem rEP_2 (a : Act) (w : World) (p kk : Nat) (t : Int) (X Y : ByteArray) (e5 : a.tmps.getD 5 undef = .pointer (some ⟨p, 0, none⟩)) (hc : w.cell? ⟨p, 0, none⟩ = some (.int .i64 kk)) : (execOp a.eval (opsEP[2]'(by decide))).run Tryz.prog w = .ok (.value (.int .i64 kk)) w := by
  show (execOp a.eval { dst := some 6, op := Op.load 3 (Operand.tmp 5), type := _, pos := _, after := _, guard := _ }).run Tryz.prog w = _
  rw [Array.getD_eq_getD_getElem?] at e5
  simp [execOp, Act.eval, go_sem, resolve, invoke, e5, hc]
set_option maxRecDepth 100000 in
theorem rEP_3 (a : Act) (w : World) (g0 kk : Nat) (hkk : (kk : Int) < 10) (e4 : a.tmps.getD 4 undef = .slice (some ⟨g0, 0, none⟩) 10 10) (e6 : a.tmps.getD 6 undef = .int .i64 kk) : (execOp a.eval (opsEP[3]'(by decide))).run Tryz.prog w = .ok (.value (.pointer (some ⟨g0, kk, none⟩))) w := by
  show (execOp a.eval { dst := some 7, op := Op.indexAddr 53 (Operand.tmp 4) (Operand.tmp 6), type := _, pos := _, after := _, guard := _ }).run Tryz.prog w = _
  rw [Array.getD_eq_getD_getElem?] at e4 e6
  simp [execOp, Act.eval, go_sem, resolve, invoke, e4, e6, hkk]
set_option maxRecDepth 100000 in
theorem rEP_4 (a : Act) (w : World) (g0 kk : Nat) (X : ByteArray) (e7 : a.tmps.getD 7 undef = .pointer (some ⟨g0, kk, none⟩)) (hc : w.cell? ⟨g0, kk, none⟩ = some (.string X)) : (execOp a.eval (opsEP[4]'(by decide))).run Tryz.prog w = .ok (.value (.string X)) w := by
  show (execOp a.eval { dst := some 8, op := Op.load 9 (Operand.tmp 7), type := _, pos := _, after := _, guard := _ }).run Tryz.prog w = _
  rw [Array.getD_eq_getD_getElem?] at e7
  simp [execOp, Act.eval, go_sem, resolve, invoke, e7, hc]
set_option maxRecDepth 100000 in
theorem rEP_5 (a : Act) (w : World) (p kk : Nat) (t : Int) (X Y : ByteArray) (e8 : a.tmps.getD 8 undef = .string X) (hq : ¬ 9223372036854775807 < X.size + 1) : (execOp a.eval (opsEP[5]'(by decide))).run Tryz.prog w = .ok (.value (.string (X ++ (⟨#[32]⟩ : ByteArray)))) w := by
  show (execOp a.eval { dst := some 9, op := Op.binOp BinOp.add 9 (Operand.tmp 8) (Operand.const (Value.string { data := #[32] })) 9, type := _, pos := _, after := _, guard := _ }).run Tryz.prog w = _
  rw [Array.getD_eq_getD_getElem?] at e8
  simp [execOp, Act.eval, go_sem, resolve, invoke, e8, hq]
set_option maxRecDepth 100000 in
theorem rEP_6 (a : Act) (w : World) (p kk : Nat) (t : Int) (X Y : ByteArray) (e1 : a.tmps.getD 1 undef = .pointer (some ⟨p, 0, none⟩))  : (execOp a.eval (opsEP[6]'(by decide))).run Tryz.prog w = .ok (.value (.pointer (some ⟨p, 1, none⟩))) w := by
  show (execOp a.eval { dst := some 10, op := Op.fieldAddr 26 (Operand.tmp 1) 1, type := _, pos := _, after := _, guard := _ }).run Tryz.prog w = _
  rw [Array.getD_eq_getD_getElem?] at e1
  simp [execOp, Act.eval, go_sem, resolve, invoke, e1]
set_option maxRecDepth 100000 in
theorem rEP_7 (a : Act) (w : World) (p kk : Nat) (t : Int) (X Y : ByteArray) (e10 : a.tmps.getD 10 undef = .pointer (some ⟨p, 1, none⟩)) (hc : w.cell? ⟨p, 1, none⟩ = some (.int .i64 t)) : (execOp a.eval (opsEP[7]'(by decide))).run Tryz.prog w = .ok (.value (.int .i64 t)) w := by
  show (execOp a.eval { dst := some 11, op := Op.load 3 (Operand.tmp 10), type := _, pos := _, after := _, guard := _ }).run Tryz.prog w = _
  rw [Array.getD_eq_getD_getElem?] at e10
  simp [execOp, Act.eval, go_sem, resolve, invoke, e10, hc]
set_option maxRecDepth 100000 in
theorem rEP_8 (a : Act) (w : World) (p kk : Nat) (t : Int) (X Y : ByteArray) (e11 : a.tmps.getD 11 undef = .int .i64 t)  : (execOp a.eval (opsEP[8]'(by decide))).run Tryz.prog w = .ok (.enter 67 #[.int .i64 t]) w := by
  show (execOp a.eval { dst := some 12, op := Op.call { callee := Callee.value (Operand.func 67), args := #[Operand.tmp 11], argTypes := #[3] }, type := _, pos := _, after := _, guard := _ }).run Tryz.prog w = _
  rw [Array.getD_eq_getD_getElem?] at e11
  simp [execOp, Act.eval, go_sem, resolve, invoke, e11]
set_option maxRecDepth 100000 in
theorem rEP_9 (a : Act) (w : World) (p kk : Nat) (t : Int) (X Y : ByteArray) (e9 : a.tmps.getD 9 undef = .string (X ++ (⟨#[32]⟩ : ByteArray))) (e12 : a.tmps.getD 12 undef = .string Y) (hq : ¬ 9223372036854775807 < X.size + 1 + Y.size) : (execOp a.eval (opsEP[9]'(by decide))).run Tryz.prog w = .ok (.value (.string (X ++ (⟨#[32]⟩ : ByteArray) ++ Y))) w := by
  show (execOp a.eval { dst := some 13, op := Op.binOp BinOp.add 9 (Operand.tmp 9) (Operand.tmp 12) 9, type := _, pos := _, after := _, guard := _ }).run Tryz.prog w = _
  rw [Array.getD_eq_getD_getElem?] at e9 e12
  simp [execOp, Act.eval, go_sem, resolve, invoke, e9, e12, hq]
set_option maxRecDepth 100000 in
theorem rEP_10 (a : Act) (w : World) (v : Value) (e13 : a.tmps.getD 13 undef = v) : (execOp a.eval (opsEP[10]'(by decide))).run Tryz.prog w = .ok (.value (v)) w := by
  show (execOp a.eval { dst := some 3, op := Op.assign (Operand.tmp 13), type := _, pos := _, after := _, guard := _ }).run Tryz.prog w = _
  rw [Array.getD_eq_getD_getElem?] at e13
  simp [execOp, Act.eval, go_sem, resolve, invoke, e13]

set_option maxHeartbeats 3200000 in
set_option maxRecDepth 100000 in
theorem regionEP (Q : Exit → Act → World → Prop) (a0 : Act) (w0 : World) (p kk : Nat) (t : Int) (X Y : ByteArray) (hz : a0.tmps.size = 34) (q1 : a0.tmps.getD 1 undef = .pointer (some ⟨p, 0, none⟩))
    (hp : p < w0.heap.size) (hkk : (kk : Int) < 10) (z1 : ¬ 9223372036854775807 < X.size + 1) (z2 : ¬ 9223372036854775807 < X.size + 1 + Y.size) (x0 : w0.cell? ⟨p, 0, none⟩ = some (.int .i64 kk)) (x1 : w0.cell? ⟨p, 1, none⟩ = some (.int .i64 t)) (HW : ∀ w, Calls Tryz.prog 53 #[] w fun e w' => ∃ g, e = .returned (.slice (some ⟨g, 0, none⟩) 10 10) ∧ g < w'.heap.size ∧ w'.cell? ⟨g, kk, none⟩ = some (.string X) ∧ Below w.heap.size w w') (HI : ∀ w, Below w0.heap.size w0 w → Calls Tryz.prog 67 #[.int .i64 t] w fun e w' => e = .returned (.string Y) ∧ Below w.heap.size w w')
    (hQ : ∀ (b : Act) (w : World), b.tmps.size = 34 → b.defers = a0.defers → (∀ d, (∀ j, j < 11 → dEP j ≠ d) → b.tmps.getD d undef = a0.tmps.getD d undef) → (b.tmps.getD 3 undef = .string (X ++ (⟨#[32]⟩ : ByteArray) ++ Y) ∧ Below w0.heap.size w0 w) → Q .normal b w) :
    (Code.region 1 opsEP true).wp Tryz.prog Q a0 w0 := by
  have hdr : Below (w0.heap.size) w0 w0.drew := ⟨rfl, rfl, rfl, Nat.le_refl _, fun _ _ => rfl⟩
  have hdr0 : Below w0.heap.size w0 w0.drew := ⟨rfl, rfl, rfl, Nat.le_refl _, fun _ _ => rfl⟩
  refine regionE 11 34 dEP (PEP p kk t X Y) (RelEP p kk t X Y) (fun listed w => Below (w0.heap.size) w0 w) (fun b w => b.tmps.size = 34 ∧ b.defers = a0.defers ∧ (∀ d, (∀ j, j < 11 → dEP j ≠ d) → b.tmps.getD d undef = a0.tmps.getD d undef) ∧ (b.tmps.getD 3 undef = .string (X ++ (⟨#[32]⟩ : ByteArray) ++ Y) ∧ Below w0.heap.size w0 w)) Q a0 w0 (by kernel_rfl) rfl (by decide) apartEP ltEP backEP downEP (PEP_below p kk t X Y) hz hdr ?_ ?_ (fun b w h => hQ b w h.1 h.2.1 h.2.2.1 h.2.2.2)
  · intro i hi listed b w hls hli tz keep hID g hcl K hK
    have hb := hID
    have hrf : Below w.heap.size w w := Below.refl _ _
    have hsz := hb.size
    have hcase : i = 0 ∨ i = 1 ∨ i = 2 ∨ i = 3 ∨ i = 4 ∨ i = 5 ∨ i = 6 ∨ i = 7 ∨ i = 8 ∨ i = 9 := by omega
    rcases hcase with rfl | rfl | rfl | rfl | rfl | rfl | rfl | rfl | rfl | rfl
    · refine wantD (ops := opsEP) (n := 0) (by decide) (.inl rfl) (wpD_call (rEP_0 b w p kk t X Y ) ((HW w).mono ?_))
      rintro e w' ⟨g, rfl, h1, h2, hb'⟩
      exact ⟨_, rfl, hK _ w' (hb.trans (hb'.mono hsz)) hb' ⟨g, rfl, h1, h2⟩⟩
    · exact wantD (ops := opsEP) (n := 1) (by decide) (.inl rfl) (wpD_val (rEP_1 b w p kk t X Y ((keep 1 (by decide)).trans q1) ) (hK _ w hb hrf rfl))
    · exact wantD (ops := opsEP) (n := 2) (by decide) (.inl rfl) (wpD_val (rEP_2 b w p kk t X Y (g 1 (by decide) (by decide +kernel)) ((hb.cell (p := ⟨p, 0, none⟩) hp).trans x0)) (hK _ w hb hrf rfl))
    · obtain ⟨g0, e4, h1, h2⟩ := g 0 (by decide) (by decide +kernel)
      exact wantD (ops := opsEP) (n := 3) (by decide) (.inl rfl) (wpD_val (rEP_3 b w g0 kk hkk e4 (g 2 (by decide) (by decide +kernel))) (hK _ w hb hrf ⟨g0, rfl, h1, h2⟩))
    · obtain ⟨g0, e7, h1, h2⟩ := g 3 (by decide) (by decide +kernel)
      exact wantD (ops := opsEP) (n := 4) (by decide) (.inl rfl) (wpD_val (rEP_4 b w g0 kk X e7 h2) (hK _ w hb hrf rfl))
    · exact wantD (ops := opsEP) (n := 5) (by decide) (.inl rfl) (wpD_val (rEP_5 b w p kk t X Y (g 4 (by decide) (by decide +kernel)) z1) (hK _ w hb hrf rfl))
    · exact wantD (ops := opsEP) (n := 6) (by decide) (.inl rfl) (wpD_val (rEP_6 b w p kk t X Y ((keep 1 (by decide)).trans q1) ) (hK _ w hb hrf rfl))
    · exact wantD (ops := opsEP) (n := 7) (by decide) (.inl rfl) (wpD_val (rEP_7 b w p kk t X Y (g 6 (by decide) (by decide +kernel)) ((hb.cell (p := ⟨p, 1, none⟩) hp).trans x1)) (hK _ w hb hrf rfl))
    · refine wantD (ops := opsEP) (n := 8) (by decide) (.inl rfl) (wpD_call (rEP_8 b w p kk t X Y (g 7 (by decide) (by decide +kernel)) ) ((HI w hb).mono ?_))
      rintro e w' ⟨rfl, hb'⟩
      exact ⟨_, rfl, hK _ w' (hb.trans (hb'.mono hsz)) hb' rfl⟩
    · exact wantD (ops := opsEP) (n := 9) (by decide) (.inl rfl) (wpD_val (rEP_9 b w p kk t X Y (g 5 (by decide) (by decide +kernel)) (g 8 (by decide) (by decide +kernel)) z2) (hK _ w hb hrf rfl))
  · intro listed b w hall tz df keep hID g
    have hb := hID
    have e13 := g 9 (by decide)
    refine wantD (ops := opsEP) (n := 10) (by decide) (.inl rfl) (wpD_val (rEP_10 b w _ e13) ?_)
    show (b.put (some 3) _).tmps.size = _ ∧ (b.put (some 3) _).defers = _ ∧ _ ∧ _
    exact ⟨by rw [put_sizeG]; exact tz, df, fun d hd => by show (b.put (some 3) _).tmps.getD d undef = _; exact (put_otherG (show 3 ≠ d from hd 10 (by decide))).trans (keep d (fun j hj => hd j (by omega))), put_selfG (by rw [tz]; decide), hb⟩

set_option maxHeartbeats 1600000 in
set_option maxRecDepth 100000 in
theorem regionXEP {Q : Exit → Act → World → Prop} {u0 u2 u3 u4 u5 u6 u7 u8 u9 u10 u11 u12 u13 u14 u15 u16 u17 u18 u19 u20 u21 u22 u23 u24 u25 u26 u27 u28 u29 u30 u31 u32 u33 : Value} {ds : List Deferred} {w0 : World} (p kk : Nat) (t : Int) (X Y : ByteArray)
    (hp : p < w0.heap.size) (hkk : (kk : Int) < 10) (z1 : ¬ 9223372036854775807 < X.size + 1) (z2 : ¬ 9223372036854775807 < X.size + 1 + Y.size) (x0 : w0.cell? ⟨p, 0, none⟩ = some (.int .i64 kk)) (x1 : w0.cell? ⟨p, 1, none⟩ = some (.int .i64 t)) (HW : ∀ w, Calls Tryz.prog 53 #[] w fun e w' => ∃ g, e = .returned (.slice (some ⟨g, 0, none⟩) 10 10) ∧ g < w'.heap.size ∧ w'.cell? ⟨g, kk, none⟩ = some (.string X) ∧ Below w.heap.size w w') (HI : ∀ w, Below w0.heap.size w0 w → Calls Tryz.prog 67 #[.int .i64 t] w fun e w' => e = .returned (.string Y) ∧ Below w.heap.size w w')
    (hQ : ∀ (x4 x5 x6 x7 x8 x9 x10 x11 x12 x13 : Value) (w : World), Below w0.heap.size w0 w → Q .normal ⟨#[u0, .pointer (some ⟨p, 0, none⟩), u2, .string (X ++ (⟨#[32]⟩ : ByteArray) ++ Y), x4, x5, x6, x7, x8, x9, x10, x11, x12, x13, u14, u15, u16, u17, u18, u19, u20, u21, u22, u23, u24, u25, u26, u27, u28, u29, u30, u31, u32, u33], ds⟩ w) :
    (Code.region 1 opsEP true).wp Tryz.prog Q ⟨#[u0, .pointer (some ⟨p, 0, none⟩), u2, u3, u4, u5, u6, u7, u8, u9, u10, u11, u12, u13, u14, u15, u16, u17, u18, u19, u20, u21, u22, u23, u24, u25, u26, u27, u28, u29, u30, u31, u32, u33], ds⟩ w0 := by
  refine regionEP Q _ w0 p kk t X Y rfl rfl hp hkk z1 z2 x0 x1 HW HI ?_
  intro b w hz hd hkp hl
  obtain ⟨hlast, h1⟩ := hl
  have e : b = ⟨#[u0, .pointer (some ⟨p, 0, none⟩), u2, .string (X ++ (⟨#[32]⟩ : ByteArray) ++ Y), b.tmps.getD 4 undef, b.tmps.getD 5 undef, b.tmps.getD 6 undef, b.tmps.getD 7 undef, b.tmps.getD 8 undef, b.tmps.getD 9 undef, b.tmps.getD 10 undef, b.tmps.getD 11 undef, b.tmps.getD 12 undef, b.tmps.getD 13 undef, u14, u15, u16, u17, u18, u19, u20, u21, u22, u23, u24, u25, u26, u27, u28, u29, u30, u31, u32, u33], ds⟩ := by
    have h1 := arrEP b.tmps hz
    have h2 : b = ⟨b.tmps, b.defers⟩ := rfl
    rw [h1, hd, hlast, hkp 0 (by decide), hkp 1 (by decide), hkp 2 (by decide), hkp 14 (by decide), hkp 15 (by decide), hkp 16 (by decide), hkp 17 (by decide), hkp 18 (by decide), hkp 19 (by decide), hkp 20 (by decide), hkp 21 (by decide), hkp 22 (by decide), hkp 23 (by decide), hkp 24 (by decide), hkp 25 (by decide), hkp 26 (by decide), hkp 27 (by decide), hkp 28 (by decide), hkp 29 (by decide), hkp 30 (by decide), hkp 31 (by decide), hkp 32 (by decide), hkp 33 (by decide)] at h2
    exact h2
  rw [e]
  exact hQ _ _ _ _ _ _ _ _ _ _ w h1
end Go.Proofs.YtjmgfpldjccilaaGreatDoor
