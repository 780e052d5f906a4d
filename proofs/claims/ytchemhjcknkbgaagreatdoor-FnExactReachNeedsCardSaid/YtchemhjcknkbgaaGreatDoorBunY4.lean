/- What signs come to: in the program (32 bits) and in the model (int). -/
import Derived.Test.YtchemhjcknkbgaaGreatDoorBunY2
import Derived.Test.YtchemhjcknkbgaaGreatDoorBunY1
import Derived.Test.YtchemhjcknkbgaaGreatDoorBunY0
namespace Go.Proofs.YtchemhjcknkbgaaGreatDoor
open Go.RowKit Go.PlainAid
set_option linter.unusedSimpArgs false
set_option linter.unusedVariables false

theorem wr32_is (n : Int) : wrap32 n = wr32 n := by unfold wrap32 wr32; rfl
def bit (b : Bool) : Int := if b then 1 else 0
def quo (a b : Int) : Int := if b = 0 then 0 else wr32 (a.tdiv b)
def rest (a b : Int) : Int := if b = 0 then 0 else a.tmod b
/-- what a sign makes of two numbers -/
def two (k a b : Int) : Int :=
  if k = 5 then wr32 (a * b) else if k = 6 then quo a b else if k = 7 then rest a b
  else if k = 8 then wr32 (a + b) else if k = 9 then wr32 (a - b) else if k = 10 then bit (decide (a < b)) else if k = 11 then bit (a == b)
  else if k = 12 then bit (a != 0 && b != 0) else bit (a != 0 || b != 0)
def one (k a : Int) : Int := if k = 3 then wr32 (-a) else bit (a == 0)

def In32 (n : Int) : Prop := -2147483648 ≤ n ∧ n ≤ 2147483647
theorem in32_wr (n : Int) : In32 (wr32 n) := by unfold In32 wr32; omega
theorem in32_bit (b : Bool) : In32 (bit b) := by unfold In32 bit; split <;> omega
theorem wr32_in {n : Int} (h : In32 n) : wr32 n = n := by unfold In32 at h; unfold wr32; omega
theorem mul32 {a b : Int} (ha : In32 a) (hb : In32 b) : -4611686018427387904 ≤ a * b ∧ a * b ≤ 4611686018427387904 := by
  obtain ⟨a1, a2⟩ := ha; obtain ⟨b1, b2⟩ := hb
  have h : (a * b).natAbs ≤ 2147483648 * 2147483648 := by
    rw [Int.natAbs_mul]; exact Nat.mul_le_mul (by omega) (by omega)
  omega
theorem tdiv32 {a b : Int} (ha : In32 a) : -2147483648 ≤ a.tdiv b ∧ a.tdiv b ≤ 2147483648 := by
  obtain ⟨a1, a2⟩ := ha
  have h : (a.tdiv b).natAbs ≤ a.natAbs := by rw [Int.natAbs_tdiv]; exact Nat.div_le_self _ _
  omega
theorem tmod32 {a b : Int} (ha : In32 a) : In32 (a.tmod b) := by
  obtain ⟨a1, a2⟩ := ha
  have h : (a.tmod b).natAbs ≤ a.natAbs := by rw [Int.natAbs_tmod]; exact Nat.mod_le _ _
  have h2 : 0 ≤ a → 0 ≤ a.tmod b := fun h => Int.tmod_nonneg _ h
  have h3 : a ≤ 0 → a.tmod b ≤ 0 := fun h => by
    have := Int.tmod_nonneg (a := -a) b (by omega)
    rw [Int.neg_tmod] at this; omega
  unfold In32
  by_cases h0 : 0 ≤ a
  · have := h2 h0; omega
  · have := h3 (by omega); omega
theorem in32_two {k a b : Int} (ha : In32 a) : In32 (two k a b) := by
  unfold two quo rest
  repeat' split
  all_goals first | exact in32_wr _ | exact in32_bit _ | exact tmod32 ha | (unfold In32; omega)
theorem in32_one (k a : Int) : In32 (one k a) := by
  unfold one; split
  · exact in32_wr _
  · exact in32_bit _

theorem truth_any (b : Bool) (w : World) : Calls Tryz.prog 260 #[.bool b] w fun e w' => e = .returned (.int .i32 (bit b)) ∧ w' = w := by
  cases b <;>
  · go_enter Tryz.func260, Tryz.ntmps260
    go_wp2
    go_ret
    exact ⟨rfl, rfl⟩
theorem l1Bit_any (b : Bool) (w : World) : Calls Tryz.prog 213 #[.bool b] w fun e w' => e = .returned (.int .i64 (bit b)) ∧ w' = w := by
  cases b <;>
  · go_enter Tryz.func213, Tryz.ntmps213
    go_wp2
    go_ret
    exact ⟨rfl, rfl⟩
theorem quotient_any (a b : Int) (w : World) : Calls Tryz.prog 261 #[.int .i32 a, .int .i32 b] w fun e w' => e = .returned (.int .i32 (quo a b)) ∧ w' = w := by
  unfold quo
  by_cases h : b = 0
  · subst h
    go_enter Tryz.func261, Tryz.ntmps261
    go_wp2
    go_ret
    exact ⟨rfl, rfl⟩
  · rw [if_neg h]
    go_enter Tryz.func261, Tryz.ntmps261
    go_wp2
    go_ret
    exact ⟨ret_int (by rw [← wr32_is]), rfl⟩
theorem remainder_any (a b : Int) (w : World) : Calls Tryz.prog 262 #[.int .i32 a, .int .i32 b] w fun e w' => e = .returned (.int .i32 (rest a b)) ∧ w' = w := by
  unfold rest
  by_cases h : b = 0
  · subst h
    go_enter Tryz.func262, Tryz.ntmps262
    go_wp2
    go_ret
    exact ⟨rfl, rfl⟩
  · rw [if_neg h]
    go_enter Tryz.func262, Tryz.ntmps262
    go_wp2
    go_ret
    exact ⟨rfl, rfl⟩

theorem aheadValue_any (k a : Int) (w : World) (hk : k = 3 ∨ k = 4) : Calls Tryz.prog 245 #[.int .i64 k, .int .i32 a] w fun e w' => e = .returned (.int .i32 (one k a)) ∧ w' = w := by
  rcases hk with rfl | rfl
  · go_enter Tryz.func245, Tryz.ntmps245
    go_wp2
    go_ret
    exact ⟨ret_int (by rw [one, if_pos rfl, ← wr32_is]), rfl⟩
  · go_enter Tryz.func245, Tryz.ntmps245
    go_wp2_with (go_at_call 260; refine (truth_any _ _).mono ?_; rintro e w' ⟨rfl, rfl⟩)
    go_ret
    exact ⟨rfl, rfl⟩

theorem pair_cases {k : Int} (h : 5 ≤ k ∧ k ≤ 13) : k = 5 ∨ k = 6 ∨ k = 7 ∨ k = 8 ∨ k = 9 ∨ k = 10 ∨ k = 11 ∨ k = 12 ∨ k = 13 := by omega

set_option maxHeartbeats 800000 in
theorem pairValue_any (k a b : Int) (w : World) (hk : 5 ≤ k ∧ k ≤ 13) : Calls Tryz.prog 246 #[.int .i64 k, .int .i32 a, .int .i32 b] w fun e w' => e = .returned (.int .i32 (two k a b)) ∧ w' = w := by
  rcases pair_cases hk with rfl | rfl | rfl | rfl | rfl | rfl | rfl | rfl | rfl
  · go_enter Tryz.func246, Tryz.ntmps246
    go_wp2_with fail
    go_ret
    exact ⟨ret_int (by simp [two, ← wr32_is]), rfl⟩
  · go_enter Tryz.func246, Tryz.ntmps246
    go_wp2_with (go_at_call 261; refine (quotient_any _ _ _).mono ?_; rintro e w' ⟨rfl, rfl⟩)
    go_ret
    exact ⟨ret_int (by simp [two]), rfl⟩
  · go_enter Tryz.func246, Tryz.ntmps246
    go_wp2_with (go_at_call 262; refine (remainder_any _ _ _).mono ?_; rintro e w' ⟨rfl, rfl⟩)
    go_ret
    exact ⟨ret_int (by simp [two]), rfl⟩
  · go_enter Tryz.func246, Tryz.ntmps246
    go_wp2_with fail
    go_ret
    exact ⟨ret_int (by simp [two, ← wr32_is]), rfl⟩
  · go_enter Tryz.func246, Tryz.ntmps246
    go_wp2_with fail
    go_ret
    exact ⟨ret_int (by simp [two, ← wr32_is]), rfl⟩
  · go_enter Tryz.func246, Tryz.ntmps246
    go_wp2_with (go_at_call 260; refine (truth_any _ _).mono ?_; rintro e w' ⟨rfl, rfl⟩)
    go_ret
    exact ⟨ret_int (by simp [two]), rfl⟩
  · go_enter Tryz.func246, Tryz.ntmps246
    go_wp2_with (go_at_call 260; refine (truth_any _ _).mono ?_; rintro e w' ⟨rfl, rfl⟩)
    go_ret
    exact ⟨ret_int (by simp [two]), rfl⟩
  · cases h : (a != 0) <;>
    · go_enter Tryz.func246, Tryz.ntmps246
      go_wp2_with (go_at_call 260; refine (truth_any _ _).mono ?_; rintro e w' ⟨rfl, rfl⟩)
      go_ret
      exact ⟨ret_int (by simp [two, h]), rfl⟩
  · cases h : (a != 0) <;>
    · go_enter Tryz.func246, Tryz.ntmps246
      go_wp2_with (go_at_call 260; refine (truth_any _ _).mono ?_; rintro e w' ⟨rfl, rfl⟩)
      go_ret
      exact ⟨ret_int (by simp [two, h]), rfl⟩

set_option maxHeartbeats 800000 in
theorem l1Two_any (k a b : Int) (w : World) (hk : 5 ≤ k ∧ k ≤ 13) (ha : In32 a) (hb : In32 b) : Calls Tryz.prog 214 #[.int .i64 k, .int .i64 a, .int .i64 b] w fun e w' => e = .returned (.int .i64 (two k a b)) ∧ w' = w := by
  obtain ⟨m1, m2⟩ := mul32 ha hb
  obtain ⟨q1, q2⟩ := tdiv32 (b := b) ha
  obtain ⟨a1, a2⟩ := ha
  obtain ⟨b1, b2⟩ := hb
  rcases pair_cases hk with rfl | rfl | rfl | rfl | rfl | rfl | rfl | rfl | rfl
  · clear q1 q2
    go_enter Tryz.func214, Tryz.ntmps214
    go_wp2_with (go_at_call 94; refine (l1Wrap_any _ _).mono ?_; rintro e w' ⟨rfl, rfl⟩)
    go_ret
    exact ⟨ret_int (by simp [two, quo, rest]), rfl⟩
  · clear m1 m2
    by_cases h : b = 0
    · subst h
      go_enter Tryz.func214, Tryz.ntmps214
      go_wp2_with (go_at_call 94; refine (l1Wrap_any _ _).mono ?_; rintro e w' ⟨rfl, rfl⟩)
      go_ret
      exact ⟨ret_int (by simp [two, quo, rest]), rfl⟩
    · have h' : (b == 0) = false := by simp [h]
      go_enter Tryz.func214, Tryz.ntmps214
      go_wp2_with (go_at_call 94; refine (l1Wrap_any _ _).mono ?_; rintro e w' ⟨rfl, rfl⟩)
      go_ret
      exact ⟨ret_int (by simp [two, quo, rest, h]), rfl⟩
  · clear m1 m2
    by_cases h : b = 0
    · subst h
      go_enter Tryz.func214, Tryz.ntmps214
      go_wp2_with (go_at_call 94; refine (l1Wrap_any _ _).mono ?_; rintro e w' ⟨rfl, rfl⟩)
      go_ret
      exact ⟨ret_int (by simp [two, quo, rest]), rfl⟩
    · have h' : (b == 0) = false := by simp [h]
      go_enter Tryz.func214, Tryz.ntmps214
      go_wp2_with (go_at_call 94; refine (l1Wrap_any _ _).mono ?_; rintro e w' ⟨rfl, rfl⟩)
      go_ret
      exact ⟨ret_int (by simp [two, quo, rest, h]), rfl⟩
  · clear m1 m2 q1 q2
    go_enter Tryz.func214, Tryz.ntmps214
    go_wp2_with (go_at_call 94; refine (l1Wrap_any _ _).mono ?_; rintro e w' ⟨rfl, rfl⟩)
    go_ret
    exact ⟨ret_int (by simp [two, quo, rest]), rfl⟩
  · clear m1 m2 q1 q2
    go_enter Tryz.func214, Tryz.ntmps214
    go_wp2_with (go_at_call 94; refine (l1Wrap_any _ _).mono ?_; rintro e w' ⟨rfl, rfl⟩)
    go_ret
    exact ⟨ret_int (by simp [two, quo, rest]), rfl⟩
  · clear m1 m2 q1 q2
    go_enter Tryz.func214, Tryz.ntmps214
    go_wp2_with (go_at_call 213; refine (l1Bit_any _ _).mono ?_; rintro e w' ⟨rfl, rfl⟩)
    go_ret
    exact ⟨ret_int (by simp [two, quo, rest]), rfl⟩
  · clear m1 m2 q1 q2
    go_enter Tryz.func214, Tryz.ntmps214
    go_wp2_with (go_at_call 213; refine (l1Bit_any _ _).mono ?_; rintro e w' ⟨rfl, rfl⟩)
    go_ret
    exact ⟨ret_int (by simp [two, quo, rest]), rfl⟩
  · clear m1 m2 q1 q2
    cases h : (a != 0) <;>
    · go_enter Tryz.func214, Tryz.ntmps214
      go_wp2_with (go_at_call 213; refine (l1Bit_any _ _).mono ?_; rintro e w' ⟨rfl, rfl⟩)
      go_ret
      exact ⟨ret_int (by simp [two, quo, rest, h]), rfl⟩
  · clear m1 m2 q1 q2
    cases h : (a != 0) <;>
    · go_enter Tryz.func214, Tryz.ntmps214
      go_wp2_with (go_at_call 213; refine (l1Bit_any _ _).mono ?_; rintro e w' ⟨rfl, rfl⟩)
      go_ret
      exact ⟨ret_int (by simp [two, quo, rest, h]), rfl⟩
end Go.Proofs.YtchemhjcknkbgaaGreatDoor

/- The program's stack of 32-bit numbers: push and pop. -/
namespace Go.Proofs.YtchemhjcknkbgaaGreatDoor
open Go.RowKit Go.PlainAid
set_option linter.unusedSimpArgs false
set_option linter.unusedVariables false

theorem infoI32 : (Tryz.prog.info? 21).map (fun i => (i.zero, i.size, i.bytes)) = some (some (.int .i32 0), 1, 4) := by kernel_rfl

def i32s (st : List Int) : List Value := st.reverse.map (Value.int .i32)

/-- block p is a stack that holds st, its top first -/
def Stk (p : Nat) (w : World) (st : List Int) : Prop :=
  ∃ v, w.cell? ⟨p, 0, none⟩ = some v ∧ w.frozen? ⟨p, 0, none⟩ = false ∧ w.ownsRow (p + 1) 21 1 v st.length (i32s st)

theorem Stk.lt {p : Nat} {w : World} {st : List Int} (h : Stk p w st) : p < w.heap.size := by
  obtain ⟨v, hc, _⟩ := h
  exact World.block_lt_of_cell? w _ hc

theorem one_new (w : World) (v : Value) (t : TypeId) : ∀ j u, [v][j]? = some u → (w.alloc (.cells #[v] t)).cell? ((⟨w.heap.size, 0, none⟩ : Addr).add j) = some u := by
  intro j u hj
  match j, hj with
  | 0, hj => simp at hj; subst hj; simp [Addr.add]
theorem grown_old {w w1 : World} {row : Option Nat} (hg : w.grownBy w1 row) {b : Nat} (o : Nat) (hb : b < w.heap.size) (hne : some b ≠ row) : w1.cell? ⟨b, o, none⟩ = w.cell? ⟨b, o, none⟩ ∧ w1.frozen? ⟨b, o, none⟩ = w.frozen? ⟨b, o, none⟩ :=
  ⟨World.cell?_of_block (hg.block b hb hne), World.frozen?_of_block (hg.block b hb hne)⟩
theorem i32s_cons (x : Int) (st : List Int) : i32s (x :: st) = i32s st ++ [Value.int .i32 x] := by simp [i32s]

theorem push_any (p : Nat) (x : Int) (st : List Int) (w : World) (hs : Stk p w st) (hl : st.length ≤ 1048576) :
    Calls Tryz.prog 244 #[.pointer (some ⟨p, 0, none⟩), .int .i32 x] w fun e w' => e = .returned (.tuple #[]) ∧ Stk p w' (x :: st) ∧ Below p w w' := by
  have hlt := hs.lt
  obtain ⟨v, hc, hf, hown⟩ := hs
  obtain ⟨i0, hi, hz0, hz1, hz2⟩ := info_parts infoI32
  go_enter Tryz.func244, Tryz.ntmps244
  go_wp2_with (at_builtin; refine wpList_append_own _ rfl _ _ 255 rfl (p + 1) 21 i0 (.int .i32 0) 1 4 Tryz.underlying255 hi hz0 hz1 hz2 rfl (by decide) _ _ _ rfl (hown.alloc _) ⟨w.heap.size, 0, none⟩ 1 1 [.int .i32 x] rfl rfl ?c1 ?c2 ?c3 ?c4 ?c5 ?_)
  case c1 => exact one_new _ _ _
  case c2 => intro u hu; simp at hu; subst hu; rfl
  case c3 => unfold maxLen; omega
  case c4 => omega
  case c5 => simp; omega
  · intro v' w1 hown' hgrow _
    have hne : some p ≠ v.ownBlock := fun e => by have := (hown.lt p e.symm).1; omega
    obtain ⟨g1, g2⟩ := grown_old hgrow 0 (by simp; omega) hne
    have g1' : w1.cell? ⟨p, 0, none⟩ = some v := g1.trans ((World.cell?_alloc_past _ _ _ hlt).trans hc)
    have g2' : w1.frozen? ⟨p, 0, none⟩ = false := g2.trans ((World.frozen?_alloc_past _ _ _ hlt).trans hf)
    have hb : Below p w w1 := ((Below.refl p w).alloc (by omega) _).grown hgrow (by simp; omega) (fun k hk => by have := (hown.lt k hk).1; omega)
    obtain ⟨g, cap, hv⟩ : ∃ g cap, v' = .slice (some ⟨g, 0, none⟩) (st.length + 1) cap := by
      rcases hown'.2 with ⟨_, h⟩ | ⟨g, cap, cur, h, _⟩
      · simp at h
      · exact ⟨g, cap, h⟩
    subst hv
    have HO : Hid (w1.ownsRow (p + 1) 21 1 (.slice (some ⟨g, 0, none⟩) (st.length + 1) cap) (st.length + 1) (i32s st ++ [Value.int .i32 x])) := hown'
    clear hown' hgrow hown g1 g2
    go_wp2
    go_end0
    refine ⟨rfl, ⟨_, World.cell?_setCell_same _ _ _ g1', by simpa using g2', ?_⟩, hb.setCell (by simp) _⟩
    rw [i32s_cons]
    exact ownsRow_setCell_below HO.out (by simp) _

theorem pop_any (p : Nat) (x : Int) (st : List Int) (w : World) (hs : Stk p w (x :: st)) (hl : st.length ≤ 1048576) :
    Calls Tryz.prog 194 #[.pointer (some ⟨p, 0, none⟩)] w fun e w' => e = .returned (.tuple #[.int .i32 x, .bool true]) ∧ Stk p w' st ∧ Below p w w' ∧ w'.heap.size = w.heap.size ∧ ∀ b o, b ≠ p → w'.cell? ⟨b, o, none⟩ = w.cell? ⟨b, o, none⟩ := by
  have hlt := hs.lt
  obtain ⟨v, hc, hf, hown⟩ := hs
  obtain ⟨g, cap, rfl⟩ : ∃ g cap, v = .slice (some ⟨g, 0, none⟩) (st.length + 1) cap := by
    rcases hown.2 with ⟨_, h⟩ | ⟨g, cap, cur, h, _⟩
    · simp at h
    · exact ⟨g, cap, h⟩
  rw [i32s_cons] at hown
  have hx : w.cell? ⟨g, st.length, none⟩ = some (.int .i32 x) := by
    rw [hown.cellAt st.length (by simp)]
    simp [i32s]
  have hpop := ownsRow_pop (n := st.length) (by simp [i32s]) hown
  have HP : Hid (w.ownsRow (p + 1) 21 1 (.slice (some ⟨g, 0, none⟩) st.length cap) st.length (i32s st)) := hpop
  have hcap : st.length + 1 ≤ cap := by
    rcases hown.2 with ⟨h, _⟩ | ⟨g', cap', cur, h, _, _, h3, _⟩
    · simp at h
    · simp at h; simp at h3; omega
  clear hown hpop
  go_enter Tryz.func194, Tryz.ntmps194
  go_wp2
  go_ret2
  refine ⟨rfl, ⟨_, World.cell?_setCell_same _ _ _ hc, by simpa using hf, ownsRow_setCell_below HP.out (by simp) _⟩, (Below.refl _ _).setCell (by simp) _, by simp [World.setCell], fun b o hb => World.cell?_setCell_other _ _ _ _ (by intro h; injection h with h; exact hb h.symm)⟩
end Go.Proofs.YtchemhjcknkbgaaGreatDoor

/- Copies of lists, and boxes of cells, that may be written. -/
namespace Go.Proofs.YtchemhjcknkbgaaGreatDoor
open Go Go.RowKit Go.PlainAid
set_option linter.unusedSimpArgs false
set_option linter.unusedVariables false

theorem arr_mv {α : Type} {sz : Nat} {Q : Nat → World → List Value → α → Prop} {g n p : Nat} {w w' : World} {l : List α} (h : IsArr sz Q w.heap.size w (some ⟨g, 0, none⟩) n l) (hQ : ∀ cs x, Q w.heap.size w cs x → Q w'.heap.size w' cs x) (hm : Mv p w w') (hne : g ≠ p) : IsArr sz Q w'.heap.size w' (some ⟨g, 0, none⟩) n l := by
  obtain ⟨h1, h2⟩ := h
  refine ⟨h1, ?_⟩
  rcases h2 with h2 | ⟨q, o, e, hlt, hc⟩
  · exact .inl h2
  · cases e
    refine .inr ⟨g, 0, rfl, Nat.lt_of_lt_of_le hlt hm.size, fun i hi => ?_⟩
    obtain ⟨cs, q1, q2⟩ := hc i hi
    exact ⟨cs, hQ _ _ q1, fun j u hu => ⟨(q2 j u hu).1, (World.cell?_of_block (hm.block g hlt hne)).trans (q2 j u hu).2⟩⟩
/-- a copy of a list -/
def CpL {α : Type} (sz : Nat) (C : Nat → World → List Value → α → Prop) (n : Nat) (l : List α) (w : World) (e : Ending) (w' : World) : Prop :=
  ∃ b, e = .returned (.slice (some ⟨b, 0, none⟩) n n) ∧ w.heap.size ≤ b ∧ Open b (n * sz) w' ∧ Below w.heap.size w w' ∧ l.length = n ∧ ∀ i, (h : i < l.length) → ∃ cs, C (b + 1) w' cs l[i] ∧ ∀ j u, cs[j]? = some u → j < sz ∧ w'.cell? ⟨b, i * sz + j, none⟩ = some u
theorem CpL.arr {α : Type} {sz : Nat} {C : Nat → World → List Value → α → Prop} {Q : Nat → World → List Value → α → Prop} {n : Nat} {l : List α} {b : Nat} {w' : World} (hQ : ∀ cs x, C (b + 1) w' cs x → Q w'.heap.size w' cs x) (ho : Open b (n * sz) w') (hl : l.length = n) (h : ∀ i, (h : i < l.length) → ∃ cs, C (b + 1) w' cs l[i] ∧ ∀ j u, cs[j]? = some u → j < sz ∧ w'.cell? ⟨b, i * sz + j, none⟩ = some u) : IsArr sz Q w'.heap.size w' (some ⟨b, 0, none⟩) n l := by
  refine ⟨hl, .inr ⟨b, 0, rfl, ho.1, fun i hi => ?_⟩⟩
  obtain ⟨cs, h1, h2⟩ := h i hi
  exact ⟨cs, hQ _ _ h1, fun j u hu => ⟨(h2 j u hu).1, by rw [Nat.zero_add]; exact (h2 j u hu).2⟩⟩
/-- a box of cells that may be written -/
def BoxAt (b : Nat) (vals : List Value) (w : World) : Prop := b < w.heap.size ∧ ∀ j u, vals[j]? = some u → w.cell? ⟨b, j, none⟩ = some u ∧ w.frozen? ⟨b, j, none⟩ = false
theorem BoxAt.below {b : Nat} {vals : List Value} {w w' : World} (h : BoxAt b vals w) (hb : Below w.heap.size w w') : BoxAt b vals w' :=
  ⟨Nat.lt_of_lt_of_le h.1 hb.size, fun j u hu => ⟨(hb.cell (p := ⟨b, j, none⟩) h.1).trans (h.2 j u hu).1, (hb.frozen (p := ⟨b, j, none⟩) h.1).trans (h.2 j u hu).2⟩⟩
theorem BoxAt.mv {b p : Nat} {vals : List Value} {w w' : World} (h : BoxAt b vals w) (hm : Mv p w w') (hp : b ≠ p) : BoxAt b vals w' :=
  ⟨Nat.lt_of_lt_of_le h.1 hm.size, fun j u hu => ⟨(World.cell?_of_block (hm.block b h.1 hp)).trans (h.2 j u hu).1, (World.frozen?_of_block (hm.block b h.1 hp)).trans (h.2 j u hu).2⟩⟩
theorem BoxAt.set {b : Nat} {vals : List Value} {w : World} (h : BoxAt b vals w) (i : Nat) (v : Value) : BoxAt b (vals.set i v) (w.setCell ⟨b, i, none⟩ v) := by
  refine ⟨by simpa [World.setCell] using h.1, fun j u hu => ?_⟩
  rw [List.getElem?_set] at hu
  split at hu
  · rename_i e
    subst e
    split at hu
    · rename_i hl
      cases hu
      have := h.2 i _ (List.getElem?_eq_getElem hl)
      exact ⟨World.cell?_setCell_same _ _ _ this.1, by simpa using this.2⟩
    · cases hu
  · rename_i e
    have := h.2 j u hu
    exact ⟨by rw [setCell_ne _ _ _ _ _ e]; exact this.1, by simpa using this.2⟩
/-- a list that was copied into block g -/
def CL {α : Type} (sz : Nat) (C : Nat → World → List Value → α → Prop) (L n : Nat) (l : List α) (g : Nat) (w : World) : Prop :=
  L ≤ g ∧ Open g (n * sz) w ∧ l.length = n ∧ ∀ i, (h : i < l.length) → ∃ cs, C (g + 1) w cs l[i] ∧ ∀ j u, cs[j]? = some u → j < sz ∧ w.cell? ⟨g, i * sz + j, none⟩ = some u
theorem CL.mv {α : Type} {sz : Nat} {C : Nat → World → List Value → α → Prop} {L n p : Nat} {l : List α} {g : Nat} {w w' : World} (h : CL sz C L n l g w) (hC : ∀ cs x, C (g + 1) w cs x → C (g + 1) w' cs x) (hm : Mv p w w') (hp : p < L) : CL sz C L n l g w' := by
  obtain ⟨h1, h2, h3, h4⟩ := h
  refine ⟨h1, h2.mv hm (by omega), h3, fun i hi => ?_⟩
  obtain ⟨cs, q1, q2⟩ := h4 i hi
  exact ⟨cs, hC _ _ q1, fun j u hu => ⟨(q2 j u hu).1, (World.cell?_of_block (hm.block g h2.1 (by omega))).trans (q2 j u hu).2⟩⟩
theorem CL.below {α : Type} {sz : Nat} {C : Nat → World → List Value → α → Prop} {L n : Nat} {l : List α} {g : Nat} {w w' : World} (h : CL sz C L n l g w) (hC : ∀ cs x, C (g + 1) w cs x → C (g + 1) w' cs x) (hb : Below w.heap.size w w') : CL sz C L n l g w' := by
  obtain ⟨h1, h2, h3, h4⟩ := h
  refine ⟨h1, h2.below hb, h3, fun i hi => ?_⟩
  obtain ⟨cs, q1, q2⟩ := h4 i hi
  exact ⟨cs, hC _ _ q1, fun j u hu => ⟨(q2 j u hu).1, (hb.cell (p := ⟨g, i * sz + j, none⟩) h2.1).trans (q2 j u hu).2⟩⟩
theorem CL.low {α : Type} {sz : Nat} {C : Nat → World → List Value → α → Prop} {L L' n : Nat} {l : List α} {g : Nat} {w : World} (h : CL sz C L n l g w) (hL : L' ≤ L) : CL sz C L' n l g w := ⟨Nat.le_trans hL h.1, h.2⟩
theorem CL.arr {α : Type} {sz : Nat} {C : Nat → World → List Value → α → Prop} {Q : Nat → World → List Value → α → Prop} {L n : Nat} {l : List α} {g : Nat} {w : World} (h : CL sz C L n l g w) (hQ : ∀ cs x, C (g + 1) w cs x → Q w.heap.size w cs x) : IsArr sz Q w.heap.size w (some ⟨g, 0, none⟩) n l := CpL.arr hQ h.2.1 h.2.2.1 h.2.2.2
theorem below_boxed {w w1 : World} {o : Obj} (h : Below (w.alloc o).heap.size (w.alloc o) w1) : Below w.heap.size w w1 :=
  ((Below.refl _ _).alloc (Nat.le_refl _) _).trans (h.mono (by simp))
end Go.Proofs.YtchemhjcknkbgaaGreatDoor

/- A new box. -/
namespace Go.Proofs.YtchemhjcknkbgaaGreatDoor
open Go Go.RowKit Go.PlainAid
set_option linter.unusedSimpArgs false

theorem boxAt_new (w : World) (vals : List Value) (t : TypeId) : BoxAt w.heap.size vals (w.alloc (.cells vals.toArray t)) :=
  ⟨by simp, fun j u hu => ⟨by simp [hu], by simp⟩⟩
end Go.Proofs.YtchemhjcknkbgaaGreatDoor
