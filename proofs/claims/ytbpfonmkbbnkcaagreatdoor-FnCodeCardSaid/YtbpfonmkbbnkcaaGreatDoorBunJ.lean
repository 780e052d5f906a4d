/- The program's stack of 32-bit numbers: push and pop. -/
import Derived.Test.YtbpfonmkbbnkcaaGreatDoorBunG
import Derived.Deep.RegionWith
namespace Go.Proofs.YtbpfonmkbbnkcaaGreatDoor
open Go.RowKit Go.PlainAid
set_option linter.unusedSimpArgs false
set_option linter.unusedVariables false

theorem infoI32 : (Tryz.prog.info? 21).map (fun i => (i.zero, i.size, i.bytes)) = some (some (.int .i32 0), 1, 4) := by kernel_rfl

def i32s (st : List Int) : List Value := st.reverse.map (Value.int .i32)

/-- block p is a stack that holds st, its top first -/
def Stk (p : Nat) (w : World) (st : List Int) : Prop :=
  ∃ v, w.cell? ⟨p, 0, none⟩ = some v ∧ w.frozen? ⟨p, 0, none⟩ = false ∧ w.ownsRow (p + 1) 21 1 v st.length (i32s st)

theorem Stk.lt {p : Nat} {w : World} {st : List Int} (h : Stk p w st) : p < w.heap.size := by
  obtain ⟨v, hc, _⟩ := h
  exact World.block_lt_of_cell? w _ hc

theorem one_new (w : World) (v : Value) (t : TypeId) : ∀ j u, [v][j]? = some u → (w.alloc (.cells #[v] t)).cell? ((⟨w.heap.size, 0, none⟩ : Addr).add j) = some u := by
  intro j u hj
  match j, hj with
  | 0, hj => simp at hj; subst hj; simp [Addr.add]
theorem grown_old {w w1 : World} {row : Option Nat} (hg : w.grownBy w1 row) {b : Nat} (o : Nat) (hb : b < w.heap.size) (hne : some b ≠ row) : w1.cell? ⟨b, o, none⟩ = w.cell? ⟨b, o, none⟩ ∧ w1.frozen? ⟨b, o, none⟩ = w.frozen? ⟨b, o, none⟩ :=
  ⟨World.cell?_of_block (hg.block b hb hne), World.frozen?_of_block (hg.block b hb hne)⟩
theorem i32s_cons (x : Int) (st : List Int) : i32s (x :: st) = i32s st ++ [Value.int .i32 x] := by simp [i32s]

theorem push_any (p : Nat) (x : Int) (st : List Int) (w : World) (hs : Stk p w st) (hl : st.length ≤ 1048576) :
    Calls Tryz.prog 109 #[.pointer (some ⟨p, 0, none⟩), .int .i32 x] w fun e w' => e = .returned (.tuple #[]) ∧ Stk p w' (x :: st) ∧ Below p w w' := by
  have hlt := hs.lt
  obtain ⟨v, hc, hf, hown⟩ := hs
  obtain ⟨i0, hi, hz0, hz1, hz2⟩ := info_parts infoI32
  go_enter Tryz.func109, Tryz.ntmps109
  go_wp2_with (at_builtin; refine wpList_append_own _ rfl _ _ 92 rfl (p + 1) 21 i0 (.int .i32 0) 1 4 Tryz.underlying92 hi hz0 hz1 hz2 rfl (by decide) _ _ _ rfl (hown.alloc _) ⟨w.heap.size, 0, none⟩ 1 1 [.int .i32 x] rfl rfl ?c1 ?c2 ?c3 ?c4 ?c5 ?_)
  case c1 => exact one_new _ _ _
  case c2 => intro u hu; simp at hu; subst hu; rfl
  case c3 => unfold maxLen; omega
  case c4 => omega
  case c5 => simp; omega
  · intro v' w1 hown' hgrow _
    have hne : some p ≠ v.ownBlock := fun e => by have := (hown.lt p e.symm).1; omega
    obtain ⟨g1, g2⟩ := grown_old hgrow 0 (by simp; omega) hne
    have g1' : w1.cell? ⟨p, 0, none⟩ = some v := g1.trans ((World.cell?_alloc_past _ _ _ hlt).trans hc)
    have g2' : w1.frozen? ⟨p, 0, none⟩ = false := g2.trans ((World.frozen?_alloc_past _ _ _ hlt).trans hf)
    have hb : Below p w w1 := ((Below.refl p w).alloc (by omega) _).grown hgrow (by simp; omega) (fun k hk => by have := (hown.lt k hk).1; omega)
    obtain ⟨g, cap, hv⟩ : ∃ g cap, v' = .slice (some ⟨g, 0, none⟩) (st.length + 1) cap := by
      rcases hown'.2 with ⟨_, h⟩ | ⟨g, cap, cur, h, _⟩
      · simp at h
      · exact ⟨g, cap, h⟩
    subst hv
    have HO : Hid (w1.ownsRow (p + 1) 21 1 (.slice (some ⟨g, 0, none⟩) (st.length + 1) cap) (st.length + 1) (i32s st ++ [Value.int .i32 x])) := hown'
    clear hown' hgrow hown g1 g2
    go_wp2
    go_end0
    refine ⟨rfl, ⟨_, World.cell?_setCell_same _ _ _ g1', by simpa using g2', ?_⟩, hb.setCell (by simp) _⟩
    rw [i32s_cons]
    exact ownsRow_setCell_below HO.out (by simp) _

theorem pop_any (p : Nat) (x : Int) (st : List Int) (w : World) (hs : Stk p w (x :: st)) (hl : st.length ≤ 1048576) :
    Calls Tryz.prog 61 #[.pointer (some ⟨p, 0, none⟩)] w fun e w' => e = .returned (.tuple #[.int .i32 x, .bool true]) ∧ Stk p w' st ∧ Below p w w' ∧ w'.heap.size = w.heap.size ∧ ∀ b o, b ≠ p → w'.cell? ⟨b, o, none⟩ = w.cell? ⟨b, o, none⟩ := by
  have hlt := hs.lt
  obtain ⟨v, hc, hf, hown⟩ := hs
  obtain ⟨g, cap, rfl⟩ : ∃ g cap, v = .slice (some ⟨g, 0, none⟩) (st.length + 1) cap := by
    rcases hown.2 with ⟨_, h⟩ | ⟨g, cap, cur, h, _⟩
    · simp at h
    · exact ⟨g, cap, h⟩
  rw [i32s_cons] at hown
  have hx : w.cell? ⟨g, st.length, none⟩ = some (.int .i32 x) := by
    rw [hown.cellAt st.length (by simp)]
    simp [i32s]
  have hpop := ownsRow_pop (n := st.length) (by simp [i32s]) hown
  have HP : Hid (w.ownsRow (p + 1) 21 1 (.slice (some ⟨g, 0, none⟩) st.length cap) st.length (i32s st)) := hpop
  have hcap : st.length + 1 ≤ cap := by
    rcases hown.2 with ⟨h, _⟩ | ⟨g', cap', cur, h, _, _, h3, _⟩
    · simp at h
    · simp at h; simp at h3; omega
  clear hown hpop
  go_enter Tryz.func61, Tryz.ntmps61
  go_wp2
  go_ret2
  refine ⟨rfl, ⟨_, World.cell?_setCell_same _ _ _ hc, by simpa using hf, ownsRow_setCell_below HP.out (by simp) _⟩, (Below.refl _ _).setCell (by simp) _, by simp [World.setCell], fun b o hb => World.cell?_setCell_other _ _ _ _ (by intro h; injection h with h; exact hb h.symm)⟩
end Go.Proofs.YtbpfonmkbbnkcaaGreatDoor

/- The program's ops: what each does to the stack. -/
namespace Go.Proofs.YtbpfonmkbbnkcaaGreatDoor
open Go.RowKit Go.PlainAid
set_option linter.unusedSimpArgs false
set_option linter.unusedVariables false

theorem Stk.alloc {p : Nat} {w : World} {st : List Int} (h : Stk p w st) (o : Obj) : Stk p (w.alloc o) st := by
  have hlt := h.lt
  obtain ⟨v, hc, hf, hown⟩ := h
  exact ⟨v, (World.cell?_alloc_past _ _ _ hlt).trans hc, (World.frozen?_alloc_past _ _ _ hlt).trans hf, hown.alloc _⟩

/-- the slice (a, n), below block B, reads in w as these numbers -/
def IsInts (B : Nat) (w : World) (a : Option Addr) (n : Nat) (vs : List Int) : Prop :=
  vs.length = n ∧ (n = 0 ∨ ∃ b off, a = some ⟨b, off, none⟩ ∧ b < B ∧ ∀ i, i < n → w.cell? ⟨b, off + i, none⟩ = some (.int .i64 (vs.getD i 0)))
theorem IsInts.below {B : Nat} {w w' : World} {a : Option Addr} {n : Nat} {vs : List Int} (h : IsInts B w a n vs) (hb : Below B w w') : IsInts B w' a n vs := by
  obtain ⟨h1, h2⟩ := h
  refine ⟨h1, ?_⟩
  rcases h2 with h2 | ⟨b, off, rfl, hlt, hc⟩
  · exact .inl h2
  · exact .inr ⟨b, off, rfl, hlt, fun i hi => (hb.cell hlt).trans (hc i hi)⟩
theorem IsInts.mono {B B' : Nat} {w : World} {a : Option Addr} {n : Nat} {vs : List Int} (h : IsInts B w a n vs) (hb : B ≤ B') : IsInts B' w a n vs := by
  obtain ⟨h1, h2⟩ := h
  refine ⟨h1, ?_⟩
  rcases h2 with h2 | ⟨b, off, rfl, hlt, hc⟩
  · exact .inl h2
  · exact .inr ⟨b, off, rfl, by omega, hc⟩

theorem runNum_any (p : Nat) (k n : Int) (a : Option Addr) (m c : Nat) (st : List Int) (w : World) (hs : Stk p w st) (hl : st.length ≤ 1048576) :
    Calls Tryz.prog 88 #[.pointer (some ⟨p, 0, none⟩), .agg #[.int .i64 k, .int .i64 n], .slice a m c] w fun e w' => e = .returned (.tuple #[]) ∧ Stk p w' (wr32 n :: st) ∧ Below p w w' := by
  have hlt := hs.lt
  have HS : Hid (Stk p w st) := hs
  clear hs
  go_enter Tryz.func88, Tryz.ntmps88
  go_wp2_with fail
  refine (push_any p _ st _ (HS.out.alloc _) hl).mono ?_
  rintro e w1 ⟨rfl, h1, h2⟩
  go_wp2_with fail
  go_end0
  refine ⟨rfl, ?_, ((Below.refl p w).alloc (by omega) _).trans h2⟩
  rw [← wr32_is]; exact h1

theorem runName_any (p : Nat) (n : Nat) (a : Option Addr) (m c : Nat) (vs : List Int) (st : List Int) (w : World) (hs : Stk p w st) (hl : st.length ≤ 1048576) (hv : IsInts p w a m vs) (hn : n < m) (hm : m ≤ 1048576) :
    Calls Tryz.prog 89 #[.pointer (some ⟨p, 0, none⟩), .agg #[.int .i64 2, .int .i64 n], .slice a m c] w fun e w' => e = .returned (.tuple #[]) ∧ Stk p w' (wr32 (vs.getD n 0) :: st) ∧ Below p w w' := by
  have hlt := hs.lt
  obtain ⟨h1, h2⟩ := hv
  rcases h2 with h2 | ⟨b, off, rfl, hb, hc⟩
  · omega
  have hcn := hc n hn
  have HS : Hid (Stk p w st) := hs
  have hbw : b < w.heap.size := by omega
  clear hs hc
  go_enter Tryz.func89, Tryz.ntmps89
  go_wp2_with fail
  refine (push_any p _ st _ (HS.out.alloc _) hl).mono ?_
  rintro e w1 ⟨rfl, h1, h2⟩
  go_wp2_with fail
  go_end0
  refine ⟨rfl, ?_, ((Below.refl p w).alloc (by omega) _).trans h2⟩
  rw [← wr32_is, show vs.getD n 0 = vs[n] from by have : n < vs.length := (by omega); simp [this]]
  exact h1

theorem runAhead_any (p : Nat) (k n x : Int) (a : Option Addr) (m c : Nat) (st : List Int) (w : World) (hk : k = 3 ∨ k = 4) (hs : Stk p w (x :: st)) (hl : st.length ≤ 1048576) :
    Calls Tryz.prog 90 #[.pointer (some ⟨p, 0, none⟩), .agg #[.int .i64 k, .int .i64 n], .slice a m c] w fun e w' => e = .returned (.tuple #[]) ∧ Stk p w' (one k x :: st) ∧ Below p w w' := by
  have hlt := hs.lt
  have HS : Hid (Stk p w (x :: st)) := hs
  have HK : Hid (k = 3 ∨ k = 4) := hk
  clear hs hk
  go_enter Tryz.func90, Tryz.ntmps90
  go_wp2_with fail
  refine (pop_any p x st _ (HS.out.alloc _) hl).mono ?_
  rintro e w1 ⟨rfl, h1, h2, h3, h4⟩
  have H1 : Hid (Stk p w1 st) := h1
  have H2 : Hid (Below p w w1) := ((Below.refl p w).alloc (by omega) _).trans h2
  have c0 := h4 w.heap.size 0 (by omega)
  simp at c0
  clear h1 h2 h3 h4
  go_wp2_with fail
  refine (aheadValue_any k x _ HK.out).mono ?_
  rintro e w2 ⟨rfl, rfl⟩
  go_wp2_with fail
  refine (push_any p _ st _ H1.out hl).mono ?_
  rintro e w3 ⟨rfl, h5, h6⟩
  go_wp2_with fail
  go_end0
  exact ⟨rfl, h5, H2.out.trans h6⟩

theorem runPair_any (p : Nat) (k n x y : Int) (a : Option Addr) (m c : Nat) (st : List Int) (w : World) (hk : 5 ≤ k ∧ k ≤ 13) (hs : Stk p w (y :: x :: st)) (hl : st.length + 1 ≤ 1048576) :
    Calls Tryz.prog 91 #[.pointer (some ⟨p, 0, none⟩), .agg #[.int .i64 k, .int .i64 n], .slice a m c] w fun e w' => e = .returned (.tuple #[]) ∧ Stk p w' (two k x y :: st) ∧ Below p w w' := by
  have hlt := hs.lt
  have HS : Hid (Stk p w (y :: x :: st)) := hs
  have HK : Hid (5 ≤ k ∧ k ≤ 13) := hk
  clear hs hk
  go_enter Tryz.func91, Tryz.ntmps91
  go_wp2_with fail
  refine (pop_any p y (x :: st) _ (HS.out.alloc _) (by simp; omega)).mono ?_
  rintro e w1 ⟨rfl, h1, h2, h3, h4⟩
  have H1 : Hid (Stk p w1 (x :: st)) := h1
  have H2 : Hid (Below p w w1) := ((Below.refl p w).alloc (by omega) _).trans h2
  have c0 := h4 w.heap.size 0 (by omega)
  simp at c0
  clear h1 h2 h3 h4
  go_wp2_with fail
  refine (pop_any p x st _ H1.out (by omega)).mono ?_
  rintro e w2 ⟨rfl, h1, h2, h3, h4⟩
  have H3 : Hid (Stk p w2 st) := h1
  have H4 : Hid (Below p w w2) := H2.out.trans h2
  have c1 := (h4 w.heap.size 0 (by omega)).trans c0
  clear h1 h2 h3 h4 c0
  go_wp2_with fail
  refine (pairValue_any k x y _ HK.out).mono ?_
  rintro e w3 ⟨rfl, rfl⟩
  go_wp2_with fail
  refine (push_any p _ st _ H3.out (by omega)).mono ?_
  rintro e w4 ⟨rfl, h5, h6⟩
  go_wp2_with fail
  go_end0
  exact ⟨rfl, h5, H4.out.trans h6⟩
end Go.Proofs.YtbpfonmkbbnkcaaGreatDoor

/- What code comes to, op by op: plain. -/
namespace Go.Proofs.YtbpfonmkbbnkcaaGreatDoor

def runOp (vs : List Int) (op : Int × Int) (st : List Int) : List Int :=
  if op.1 = 1 then wr32 op.2 :: st else if op.1 = 2 then wr32 (vs.getD op.2.toNat 0) :: st
  else if op.1 = 3 ∨ op.1 = 4 then one op.1 (st.headD 0) :: st.tail else two op.1 (st.tail.headD 0) (st.headD 0) :: st.tail.tail
/-- the stack behind the first k ops, its top first -/
def runTo (vs : List Int) (zs : List (Int × Int)) : Nat → List Int
  | 0 => []
  | k + 1 => runOp vs (zs.getD k (0, 0)) (runTo vs zs k)
/-- what code comes to -/
def codeVal (vs : List Int) (zs : List (Int × Int)) : Int := if deepOf vs.length zs < 0 then 0 else (runTo vs zs zs.length).headD 0

theorem deepOf_ok {slots : Int} {zs : List (Int × Int)} (h : ¬ deepOf slots zs < 0) : (0 ≤ slots ∧ slots ≤ 16 ∧ zs.length ≤ 24) ∧ ∃ m, deepTo slots zs zs.length = some (1, m) := by
  unfold deepOf at h
  split at h
  · rename_i g
    refine ⟨g, ?_⟩
    cases hd : deepTo slots zs zs.length with
    | none => simp [hd] at h
    | some s =>
      obtain ⟨d, m⟩ := s
      rw [hd] at h
      by_cases h1 : d = 1
      · subst h1; exact ⟨m, rfl⟩
      · exfalso; apply h
        split
        · rename_i hh; simp at hh; omega
        · omega
  · omega
theorem deepTo_some {slots : Int} {zs : List (Int × Int)} {n k : Nat} {s : Int × Int} (h : deepTo slots zs n = some s) (hk : k ≤ n) : ∃ d m, deepTo slots zs k = some (d, m) := by
  cases e : deepTo slots zs k with
  | none => rw [deepTo_none hk e] at h; cases h
  | some s => exact ⟨s.1, s.2, rfl⟩
theorem step_of {slots : Int} {zs : List (Int × Int)} {n k : Nat} {s : Int × Int} {d m : Int} (h : deepTo slots zs n = some s) (hk : k < n) (hd : deepTo slots zs k = some (d, m)) :
    okB (zs.getD k (0, 0)).1 (zs.getD k (0, 0)).2 slots = true ∧ tk (zs.getD k (0, 0)).1 ≤ d ∧ ∃ m', deepTo slots zs (k + 1) = some (d + (1 - tk (zs.getD k (0, 0)).1), m') := by
  obtain ⟨d', m', h1⟩ := deepTo_some h (show k + 1 ≤ n by omega)
  have h2 := h1
  simp only [deepTo, hd, Option.bind_some] at h2
  unfold stepOp at h2
  split at h2
  · rename_i hh
    simp only [Option.some.injEq, Prod.mk.injEq] at h2
    exact ⟨hh.1, hh.2, m', by rw [h1, ← h2.1]⟩
  · cases h2

theorem runOp_len (vs : List Int) (op : Int × Int) (st : List Int) (h : tk op.1 ≤ st.length) (h32 : ∀ x ∈ st, In32 x) : ((runOp vs op st).length : Int) = st.length + (1 - tk op.1) ∧ ∀ x ∈ runOp vs op st, In32 x := by
  have hhd : ∀ l : List Int, (∀ x ∈ l, In32 x) → In32 (l.headD 0) := fun l hl => by
    cases l with
    | nil => simp [In32]
    | cons a r => exact hl a (by simp)
  have htl : ∀ x ∈ st.tail, In32 x := fun x hx => h32 x (List.mem_of_mem_tail hx)
  have htl2 : ∀ x ∈ st.tail.tail, In32 x := fun x hx => htl x (List.mem_of_mem_tail hx)
  unfold tk at *
  unfold runOp
  by_cases h1 : op.1 = 1
  · simp only [h1, if_true, true_or] at *
    refine ⟨by simp, fun x hx => ?_⟩
    rcases List.mem_cons.1 hx with rfl | hx
    · exact in32_wr _
    · exact h32 x hx
  by_cases h2 : op.1 = 2
  · simp only [h2, if_true, or_true] at *
    refine ⟨by simp, fun x hx => ?_⟩
    rcases List.mem_cons.1 hx with rfl | hx
    · exact in32_wr _
    · exact h32 x hx
  have h12 : ¬ (op.1 = 1 ∨ op.1 = 2) := by omega
  simp only [if_neg h12, if_neg h1, if_neg h2] at *
  by_cases h3 : op.1 = 3 ∨ op.1 = 4
  · simp only [if_pos h3] at *
    refine ⟨by simp; omega, fun x hx => ?_⟩
    rcases List.mem_cons.1 hx with rfl | hx
    · exact in32_one _ _
    · exact htl x hx
  · simp only [if_neg h3] at *
    refine ⟨by simp; omega, fun x hx => ?_⟩
    rcases List.mem_cons.1 hx with rfl | hx
    · exact in32_two (hhd _ htl)
    · exact htl2 x hx

theorem run_len {slots : Int} {vs : List Int} {zs : List (Int × Int)} {n : Nat} {s : Int × Int} (hn : deepTo slots zs n = some s) (k : Nat) : ∀ {d m : Int}, k ≤ n → deepTo slots zs k = some (d, m) → ((runTo vs zs k).length : Int) = d ∧ ∀ x ∈ runTo vs zs k, In32 x := by
  induction k with
  | zero => intro d m _ h; simp [deepTo] at h; simp [runTo]; omega
  | succ k ih =>
    intro d m hk h
    obtain ⟨d0, m0, h0⟩ := deepTo_some hn (show k ≤ n by omega)
    obtain ⟨ih1, ih2⟩ := ih (by omega) h0
    obtain ⟨o1, o2, m', o3⟩ := step_of hn (show k < n by omega) h0
    rw [o3] at h
    simp only [Option.some.injEq, Prod.mk.injEq] at h
    have := runOp_len vs (zs.getD k (0, 0)) (runTo vs zs k) (by omega) ih2
    exact ⟨by simp only [runTo]; omega, this.2⟩
theorem run_le {slots : Int} {vs : List Int} {zs : List (Int × Int)} {n : Nat} {s : Int × Int} (hn : deepTo slots zs n = some s) {k : Nat} (hk : k ≤ n) : (runTo vs zs k).length ≤ k := by
  obtain ⟨d0, m0, h0⟩ := deepTo_some hn hk
  have h1 := (run_len (vs := vs) hn k hk h0).1
  have h2 := deepTo_range h0
  omega
theorem okB_cases {x y s : Int} (h : okB x y s = true) : (x = 1 ∧ In32 y) ∨ (x = 2 ∧ 0 ≤ y ∧ y < s) ∨ (x = 3 ∨ x = 4) ∨ (5 ≤ x ∧ x ≤ 13) := by
  unfold okB at h
  split at h
  · left; exact ⟨by assumption, by simpa [In32] using h⟩
  split at h
  · right; left; exact ⟨by assumption, by simpa using h⟩
  split at h
  · right; right; left; assumption
  · right; right; right; simp at h; exact h.1
end Go.Proofs.YtbpfonmkbbnkcaaGreatDoor

/- The model's stack of numbers in memory. -/
namespace Go.Proofs.YtbpfonmkbbnkcaaGreatDoor
open Go.RowKit Go.PlainAid
set_option linter.unusedSimpArgs false
set_option linter.unusedVariables false

theorem infoInt : (Tryz.prog.info? 3).map (fun i => (i.zero, i.size, i.bytes)) = some (some (.int .i64 0), 1, 8) := by kernel_rfl
def i64s (st : List Int) : List Value := st.reverse.map (Value.int .i64)
theorem i64s_cons (x : Int) (st : List Int) : i64s (x :: st) = i64s st ++ [Value.int .i64 x] := by simp [i64s]

/-- the model's stack: the slice (g, cap) owns st, its top first -/
def Own (B g cap : Nat) (w : World) (st : List Int) : Prop := w.ownsRow B 3 1 (.slice (some ⟨g, 0, none⟩) st.length cap) st.length (i64s st)
theorem i64s_len (st : List Int) : (i64s st).length = st.length := by simp [i64s]
theorem Own.top {B g cap : Nat} {w : World} {z : Int} {r : List Int} (h : Own B g cap w (z :: r)) : w.cell? ⟨g, r.length, none⟩ = some (.int .i64 z) ∧ w.frozen? ⟨g, r.length, none⟩ = false := by
  unfold Own at h
  rw [i64s_cons] at h
  refine ⟨?_, h.frozenAt _⟩
  rw [h.cellAt r.length (by simp)]
  simp [i64s]
theorem Own.next {B g cap : Nat} {w : World} {z z' : Int} {r : List Int} (h : Own B g cap w (z :: z' :: r)) : w.cell? ⟨g, r.length, none⟩ = some (.int .i64 z') ∧ w.frozen? ⟨g, r.length, none⟩ = false := by
  unfold Own at h
  rw [i64s_cons, i64s_cons] at h
  refine ⟨?_, h.frozenAt _⟩
  rw [h.cellAt r.length (by simp; omega)]
  simp [i64s]
theorem Own.put {B g cap : Nat} {w : World} {z : Int} {r : List Int} (h : Own B g cap w (z :: r)) (u : Int) : Own B g cap (w.setCell ⟨g, r.length, none⟩ (.int .i64 u)) (u :: r) := by
  unfold Own at *
  have h2 := (h.stored r.length (.int .i64 u)).1
  have e : (i64s (z :: r)).set r.length (.int .i64 u) = i64s (u :: r) := by
    rw [i64s_cons, i64s_cons, List.set_append_right _ _ (by rw [i64s_len]; exact Nat.le_refl _), i64s_len]; simp
  rw [e] at h2
  exact h2
theorem Own.pop {B g cap : Nat} {w : World} {z : Int} {r : List Int} (h : Own B g cap w (z :: r)) : Own B g cap w r := by
  unfold Own at *
  rw [i64s_cons] at h
  exact ownsRow_pop (by simp [i64s]) h
theorem Own.put2 {B g cap : Nat} {w : World} {z z' : Int} {r : List Int} (h : Own B g cap w (z :: z' :: r)) (u : Int) : Own B g cap (w.setCell ⟨g, r.length, none⟩ (.int .i64 u)) (u :: r) := h.pop.put u
theorem Own.lt {B g cap : Nat} {w : World} {st : List Int} (h : Own B g cap w st) : B ≤ g ∧ g < w.heap.size := World.ownsRow.lt h g rfl
theorem Own.cap {B g cap : Nat} {w : World} {st : List Int} (h : Own B g cap w st) : st.length ≤ cap := by
  rcases h.2 with ⟨h, _⟩ | ⟨g', cap', cur, h, _, _, h3, _⟩
  · simp at h
  · simp at h; omega
/-- behind an append -/
theorem Own.of {B : Nat} {w : World} {v' : Value} {z : Int} {st : List Int} (h : w.ownsRow B 3 1 v' (st.length + 1) (i64s st ++ [.int .i64 z])) : ∃ g cap, v' = .slice (some ⟨g, 0, none⟩) (st.length + 1) cap ∧ Own B g cap w (z :: st) := by
  have h0 := h.2
  rcases h0 with ⟨_, h1⟩ | ⟨g, cap, cur, h1, _⟩
  · simp at h1
  · refine ⟨g, cap, h1, ?_⟩
    subst h1
    unfold Own
    rw [i64s_cons]; exact h

theorem ops_below {w w' : World} {a : Option Addr} {n : Nat} {zs : List (Int × Int)} (h : IsOps w a n zs) (hb : Below w.heap.size w w') : IsOps w' a n zs := by
  obtain ⟨h1, h2⟩ := h
  refine ⟨h1, ?_⟩
  rcases h2 with h2 | ⟨b, off, rfl, hlt, hc⟩
  · exact .inl h2
  · exact .inr ⟨b, off, rfl, by have := hb.size; omega, fun i hi => ⟨(hb.cell hlt).trans (hc i hi).1, (hb.cell hlt).trans (hc i hi).2⟩⟩

end Go.Proofs.YtbpfonmkbbnkcaaGreatDoor
