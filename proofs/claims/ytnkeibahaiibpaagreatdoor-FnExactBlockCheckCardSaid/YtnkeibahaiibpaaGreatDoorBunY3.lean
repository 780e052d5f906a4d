/- The reader's put: one node more, if there is room. -/
import Derived.Test.YtnkeibahaiibpaaGreatDoorParTake
import Derived.Deep.RegionLaw
import Derived.Deep.AppendLies
import Derived.Test.YtnkeibahaiibpaaGreatDoorBunY1
import Derived.Test.YtnkeibahaiibpaaGreatDoorProg
import Derived.Test.YtnkeibahaiibpaaGreatDoorBunY0
import Derived.WalkKit
import Derived.ProofKit
import Derived.Handy
import Derived.PlainAid
import Derived.WalkLawsBesides
import Derived.Deep.RegionHeld3
import Derived.Deep.Slices
import Derived.WideShapes
import Derived.ChangeAt
namespace Go.Proofs.YtnkeibahaiibpaaGreatDoor
open Go.RowKit Go.PlainAid
set_option linter.unusedSimpArgs false
set_option linter.unusedVariables false

theorem infoNode : (Tryz.prog.info? 243).map (fun i => (i.zero, i.size, i.bytes)) = some (some (.agg #[.int .i64 0, .int .i64 0, .string ByteArray.empty]), 3, 32) := by kernel_rfl

/-- a slice that owns something is written out -/
theorem own_form {w : World} {base size n : Nat} {e : TypeId} {v : Value} {xs : List Value} (h : w.ownsRow base e size v n xs) (hn : 0 < n) : ∃ g cap, v = .slice (some ⟨g, 0, none⟩) n cap := by
  rcases h.2 with ⟨_, h⟩ | ⟨g, cap, cur, h, _⟩
  · omega
  · exact ⟨g, cap, h⟩

theorem three_new (w : World) (x y z : Value) (t : TypeId) : ∀ j u, [x, y, z][j]? = some u → (w.alloc (.cells #[x, y, z] t)).cell? ((⟨w.heap.size, 0, none⟩ : Addr).add j) = some u := by
  intro j u hj
  match j, hj with
  | 0, hj => simp at hj; subst hj; simp [Addr.add]
  | 1, hj => simp at hj; subst hj; simp [Addr.add]
  | 2, hj => simp at hj; subst hj; simp [Addr.add]

def putNd (st : Par) (x : Nd) : Par := if 24 ≤ st.out.length then { st with bad := true } else { st with out := st.out ++ [x] }

/-- behind an append to the nodes, and the store of the slice -/
theorem ParAt.put {p : Nat} {w w1 : World} {s : ByteArray} {st : Par} {v : Value} (h : ParAt p w s st v) {x : Nd} {g cap : Nat} (ho : w1.ownsRow (p + 1) 243 3 (.slice (some ⟨g, 0, none⟩) (st.out.length + 1) cap) (st.out.length + 1) (ndCells st.out ++ [.int .i64 x.1, .int .i64 x.2.1, .string x.2.2])) (hg : w.grownBy w1 v.ownBlock)
    (hat : v.ownBlock = some g ∨ g = w.heap.size) :
    ParAt p (w1.setCell ⟨p, 4, none⟩ (.slice (some ⟨g, 0, none⟩) (st.out.length + 1) cap)) s { st with out := st.out ++ [x] } (.slice (some ⟨g, 0, none⟩) (st.out.length + 1) cap) ∧
    Touch p v w (w1.setCell ⟨p, 4, none⟩ (.slice (some ⟨g, 0, none⟩) (st.out.length + 1) cap)) (.slice (some ⟨g, 0, none⟩) (st.out.length + 1) cap) := by
  have hlt := h.lt
  have hne : some p ≠ v.ownBlock := fun e => by have := (h.own.lt p e.symm).1; omega
  have hc : ∀ j, w1.cell? ⟨p, j, none⟩ = w.cell? ⟨p, j, none⟩ := fun j => World.cell?_of_block (hg.block p hlt hne)
  have hf : ∀ j, w1.frozen? ⟨p, j, none⟩ = w.frozen? ⟨p, j, none⟩ := fun j => World.frozen?_of_block (hg.block p hlt hne)
  refine ⟨⟨?_, ?_, ?_, ?_, ?_, ?_, ?_⟩, ?_⟩
  · rw [setCell_ne _ _ _ _ _ (by decide), hc]; exact h.c0
  · rw [setCell_ne _ _ _ _ _ (by decide), hc]; exact h.c1
  · rw [setCell_ne _ _ _ _ _ (by decide), hc]; exact h.c2
  · rw [setCell_ne _ _ _ _ _ (by decide), hc]; exact h.c3
  · exact World.cell?_setCell_same _ _ _ ((hc 4).trans h.c4)
  · intro j; simpa [hf] using h.open_ j
  · have := ownsRow_setCell_below ho (a := ⟨p, 4, none⟩) (by simp) (.slice (some ⟨g, 0, none⟩) (st.out.length + 1) cap)
    simpa [ndCells_snoc] using this
  · refine Touch.setCell ⟨hg.os, hg.tape, hg.output, hg.size, fun k hk hp hv => hg.block k hk hv, ?_⟩ _ _
    rcases hat with e | e
    · exact .inl e.symm
    · exact .inr fun k hk => by simp [Value.ownBlock] at hk; omega

theorem Touch.alloc {p : Nat} {v v' : Value} {w w' : World} (h : Touch p v w w' v') (o : Obj) : Touch p v w (w'.alloc o) v' :=
  ⟨h.os, h.tape, h.output, by have := h.size; simp; omega, fun k hk hp hv => (Below.heap_alloc _ _ _ (by have := h.size; omega)).trans (h.block k hk hp hv), h.own⟩
theorem three_new' (W : World) (x y z : Value) (t : TypeId) (N : Nat) (hN : N = W.heap.size) : ∀ j u, [x, y, z][j]? = some u → (W.alloc (.cells #[x, y, z] t)).drew.cell? ((⟨N, 0, none⟩ : Addr).add j) = some u := by
  subst hN; exact three_new W x y z t
theorem grown_par {p : Nat} {w w1 : World} {s : ByteArray} {st : Par} {v : Value} (h : ParAt p w s st v) (hg : w.grownBy w1 v.ownBlock) : w1.cell? ⟨p, 4, none⟩ = some v ∧ w1.frozen? ⟨p, 4, none⟩ = false := by
  have hlt := h.lt
  have hne : some p ≠ v.ownBlock := fun e => by have := (h.own.lt p e.symm).1; omega
  exact ⟨(World.cell?_of_block (hg.block p hlt hne)).trans h.c4, (World.frozen?_of_block (hg.block p hlt hne)).trans (h.open_ 4)⟩
theorem touch_alloc {p : Nat} {w : World} {s : ByteArray} {st : Par} {v : Value} (h : ParAt p w s st v) (o : Obj) : Touch p v w (w.alloc o) v :=
  ⟨rfl, rfl, rfl, by simp, fun k hk _ _ => Below.heap_alloc _ _ _ hk, .inl rfl⟩

set_option maxHeartbeats 800000 in
set_option maxRecDepth 100000 in
theorem put_any (p : Nat) (s : ByteArray) (st : Par) (v : Value) (x : Nd) (w : World) (hl : st.out.length ≤ 24) (h : ParAt p w s st v) :
    Calls Tryz.prog 228 #[.pointer (some ⟨p, 0, none⟩), .agg #[.int .i64 x.1, .int .i64 x.2.1, .string x.2.2]] w fun e w' => e = .returned (.tuple #[]) ∧ ∃ v', ParAt p w' s (putNd st x) v' ∧ Touch p v w w' v' := by
  obtain ⟨x0, x1, x2⟩ := x
  simp only
  have hlt := h.lt
  have HP : Hid (ParAt p w s st v) := h
  obtain ⟨c0, c1, c2, c3, c4, ho, hown⟩ := h
  obtain ⟨i0, hi, hz0, hz1, hz2⟩ := info_parts infoNode
  clear c0 c1 c2
  by_cases hfull : 24 ≤ st.out.length
  · obtain ⟨g, cap, hv⟩ := own_form hown (by omega)
    rw [hv] at c4
    have HN : Hid (putNd st (x0, x1, x2) = { st with bad := true }) := by
      show putNd _ _ = _
      unfold putNd; rw [if_pos hfull]
    clear hv hown
    generalize st.out.length = n at *
    go_enter Tryz.func228, Tryz.ntmps228
    go_wp2_with fail
    go_returns
    rw [HN.out]
    exact ⟨rfl, v, (HP.out.bad1 true).alloc _, ((Touch.refl p v w).setCell _ _).alloc _⟩
  · obtain ⟨n, hn⟩ : ∃ n, st.out.length = n := ⟨_, rfl⟩
    have hfull' : ¬ 24 ≤ n := by omega
    have HN : Hid (putNd st (x0, x1, x2) = { st with out := st.out ++ [(x0, x1, x2)] }) := by
      show putNd _ _ = _
      unfold putNd; rw [if_neg hfull]
    have hlen : ∃ ao cap, v = .slice ao n cap := by
      rcases hown.2 with ⟨h1, h2⟩ | ⟨g, cap, cur, h1, _⟩
      · exact ⟨none, 0, by rw [h1, ← hn, h2]⟩
      · exact ⟨_, cap, by rw [h1, hn]⟩
    obtain ⟨ao, cap, hv⟩ := hlen
    subst hv
    rw [hn] at hown
    have HO : Hid (w.ownsRow (p + 1) 243 3 (.slice ao n cap) n (ndCells st.out)) := hown
    have HL : Hid (st.out.length = n) := hn
    clear hown hn hfull c3 hl
    go_enter Tryz.func228, Tryz.ntmps228
    go_wp2_with fail
    go_region_law (refine step_append_lies _ rfl (.tmp 17) (.tmp 19) 216 rfl (p + 1) 243 i0 (.agg #[.int .i64 0, .int .i64 0, .string ByteArray.empty]) 3 32 Tryz.underlying216 hi hz0 hz1 hz2 rfl (by decide) (.slice ao n cap) n (ndCells st.out) rfl (by exact ((HO.out.alloc _).alloc _)) ⟨w.heap.size + 1, 0, none⟩ 1 1 [.int .i64 x0, .int .i64 x1, .string x2] rfl rfl (by exact three_new' _ _ _ _ _ _ (by simp)) (by intro u hu; simp at hu; rcases hu with rfl | rfl | rfl <;> rfl) (by decide) (by unfold maxLen; omega) (by omega) (by simp; omega) _ rfl ?_; intro g cap' w1 hown1 hgrow1 hat1 hlt1; obtain ⟨g1, g2⟩ := grown_par (s := s) (st := st) (by exact ((HP.out.alloc _).alloc _).drew) hgrow1)
    all_goals
      go_wp2_with fail
      go_end0
      rw [HN.out]
      have hL := HL.out
      subst hL
      have R := ((HP.out.alloc _).alloc _).drew.put (x := (x0, x1, x2)) hown1 hgrow1 hat1
      exact ⟨rfl, _, R.1, (((Touch.refl p _ w).alloc _).alloc _).drew.trans R.2⟩
end Go.Proofs.YtnkeibahaiibpaaGreatDoor

/- What an activation holds when some operations of a region have come up, each with its value, in whatever order. -/
namespace Go.Proofs.YtnkeibahaiibpaaGreatDoor
open Go

def dstOf (ops : Array Oper) (j : Nat) : Option Tmp := (ops[j]?).bind (·.dst)
/-- the first n operations: those that have come up have put their values -/
def putL (ops : Array Oper) (val : Nat → Value) (listed : Array Bool) (a0 : Act) : Nat → Act
  | 0 => a0
  | n + 1 => if listed.getD n false = true then (putL ops val listed a0 n).put (dstOf ops n) (val n) else putL ops val listed a0 n

def apartDst (ops : Array Oper) : Prop := ∀ i j d, i ≠ j → dstOf ops i = some d → dstOf ops j ≠ some d

theorem putL_before {ops : Array Oper} {val : Nat → Value} {listed : Array Bool} {a0 : Act} {i : Nat} : ∀ n, n ≤ i → putL ops val (listed.setIfInBounds i true) a0 n = putL ops val listed a0 n
  | 0, _ => rfl
  | n + 1, h => by
    have e : (listed.setIfInBounds i true).getD n false = listed.getD n false := by
      simp only [Array.getD_eq_getD_getElem?, Array.getElem?_setIfInBounds]
      rw [if_neg (by omega)]
    rw [putL, putL, e, putL_before n (by omega)]
theorem putL_set {ops : Array Oper} {val : Nat → Value} {listed : Array Bool} {a0 : Act} (hap : apartDst ops) {i : Nat} (hi : i < listed.size) (hl : listed[i] = false) :
    ∀ n, i < n → putL ops val (listed.setIfInBounds i true) a0 n = (putL ops val listed a0 n).put (dstOf ops i) (val i)
  | 0, h => by omega
  | n + 1, h => by
    by_cases e : n = i
    · subst e
      have e1 : (listed.setIfInBounds n true).getD n false = true := by simp [Array.getD, hi]
      have e2 : listed.getD n false = false := by simp [Array.getD, hi, hl]
      rw [putL, putL, if_pos e1, if_neg (by rw [e2]; decide), putL_before n (Nat.le_refl _)]
    · have e1 : (listed.setIfInBounds i true).getD n false = listed.getD n false := by
        simp only [Array.getD_eq_getD_getElem?, Array.getElem?_setIfInBounds]
        rw [if_neg (by omega)]
      rw [putL, putL, e1, putL_set hap hi hl n (by omega)]
      split
      · exact (Act.put_comm _ _ _ (fun d hd => hap i n d (fun h => e h.symm) hd))
      · rfl
theorem putL_size {ops : Array Oper} {val : Nat → Value} {listed : Array Bool} {a0 : Act} : ∀ n, (putL ops val listed a0 n).tmps.size = a0.tmps.size
  | 0 => rfl
  | n + 1 => by
    rw [putL]
    split
    · unfold Act.put
      split
      · simp [putL_size n]
      · exact putL_size n
    · exact putL_size n
theorem putL_other {ops : Array Oper} {val : Nat → Value} {listed : Array Bool} {a0 : Act} {d : Nat} : ∀ n, (∀ j, j < n → dstOf ops j ≠ some d) → (putL ops val listed a0 n).tmps.getD d undef = a0.tmps.getD d undef
  | 0, _ => rfl
  | n + 1, h => by
    rw [putL]
    have ih := putL_other (ops := ops) (val := val) (listed := listed) (a0 := a0) (d := d) n (fun j hj => h j (by omega))
    split
    · unfold Act.put
      split
      · rename_i d' hd'
        have hne : d' ≠ d := fun e => h n (by omega) (by rw [hd', e])
        rw [← ih]
        simp only [Array.getD_eq_getD_getElem?, Array.getElem?_setIfInBounds]
        rw [if_neg hne]
      · exact ih
    · exact ih
theorem putL_get {ops : Array Oper} {val : Nat → Value} {listed : Array Bool} {a0 : Act} (hap : apartDst ops) {j d : Nat} (hd : dstOf ops j = some d) (hdz : d < a0.tmps.size) (hl : listed.getD j false = true) :
    ∀ n, j < n → (putL ops val listed a0 n).tmps.getD d undef = val j
  | 0, h => by omega
  | n + 1, h => by
    rw [putL]
    by_cases e : n = j
    · subst e
      rw [if_pos hl, hd]
      have hz := putL_size (ops := ops) (val := val) (listed := listed) (a0 := a0) n
      simp [Act.put, Array.getD_eq_getD_getElem?, hz, hdz]
    · have ih := putL_get (val := val) hap hd hdz hl n (by omega)
      split
      · unfold Act.put
        split
        · rename_i d' hd'
          have hne : d' ≠ d := fun e' => hap j n d (fun h => e h.symm) hd (by rw [hd', e'])
          rw [← ih]
          simp only [Array.getD_eq_getD_getElem?, Array.getElem?_setIfInBounds]
          rw [if_neg hne]
        · exact ih
      · exact ih
end Go.Proofs.YtnkeibahaiibpaaGreatDoor

/- Ops as they lie in memory. -/
namespace Go.Proofs.YtnkeibahaiibpaaGreatDoor
open Go.RowKit Go.PlainAid

theorem infoOp : (Tryz.prog.info? 235).map (fun i => (i.zero, i.size, i.bytes)) = some (some (.agg #[.int .i64 0, .int .i64 0]), 2, 16) := by kernel_rfl

/-- the slice (a, n) reads in w as these ops -/
def IsOps (w : World) (a : Option Addr) (n : Nat) (zs : List (Int × Int)) : Prop :=
  zs.length = n ∧ (n = 0 ∨ ∃ b off, a = some ⟨b, off, none⟩ ∧ b < w.heap.size ∧ ∀ i, i < n → w.cell? ⟨b, off + i * 2, none⟩ = some (.int .i64 (zs.getD i (0, 0)).1) ∧ w.cell? ⟨b, off + i * 2 + 1, none⟩ = some (.int .i64 (zs.getD i (0, 0)).2))

/-- the flat cells of ops -/
def opCell (zs : List (Int × Int)) (j : Nat) : Value := if j % 2 = 0 then .int .i64 (zs.getD (j / 2) (0, 0)).1 else .int .i64 (zs.getD (j / 2) (0, 0)).2
theorem opCell_even' (zs : List (Int × Int)) (k : Nat) : opCell zs (k * 2) = .int .i64 (zs.getD k (0, 0)).1 := by
  unfold opCell; rw [if_pos (by omega), show k * 2 / 2 = k from by omega]
theorem opCell_odd' (zs : List (Int × Int)) (k : Nat) : opCell zs (k * 2 + 1) = .int .i64 (zs.getD k (0, 0)).2 := by
  unfold opCell; rw [if_neg (by omega), show (k * 2 + 1) / 2 = k from by omega]
theorem opCell_even (zs : List (Int × Int)) (k : Nat) (h : k < zs.length) : opCell zs (k * 2) = .int .i64 zs[k].1 := by
  rw [opCell_even']; simp [h]
theorem opCell_odd (zs : List (Int × Int)) (k : Nat) (h : k < zs.length) : opCell zs (k * 2 + 1) = .int .i64 zs[k].2 := by
  rw [opCell_odd']; simp [h]
end Go.Proofs.YtnkeibahaiibpaaGreatDoor

/- Numbers in 32 bits: the model's way round, and whether a number is one. -/
namespace Go.Proofs.YtnkeibahaiibpaaGreatDoor
open Go.RowKit Go.PlainAid

/-- a number in 32 bits -/
def wr32 (n : Int) : Int := (n + 2147483648) % 4294967296 - 2147483648
theorem wr32_of (n r : Int) (h : n.tmod 4294967296 = r) : (-4294967296 < r ∧ r < 4294967296) ∧ wr32 n = if r < -2147483648 then r + 4294967296 else if 2147483647 < r then r - 4294967296 else r := by
  have t1 : n.tmod 4294967296 = if 0 ≤ n then n % 4294967296 else -((-n) % 4294967296) := by
    split
    · exact Int.tmod_eq_emod_of_nonneg (by omega)
    · rw [show n = -(-n) from by omega, Int.neg_tmod, Int.tmod_eq_emod_of_nonneg (by omega)]; simp
  rw [t1] at h
  unfold wr32
  split at h <;> split <;> (try split) <;> omega
theorem l1Wrap_any (n : Int) (w : World) : Calls Tryz.prog 123 #[.int .i64 n] w fun e w' => e = .returned (.int .i64 (wr32 n)) ∧ w' = w := by
  obtain ⟨r, hr⟩ : ∃ r, n.tmod 4294967296 = r := ⟨_, rfl⟩
  obtain ⟨⟨h1, h2⟩, h3⟩ := wr32_of n r hr
  rw [h3]
  clear h3
  by_cases g1 : r < -2147483648
  · rw [if_pos g1]
    go_enter Tryz.func123, Tryz.ntmps123
    go_wp2
    go_ret
    exact ⟨rfl, rfl⟩
  rw [if_neg g1]
  by_cases g2 : 2147483647 < r
  · rw [if_pos g2]
    go_enter Tryz.func123, Tryz.ntmps123
    go_wp2
    go_ret
    exact ⟨rfl, rfl⟩
  · rw [if_neg g2]
    go_enter Tryz.func123, Tryz.ntmps123
    go_wp2
    go_ret
    exact ⟨rfl, rfl⟩

theorem is32_any (n : Int) (w : World) : Calls Tryz.prog 129 #[.int .i64 n] w fun e w' => e = .returned (.bool (decide (-2147483648 ≤ n ∧ n ≤ 2147483647))) ∧ w' = w := by
  by_cases h : -2147483648 ≤ n
  · go_enter Tryz.func129, Tryz.ntmps129
    go_wp2
    go_ret
    exact ⟨ret_bool (by simp [h]), rfl⟩
  · go_enter Tryz.func129, Tryz.ntmps129
    go_wp2
    go_ret
    exact ⟨ret_bool (by simp; omega), rfl⟩
end Go.Proofs.YtnkeibahaiibpaaGreatDoor

/- Blocks that may be written. -/
namespace Go.Proofs.YtnkeibahaiibpaaGreatDoor
open Go Go.RowKit Go.PlainAid
set_option linter.unusedSimpArgs false
set_option linter.unusedVariables false

/-- block b has N cells that may be written -/
def Open (b N : Nat) (w : World) : Prop := b < w.heap.size ∧ ∀ j, j < N → (∃ v, w.cell? ⟨b, j, none⟩ = some v) ∧ w.frozen? ⟨b, j, none⟩ = false
theorem Open.below {b N : Nat} {w w' : World} (h : Open b N w) (hb : Below w.heap.size w w') : Open b N w' :=
  ⟨Nat.lt_of_lt_of_le h.1 hb.size, fun j hj => by
    obtain ⟨⟨v, h1⟩, h2⟩ := h.2 j hj
    exact ⟨⟨v, (hb.cell (p := ⟨b, j, none⟩) h.1).trans h1⟩, (hb.frozen (p := ⟨b, j, none⟩) h.1).trans h2⟩⟩
theorem Open.mv {b N p : Nat} {w w' : World} (h : Open b N w) (hm : Mv p w w') (hp : b ≠ p) : Open b N w' :=
  ⟨Nat.lt_of_lt_of_le h.1 hm.size, fun j hj => by
    obtain ⟨⟨v, h1⟩, h2⟩ := h.2 j hj
    exact ⟨⟨v, (World.cell?_of_block (hm.block b h.1 hp)).trans h1⟩, (World.frozen?_of_block (hm.block b h.1 hp)).trans h2⟩⟩
theorem Open.set {b N : Nat} {w : World} (h : Open b N w) (i : Nat) (v : Value) (hi : i < N) : Open b N (w.setCell ⟨b, i, none⟩ v) := by
  refine ⟨by simpa [World.setCell] using h.1, fun j hj => ?_⟩
  obtain ⟨⟨u, h1⟩, h2⟩ := h.2 j hj
  refine ⟨?_, by simpa using h2⟩
  by_cases e : j = i
  · subst e; exact ⟨v, World.cell?_setCell_same _ _ _ h1⟩
  · exact ⟨u, by rw [setCell_ne _ _ _ _ _ (fun h => e h.symm)]; exact h1⟩

theorem open_made (w : World) (zs : Array Value) (N : Nat) (t : TypeId) : Open w.heap.size N (w.alloc (.cells (madeCells zs N) t)) := by
  have h := Fill.start w (madeCells zs N) t (fun _ => .bool false)
  rw [size_madeCells] at h
  exact ⟨h.lt, fun j hj => ⟨h.there j hj, h.open_ j⟩⟩
end Go.Proofs.YtnkeibahaiibpaaGreatDoor

/- Lists of things of several cells in memory. -/
namespace Go.Proofs.YtnkeibahaiibpaaGreatDoor
open Go Go.ChangeShapes Go.WideShapes Go.ChangeAt Go.RowKit Go.Deep Go.PlainAid
set_option linter.unusedSimpArgs false
set_option linter.unusedVariables false

/-- a slice of things of sz cells each, whose cells mean them -/
def IsArr {α : Type} (sz : Nat) (Q : Nat → World → List Value → α → Prop) (B : Nat) (w : World) (a : Option Addr) (n : Nat) (l : List α) : Prop :=
  l.length = n ∧ (n = 0 ∨ ∃ b off, a = some ⟨b, off, none⟩ ∧ b < B ∧ ∀ i, (h : i < l.length) → ∃ cs, Q B w cs l[i] ∧ ∀ j u, cs[j]? = some u → j < sz ∧ w.cell? ⟨b, off + i * sz + j, none⟩ = some u)
theorem IsArr.below {α : Type} {sz : Nat} {Q : Nat → World → List Value → α → Prop} {B : Nat} {w w' : World} {a : Option Addr} {n : Nat} {l : List α} (h : IsArr sz Q B w a n l) (hQ : ∀ cs x, Q B w cs x → Q B w' cs x) (hb : Below B w w') : IsArr sz Q B w' a n l := by
  obtain ⟨h1, h2⟩ := h
  refine ⟨h1, ?_⟩
  rcases h2 with h2 | ⟨b, off, rfl, hlt, hc⟩
  · exact .inl h2
  · refine .inr ⟨b, off, rfl, hlt, fun i hi => ?_⟩
    obtain ⟨cs, q, hcell⟩ := hc i hi
    exact ⟨cs, hQ cs _ q, fun j u hu => ⟨(hcell j u hu).1, (hb.cell (p := ⟨b, off + i * sz + j, none⟩) hlt).trans (hcell j u hu).2⟩⟩
theorem IsArr.mono {α : Type} {sz : Nat} {Q : Nat → World → List Value → α → Prop} {B B' : Nat} {w : World} {a : Option Addr} {n : Nat} {l : List α} (h : IsArr sz Q B w a n l) (hQ : ∀ cs x, Q B w cs x → Q B' w cs x) (hb : B ≤ B') : IsArr sz Q B' w a n l := by
  obtain ⟨h1, h2⟩ := h
  refine ⟨h1, ?_⟩
  rcases h2 with h2 | ⟨b, off, rfl, hlt, hc⟩
  · exact .inl h2
  · refine .inr ⟨b, off, rfl, Nat.lt_of_lt_of_le hlt hb, fun i hi => ?_⟩
    obtain ⟨cs, q, hcell⟩ := hc i hi
    exact ⟨cs, hQ cs _ q, hcell⟩
/-- one of them -/
theorem IsArr.at {α : Type} {sz : Nat} {Q : Nat → World → List Value → α → Prop} {B : Nat} {w : World} {a : Option Addr} {n : Nat} {l : List α} (h : IsArr sz Q B w a n l) {k : Nat} (hk : k < n) (hl : k < l.length) : ∃ b off cs, a = some ⟨b, off, none⟩ ∧ b < B ∧ Q B w cs l[k] ∧ ∀ j u, cs[j]? = some u → w.cell? ⟨b, off + k * sz + j, none⟩ = some u := by
  rcases h.2 with h2 | ⟨b, off, rfl, hlt, hc⟩
  · omega
  · obtain ⟨cs, q, hcell⟩ := hc k hl
    exact ⟨b, off, cs, rfl, hlt, q, fun j u hu => (hcell j u hu).2⟩

/-- a slice that came in -/
theorem open_arr {α : Type} [Inhabited α] {H : Type} {enc : TypeId × Value → H} {W : World} {base : Nat} {spare : Nat → Bool} {held : Bool} {fuel : Nat} {tS tE : TypeId} {sz : Nat} {a0 : Option Addr} {len0 cap0 : Nat} {x : DataW H × List MemPlace} {Q : Nat → World → List Value → α → Prop} {F : α → Prop}
    (hu : Tryz.prog.underlying tS = some (.slice tE)) (hc : Tryz.prog.cellsOf tE = sz) (hz : 0 < sz)
    (each : ∀ fuel cs y, cs.length = sz → DataW.trod enc Tryz.prog W base spare held fuel tE cs = some y → ∃ q, Q W.heap.size W cs q ∧ F q)
    (h : DataW.trod enc Tryz.prog W base spare held fuel tS (Value.slice a0 len0 cap0).cells.toList = some x) :
    ∃ l, (len0 ≤ cap0 ∧ cap0 ≤ maxLen) ∧ IsArr sz Q W.heap.size W a0 len0 l ∧ ∀ y ∈ l, F y := by
  rcases open_slice hu h with ⟨hcs, _⟩ | ⟨a, len, cap, m, nn, D, Pl, hcs, hb, hl, hm, hmm, _, hel⟩
  · simp [Value.cells] at hcs
    obtain ⟨rfl, rfl, rfl⟩ := hcs
    exact ⟨[], ⟨Nat.le_refl _, by unfold maxLen; omega⟩, ⟨rfl, .inl rfl⟩, fun _ h => by simp at h⟩
  · simp [Value.cells] at hcs
    obtain ⟨rfl, rfl, rfl⟩ := hcs
    rw [hc] at hel
    have ea : ∀ i, i < len0 → ∃ q : α, (∃ cs, Q W.heap.size W cs q ∧ cs.length = sz ∧ ∀ j, j < sz → W.cell? (a.add (i * sz + j)) = cs[j]?) ∧ F q := by
      intro i hi
      have him : i < m := by rw [hmm]; split <;> omega
      obtain ⟨cs', h1, h2⟩ := hel i him
      obtain ⟨_, hlen, hcell⟩ := World.cells?_some h1
      obtain ⟨q, hq, hf⟩ := each _ _ _ hlen h2
      refine ⟨q, ⟨cs', hq, hlen, fun j hj => ?_⟩, hf⟩
      have := hcell j (by omega)
      rw [add_add] at this
      rw [this]
    obtain ⟨q, hq⟩ := choose_lt ea
    refine ⟨(List.range len0).map q, ⟨hl, hm⟩, ⟨by simp, ?_⟩, ?_⟩
    · by_cases hz0 : len0 = 0
      · exact .inl hz0
      obtain ⟨b, off, spot⟩ := a
      obtain ⟨cs0, _, hl0, hc0⟩ := (hq 0 (by omega)).1
      have h00 := hc0 0 hz
      rw [List.getElem?_eq_getElem (by omega)] at h00
      have hspot : spot = none := by simpa [Addr.add] using World.cell?_spot h00
      subst hspot
      rw [add_plain] at h00
      refine .inr ⟨b, off, rfl, World.block_lt_of_cell? _ _ h00, fun i hi => ?_⟩
      simp at hi
      obtain ⟨cs, h1, h2, h3⟩ := (hq i hi).1
      refine ⟨cs, by simpa using h1, fun j u hu => ?_⟩
      have hj : j < sz := by rw [← h2]; exact (List.getElem?_eq_some_iff.1 hu).1
      have := h3 j hj
      rw [add_plain, hu] at this
      exact ⟨hj, by rw [Nat.add_assoc]; exact this⟩
    · intro y hy
      obtain ⟨i, hi, rfl⟩ := List.mem_map.1 hy
      exact (hq i (List.mem_range.1 hi)).2
end Go.Proofs.YtnkeibahaiibpaaGreatDoor
