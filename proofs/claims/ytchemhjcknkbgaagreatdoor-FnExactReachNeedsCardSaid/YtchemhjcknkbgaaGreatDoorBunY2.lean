/- What an activation holds when some operations of a region have come up, each with its value, in whatever order. -/
import Derived.Test.YtchemhjcknkbgaaGreatDoorBunY0
import Derived.Test.YtchemhjcknkbgaaGreatDoorProg
import Derived.WalkKit
import Derived.ProofKit
import Derived.Handy
import Derived.PlainAid
import Derived.WalkLawsBesides
import Derived.Deep.RegionHeld3
import Derived.BigQuiet
namespace Go.Proofs.YtchemhjcknkbgaaGreatDoor
open Go

def dstOf (ops : Array Oper) (j : Nat) : Option Tmp := (ops[j]?).bind (·.dst)
/-- the first n operations: those that have come up have put their values -/
def putL (ops : Array Oper) (val : Nat → Value) (listed : Array Bool) (a0 : Act) : Nat → Act
  | 0 => a0
  | n + 1 => if listed.getD n false = true then (putL ops val listed a0 n).put (dstOf ops n) (val n) else putL ops val listed a0 n

def apartDst (ops : Array Oper) : Prop := ∀ i j d, i ≠ j → dstOf ops i = some d → dstOf ops j ≠ some d

theorem putL_before {ops : Array Oper} {val : Nat → Value} {listed : Array Bool} {a0 : Act} {i : Nat} : ∀ n, n ≤ i → putL ops val (listed.setIfInBounds i true) a0 n = putL ops val listed a0 n
  | 0, _ => rfl
  | n + 1, h => by
    have e : (listed.setIfInBounds i true).getD n false = listed.getD n false := by
      simp only [Array.getD_eq_getD_getElem?, Array.getElem?_setIfInBounds]
      rw [if_neg (by omega)]
    rw [putL, putL, e, putL_before n (by omega)]
theorem putL_set {ops : Array Oper} {val : Nat → Value} {listed : Array Bool} {a0 : Act} (hap : apartDst ops) {i : Nat} (hi : i < listed.size) (hl : listed[i] = false) :
    ∀ n, i < n → putL ops val (listed.setIfInBounds i true) a0 n = (putL ops val listed a0 n).put (dstOf ops i) (val i)
  | 0, h => by omega
  | n + 1, h => by
    by_cases e : n = i
    · subst e
      have e1 : (listed.setIfInBounds n true).getD n false = true := by simp [Array.getD, hi]
      have e2 : listed.getD n false = false := by simp [Array.getD, hi, hl]
      rw [putL, putL, if_pos e1, if_neg (by rw [e2]; decide), putL_before n (Nat.le_refl _)]
    · have e1 : (listed.setIfInBounds i true).getD n false = listed.getD n false := by
        simp only [Array.getD_eq_getD_getElem?, Array.getElem?_setIfInBounds]
        rw [if_neg (by omega)]
      rw [putL, putL, e1, putL_set hap hi hl n (by omega)]
      split
      · exact (Act.put_comm _ _ _ (fun d hd => hap i n d (fun h => e h.symm) hd))
      · rfl
theorem putL_size {ops : Array Oper} {val : Nat → Value} {listed : Array Bool} {a0 : Act} : ∀ n, (putL ops val listed a0 n).tmps.size = a0.tmps.size
  | 0 => rfl
  | n + 1 => by
    rw [putL]
    split
    · unfold Act.put
      split
      · simp [putL_size n]
      · exact putL_size n
    · exact putL_size n
theorem putL_other {ops : Array Oper} {val : Nat → Value} {listed : Array Bool} {a0 : Act} {d : Nat} : ∀ n, (∀ j, j < n → dstOf ops j ≠ some d) → (putL ops val listed a0 n).tmps.getD d undef = a0.tmps.getD d undef
  | 0, _ => rfl
  | n + 1, h => by
    rw [putL]
    have ih := putL_other (ops := ops) (val := val) (listed := listed) (a0 := a0) (d := d) n (fun j hj => h j (by omega))
    split
    · unfold Act.put
      split
      · rename_i d' hd'
        have hne : d' ≠ d := fun e => h n (by omega) (by rw [hd', e])
        rw [← ih]
        simp only [Array.getD_eq_getD_getElem?, Array.getElem?_setIfInBounds]
        rw [if_neg hne]
      · exact ih
    · exact ih
theorem putL_get {ops : Array Oper} {val : Nat → Value} {listed : Array Bool} {a0 : Act} (hap : apartDst ops) {j d : Nat} (hd : dstOf ops j = some d) (hdz : d < a0.tmps.size) (hl : listed.getD j false = true) :
    ∀ n, j < n → (putL ops val listed a0 n).tmps.getD d undef = val j
  | 0, h => by omega
  | n + 1, h => by
    rw [putL]
    by_cases e : n = j
    · subst e
      rw [if_pos hl, hd]
      have hz := putL_size (ops := ops) (val := val) (listed := listed) (a0 := a0) n
      simp [Act.put, Array.getD_eq_getD_getElem?, hz, hdz]
    · have ih := putL_get (val := val) hap hd hdz hl n (by omega)
      split
      · unfold Act.put
        split
        · rename_i d' hd'
          have hne : d' ≠ d := fun e' => hap j n d (fun h => e h.symm) hd (by rw [hd', e'])
          rw [← ih]
          simp only [Array.getD_eq_getD_getElem?, Array.getElem?_setIfInBounds]
          rw [if_neg hne]
        · exact ih
      · exact ih
end Go.Proofs.YtchemhjcknkbgaaGreatDoor

/- Ops as they lie in memory. -/
namespace Go.Proofs.YtchemhjcknkbgaaGreatDoor
open Go.RowKit Go.PlainAid

theorem infoOp : (Tryz.prog.info? 259).map (fun i => (i.zero, i.size, i.bytes)) = some (some (.agg #[.int .i64 0, .int .i64 0]), 2, 16) := by kernel_rfl

/-- the slice (a, n) reads in w as these ops -/
def IsOps (w : World) (a : Option Addr) (n : Nat) (zs : List (Int × Int)) : Prop :=
  zs.length = n ∧ (n = 0 ∨ ∃ b off, a = some ⟨b, off, none⟩ ∧ b < w.heap.size ∧ ∀ i, i < n → w.cell? ⟨b, off + i * 2, none⟩ = some (.int .i64 (zs.getD i (0, 0)).1) ∧ w.cell? ⟨b, off + i * 2 + 1, none⟩ = some (.int .i64 (zs.getD i (0, 0)).2))

/-- the flat cells of ops -/
def opCell (zs : List (Int × Int)) (j : Nat) : Value := if j % 2 = 0 then .int .i64 (zs.getD (j / 2) (0, 0)).1 else .int .i64 (zs.getD (j / 2) (0, 0)).2
theorem opCell_even' (zs : List (Int × Int)) (k : Nat) : opCell zs (k * 2) = .int .i64 (zs.getD k (0, 0)).1 := by
  unfold opCell; rw [if_pos (by omega), show k * 2 / 2 = k from by omega]
theorem opCell_odd' (zs : List (Int × Int)) (k : Nat) : opCell zs (k * 2 + 1) = .int .i64 (zs.getD k (0, 0)).2 := by
  unfold opCell; rw [if_neg (by omega), show (k * 2 + 1) / 2 = k from by omega]
theorem opCell_even (zs : List (Int × Int)) (k : Nat) (h : k < zs.length) : opCell zs (k * 2) = .int .i64 zs[k].1 := by
  rw [opCell_even']; simp [h]
theorem opCell_odd (zs : List (Int × Int)) (k : Nat) (h : k < zs.length) : opCell zs (k * 2 + 1) = .int .i64 zs[k].2 := by
  rw [opCell_odd']; simp [h]
end Go.Proofs.YtchemhjcknkbgaaGreatDoor

/- What CodeDeep comes to, in the program and in the model, for every code and every number of places. -/
namespace Go.Proofs.YtchemhjcknkbgaaGreatDoor
open Go.RowKit Go.PlainAid

/-- how many numbers an op takes -/
def tk (k : Int) : Int := if k = 1 ∨ k = 2 then 0 else if k = 3 ∨ k = 4 then 1 else 2
/-- whether an op is one -/
def okB (k n slots : Int) : Bool :=
  if k = 1 then decide (-2147483648 ≤ n ∧ n ≤ 2147483647) else if k = 2 then decide (0 ≤ n ∧ n < slots)
  else if k = 3 ∨ k = 4 then decide (n = 0) else decide ((5 ≤ k ∧ k ≤ 13) ∧ n = 0)

theorem isAhead_any (k : Int) (w : World) : Calls Tryz.prog 242 #[.int .i64 k] w fun e w' => e = .returned (.bool (decide (k = 3 ∨ k = 4))) ∧ w' = w := by
  by_cases h : k = 3
  · subst h
    go_enter Tryz.func242, Tryz.ntmps242
    go_wp2
    go_ret
    exact ⟨rfl, rfl⟩
  · have h' : (k == 3) = false := by simp [h]
    go_enter Tryz.func242, Tryz.ntmps242
    go_wp2
    go_ret
    exact ⟨ret_bool (by simp [h]; by_cases h4 : k = 4 <;> simp [h4]), rfl⟩
theorem isPair_any (k : Int) (w : World) : Calls Tryz.prog 243 #[.int .i64 k] w fun e w' => e = .returned (.bool (decide (5 ≤ k ∧ k ≤ 13))) ∧ w' = w := by
  by_cases h : 5 ≤ k
  · go_enter Tryz.func243, Tryz.ntmps243
    go_wp2
    go_ret
    exact ⟨ret_bool (by simp [h]), rfl⟩
  · go_enter Tryz.func243, Tryz.ntmps243
    go_wp2
    go_ret
    exact ⟨ret_bool (by simp; omega), rfl⟩
theorem opTakes_any (k n slots : Int) (w : World) : Calls Tryz.prog 217 #[.agg #[.int .i64 k, .int .i64 n], .int .i64 slots] w fun e w' =>
    e = .returned (.tuple #[.int .i64 (tk k), .bool (okB k n slots)]) ∧ Below w.heap.size w w' := by
  by_cases h1 : k = 1
  · subst h1
    go_enter Tryz.func217, Tryz.ntmps217
    go_wp2_with (go_at_call 102; refine (is32_any _ _).mono ?_; rintro e w' ⟨rfl, rfl⟩)
    go_ret2
    exact ⟨by simp [tk, okB], by go_grown⟩
  by_cases h2 : k = 2
  · subst h2
    by_cases g : 0 ≤ n
    · go_enter Tryz.func217, Tryz.ntmps217
      go_wp2
      go_quiet (fail)
      go_wp2
      go_ret2
      exact ⟨by simp [tk, okB, g], drewN (by go_grown) _⟩
    · have g' : decide (0 ≤ n) = false := by simp; omega
      go_enter Tryz.func217, Tryz.ntmps217
      go_wp2
      go_quiet (fail)
      go_wp2
      go_ret2
      exact ⟨by simp [tk, okB]; omega, drewN (by go_grown) _⟩
  have e1 : (k == 1) = false := by simp [h1]
  have e2 : (k == 2) = false := by simp [h2]
  by_cases h3 : k = 3 ∨ k = 4
  · have e3 : decide (k = 3 ∨ k = 4) = true := by simp [h3]
    have ht : tk k = 1 := by simp [tk, h1, h2, h3]
    have ho : okB k n slots = (n == 0) := by simp only [okB, if_neg h1, if_neg h2, if_pos h3]; by_cases h : n = 0 <;> simp [h]
    rw [ht, ho]
    clear ht ho h3
    go_enter Tryz.func217, Tryz.ntmps217
    go_wp2_with (go_at_call 242; refine (isAhead_any _ _).mono ?_; rintro e w' ⟨rfl, rfl⟩)
    go_quiet (fail)
    go_wp2
    go_ret2
    exact ⟨rfl, drewN (by go_grown) _⟩
  · have e3 : decide (k = 3 ∨ k = 4) = false := by simp [h3]
    have ht : tk k = 2 := by simp [tk, h1, h2, h3]
    by_cases g : 5 ≤ k ∧ k ≤ 13
    · have g' : decide (5 ≤ k ∧ k ≤ 13) = true := by simp [g]
      have ho : okB k n slots = (n == 0) := by simp only [okB, if_neg h1, if_neg h2, if_neg h3]; by_cases h : n = 0 <;> simp [h, g]
      rw [ht, ho]
      clear ht ho h3 g
      go_enter Tryz.func217, Tryz.ntmps217
      go_wp2_with (go_at_call 242; refine (isAhead_any _ _).mono ?_; rintro e w' ⟨rfl, rfl⟩)
      go_quiet ((go_at_call 243; exact Calls.quiet_of_same (isPair_any _ _)))
      go_wp2
      go_ret2
      exact ⟨rfl, drewN (by go_grown) _⟩
    · have g' : decide (5 ≤ k ∧ k ≤ 13) = false := by simp [g]
      have ho : okB k n slots = false := by simp only [okB, if_neg h1, if_neg h2, if_neg h3]; simp; omega
      rw [ht, ho]
      clear ht ho h3 g
      go_enter Tryz.func217, Tryz.ntmps217
      go_wp2_with (go_at_call 242; refine (isAhead_any _ _).mono ?_; rintro e w' ⟨rfl, rfl⟩)
      go_quiet ((go_at_call 243; exact Calls.quiet_of_same (isPair_any _ _)))
      go_wp2
      go_ret2
      exact ⟨rfl, drewN (by go_grown) _⟩

/-- one op more: how many stand, and stood at most -/
def stepOp (slots : Int) (op : Int × Int) (s : Int × Int) : Option (Int × Int) :=
  if okB op.1 op.2 slots = true ∧ tk op.1 ≤ s.1 then some (s.1 + (1 - tk op.1), max s.2 (s.1 + (1 - tk op.1))) else none
/-- the first k ops -/
def deepTo (slots : Int) (zs : List (Int × Int)) : Nat → Option (Int × Int)
  | 0 => some (0, 0)
  | k + 1 => (deepTo slots zs k).bind (stepOp slots (zs.getD k (0, 0)))
/-- how many numbers stand at most; -1, if code is not ok -/
def deepOf (slots : Int) (zs : List (Int × Int)) : Int :=
  if 0 ≤ slots ∧ slots ≤ 16 ∧ zs.length ≤ 24 then (match deepTo slots zs zs.length with | some (1, m) => m | _ => -1) else -1

theorem deepTo_none {slots : Int} {zs : List (Int × Int)} {k n : Nat} (h : k ≤ n) (hk : deepTo slots zs k = none) : deepTo slots zs n = none := by
  induction n with
  | zero => have : k = 0 := by omega
            subst this; exact hk
  | succ n ih =>
    by_cases e : k = n + 1
    · subst e; exact hk
    · simp [deepTo, ih (by omega)]
theorem tk_range (k : Int) : 0 ≤ tk k ∧ tk k ≤ 2 := by unfold tk; split <;> (try split) <;> omega
theorem deepTo_range {slots : Int} {zs : List (Int × Int)} {k : Nat} {d m : Int} (h : deepTo slots zs k = some (d, m)) : 0 ≤ d ∧ d ≤ k ∧ 0 ≤ m ∧ m ≤ k := by
  induction k generalizing d m with
  | zero => simp [deepTo] at h; omega
  | succ k ih =>
    simp only [deepTo, Option.bind_eq_some_iff] at h
    obtain ⟨⟨d', m'⟩, h1, h2⟩ := h
    have := ih h1
    have t := tk_range (zs.getD k (0, 0)).1
    unfold stepOp at h2
    split at h2
    · simp only [Option.some.injEq, Prod.mk.injEq] at h2
      rename_i hh
      have := hh.2
      simp only at this
      omega
    · cases h2
theorem deepTo_no {slots : Int} {zs : List (Int × Int)} {k : Nat} {d m : Int} (h : deepTo slots zs k = some (d, m)) (hk : k < zs.length) (hs : stepOp slots (zs.getD k (0, 0)) (d, m) = none) : deepOf slots zs = -1 := by
  have h1 : deepTo slots zs (k + 1) = none := by simp only [deepTo, h]; exact hs
  have h2 := deepTo_none (n := zs.length) (by omega) h1
  unfold deepOf
  split
  · rw [h2]
  · rfl

set_option maxHeartbeats 800000 in
theorem implDeep_any (a : Option Addr) (n cap : Nat) (slots : Int) (zs : List (Int × Int)) (w : World) (hn : n ≤ 1048576) (hz : IsOps w a n zs) :
    Calls Tryz.prog 192 #[.slice a n cap, .int .i64 slots] w fun e w' => e = .returned (.int .i64 (deepOf slots zs)) ∧ Below w.heap.size w w' := by
  obtain ⟨hlen, hcells⟩ := hz
  by_cases g1 : slots < 0
  · have hd : deepOf slots zs = -1 := by unfold deepOf; rw [if_neg (by omega)]
    rw [hd]; clear hd
    go_enter Tryz.func192, Tryz.ntmps192
    go_wp2_with fail
    go_ret
    exact ⟨rfl, Below.refl _ _⟩
  by_cases g2 : 16 < slots
  · have hd : deepOf slots zs = -1 := by unfold deepOf; rw [if_neg (by omega)]
    rw [hd]; clear hd
    go_enter Tryz.func192, Tryz.ntmps192
    go_wp2_with fail
    go_ret
    exact ⟨rfl, Below.refl _ _⟩
  by_cases g3 : 24 < n
  · have hd : deepOf slots zs = -1 := by unfold deepOf; rw [if_neg (by omega)]
    rw [hd]; clear hd
    go_enter Tryz.func192, Tryz.ntmps192
    go_wp2_with fail
    go_ret
    exact ⟨rfl, Below.refl _ _⟩
  obtain ⟨D, hD⟩ : ∃ D, deepOf slots zs = D := ⟨_, rfl⟩
  have HD : Hid (deepOf slots zs = D) := hD
  rw [hD]; clear hD
  go_enter Tryz.func192, Tryz.ntmps192
  go_wp2_with fail
  go_loopw [5, 6, 24] (fun vd vm i wr => ∃ (k : Nat) (d m : Int), k ≤ n ∧ i = .int .i64 k ∧ vd = .int .i64 d ∧ vm = .int .i64 m ∧ Hid (deepTo slots zs k = some (d, m)) ∧ Below w.heap.size w wr) (fun _ _ i _ => n - (intOf i).toNat)
  case atStart => exact ⟨0, 0, 0, Nat.zero_le _, rfl, rfl, rfl, rfl, Below.refl _ _⟩
  case round =>
    obtain ⟨k, d, m, hk, rfl, rfl, rfl, hd, hbel⟩ := hrel
    obtain ⟨r1, r2, r3, r4⟩ := deepTo_range hd.out
    by_cases hlt : k < n
    · rcases hcells with h0 | ⟨b, off, rfl, hb, hc⟩
      · omega
      have c0 := (hbel.cell (p := ⟨b, off + k * 2, none⟩) hb).trans (hc k hlt).1
      have c1 := (hbel.cell (p := ⟨b, off + k * 2 + 1, none⟩) hb).trans (hc k hlt).2
      obtain ⟨⟨x, y⟩, hxy⟩ : ∃ xy, zs.getD k (0, 0) = xy := ⟨_, rfl⟩
      rw [hxy] at c0 c1
      have hbs := hbel.size
      have HX : Hid (zs.getD k (0, 0) = (x, y)) := hxy
      obtain ⟨t1, t2⟩ := tk_range x
      clear hc hxy
      go_wp2_with (go_at_call 217; refine (opTakes_any _ _ _ _).mono ?_; rintro e w' ⟨rfl, hb1⟩)
      · have hs : stepOp slots (zs.getD k (0, 0)) (d, m) = none := by
          rw [HX.out]; unfold stepOp; rw [if_neg (by rintro ⟨_, h⟩; simp at h; omega)]
        have hD : D = -1 := HD.out.symm.trans (deepTo_no hd.out (by omega) hs)
        go_ret
        exact ⟨ret_int hD.symm, (hbel.alloc hbs _).trans (hb1.mono (by simp; omega))⟩
      · have hs : stepOp slots (zs.getD k (0, 0)) (d, m) = some (d + (1 - tk x), if m < d + (1 - tk x) then d + (1 - tk x) else m) := by
          rw [HX.out]; unfold stepOp; rw [if_pos ⟨by assumption, by assumption⟩]
          simp only [Option.some.injEq, Prod.mk.injEq, true_and]
          split <;> omega
        go_roundw
        case rel => exact ⟨k + 1, _, _, by omega, by go_num, rfl, rfl, by show deepTo _ _ _ = _; simp only [deepTo, hd.out]; exact hs, (hbel.alloc hbs _).trans (hb1.mono (by simp; omega))⟩
        case measure => simp [intOf]; omega
      · have hs : stepOp slots (zs.getD k (0, 0)) (d, m) = none := by
          rw [HX.out]; unfold stepOp; rw [if_neg (by rintro ⟨h, _⟩; contradiction)]
        have hD : D = -1 := HD.out.symm.trans (deepTo_no hd.out (by omega) hs)
        go_ret
        exact ⟨ret_int hD.symm, (hbel.alloc hbs _).trans (hb1.mono (by simp; omega))⟩
    · have : k = n := by omega
      subst this
      have hD : D = if d = 1 then m else -1 := by
        rw [← HD.out, deepOf, if_pos (by omega), hlen, hd.out]
        by_cases h1 : d = 1
        · subst h1; rfl
        · rw [if_neg h1]
          split
          · rename_i h; simp at h; omega
          · rfl
      have HD2 : Hid (D = if d = 1 then m else -1) := hD
      clear hD
      go_wp2_with fail
      · have h1 : (d != 1) = true := by assumption
        simp at h1
        have hD := HD2.out
        rw [if_neg h1] at hD
        go_ret
        exact ⟨ret_int hD.symm, hbel⟩
      · have h1 : (d != 1) = false := by assumption
        simp at h1
        have hD := HD2.out
        rw [if_pos h1] at hD
        go_ret
        exact ⟨ret_int hD.symm, hbel⟩
end Go.Proofs.YtchemhjcknkbgaaGreatDoor

/- Blocks that may be written. -/
namespace Go.Proofs.YtchemhjcknkbgaaGreatDoor
open Go Go.RowKit Go.PlainAid
set_option linter.unusedSimpArgs false
set_option linter.unusedVariables false

/-- block b has N cells that may be written -/
def Open (b N : Nat) (w : World) : Prop := b < w.heap.size ∧ ∀ j, j < N → (∃ v, w.cell? ⟨b, j, none⟩ = some v) ∧ w.frozen? ⟨b, j, none⟩ = false
theorem Open.below {b N : Nat} {w w' : World} (h : Open b N w) (hb : Below w.heap.size w w') : Open b N w' :=
  ⟨Nat.lt_of_lt_of_le h.1 hb.size, fun j hj => by
    obtain ⟨⟨v, h1⟩, h2⟩ := h.2 j hj
    exact ⟨⟨v, (hb.cell (p := ⟨b, j, none⟩) h.1).trans h1⟩, (hb.frozen (p := ⟨b, j, none⟩) h.1).trans h2⟩⟩
theorem Open.mv {b N p : Nat} {w w' : World} (h : Open b N w) (hm : Mv p w w') (hp : b ≠ p) : Open b N w' :=
  ⟨Nat.lt_of_lt_of_le h.1 hm.size, fun j hj => by
    obtain ⟨⟨v, h1⟩, h2⟩ := h.2 j hj
    exact ⟨⟨v, (World.cell?_of_block (hm.block b h.1 hp)).trans h1⟩, (World.frozen?_of_block (hm.block b h.1 hp)).trans h2⟩⟩
theorem Open.set {b N : Nat} {w : World} (h : Open b N w) (i : Nat) (v : Value) (hi : i < N) : Open b N (w.setCell ⟨b, i, none⟩ v) := by
  refine ⟨by simpa [World.setCell] using h.1, fun j hj => ?_⟩
  obtain ⟨⟨u, h1⟩, h2⟩ := h.2 j hj
  refine ⟨?_, by simpa using h2⟩
  by_cases e : j = i
  · subst e; exact ⟨v, World.cell?_setCell_same _ _ _ h1⟩
  · exact ⟨u, by rw [setCell_ne _ _ _ _ _ (fun h => e h.symm)]; exact h1⟩

theorem open_made (w : World) (zs : Array Value) (N : Nat) (t : TypeId) : Open w.heap.size N (w.alloc (.cells (madeCells zs N) t)) := by
  have h := Fill.start w (madeCells zs N) t (fun _ => .bool false)
  rw [size_madeCells] at h
  exact ⟨h.lt, fun j hj => ⟨h.there j hj, h.open_ j⟩⟩
end Go.Proofs.YtchemhjcknkbgaaGreatDoor

/- What is left of a size, and sums over lists. -/
namespace Go.Proofs.YtchemhjcknkbgaaGreatDoor
open Go Go.RowKit Go.PlainAid
set_option linter.unusedSimpArgs false
set_option linter.unusedVariables false

/-- what is left, and that what was counted is small -/
def SzP (W : Nat) (left : Int) (w : World) (e : Ending) (w' : World) : Prop := ∃ r : Int, e = .returned (.int .i64 r) ∧ Below w.heap.size w w' ∧ r ≤ left ∧ -1 ≤ r ∧ (0 ≤ r → r + W = left)
def wsum {α : Type} (f : α → Nat) (l : List α) : Nat := (l.map f).sum
theorem wsum_take {α : Type} (f : α → Nat) (l : List α) {k : Nat} (h : k < l.length) : wsum f (l.take (k + 1)) = wsum f (l.take k) + f l[k] := by
  unfold wsum
  rw [List.take_succ_eq_append_getElem h, List.map_append, List.sum_append]; simp
theorem wsum_mem {α : Type} {f : α → Nat} {l : List α} {x : α} (h : x ∈ l) : f x ≤ wsum f l := by
  unfold wsum
  induction l with
  | nil => simp at h
  | cons y r ih =>
    simp only [List.map_cons, List.sum_cons]
    rcases List.mem_cons.1 h with rfl | h
    · omega
    · have := ih h; omega
theorem wrap_sub {left : Int} {n : Nat} (h0 : 0 ≤ left) (h1 : left ≤ 1048576) (hn : n ≤ 9223372036854775807) : IntKind.i64.wrap (left - n) = left - n := by rw [IntKind.wrap_i64]; omega
end Go.Proofs.YtchemhjcknkbgaaGreatDoor
