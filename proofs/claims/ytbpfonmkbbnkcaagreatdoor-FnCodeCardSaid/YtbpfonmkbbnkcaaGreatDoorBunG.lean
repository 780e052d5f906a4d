/- The walks for code: ops in memory, comparisons. -/
import Derived.Test.YtbpfonmkbbnkcaaGreatDoorRows
import Derived.Test.YtbpfonmkbbnkcaaGreatDoorBunA
import Derived.WalkKit
import Derived.ProofKit
import Derived.Handy
import Derived.PlainAid
import Derived.WalkLawsBesides
import Derived.Deep.RegionHeld3
import Derived.BigQuiet
namespace Go.Proofs.YtbpfonmkbbnkcaaGreatDoor
open Go.RowKit Go.PlainAid

theorem eqOp_any (x y x' y' : Int) (w : World) : Calls Tryz.prog 66 #[.agg #[.int .i64 x, .int .i64 y], .agg #[.int .i64 x', .int .i64 y']] w fun e w' => e = .returned (.bool (decide (x = x' ∧ y = y'))) ∧ Below w.heap.size w w' := by
  by_cases h1 : x = x'
  · subst h1
    by_cases h2 : y = y'
    · subst h2
      go_enter Tryz.func66, Tryz.ntmps66
      go_wp2
      go_ret
      refine ⟨ret_bool (by simp), ?_⟩
      go_grown
    · have h : (y != y') = true := by simp [h2]
      go_enter Tryz.func66, Tryz.ntmps66
      go_wp2
      go_ret
      refine ⟨ret_bool (by simp [h2]), ?_⟩
      go_grown
  · have h : (x != x') = true := by simp [h1]
    go_enter Tryz.func66, Tryz.ntmps66
    go_wp2
    go_ret
    refine ⟨ret_bool (by simp [h1]), ?_⟩
    go_grown

theorem infoOp : (Tryz.prog.info? 82).map (fun i => (i.zero, i.size, i.bytes)) = some (some (.agg #[.int .i64 0, .int .i64 0]), 2, 16) := by kernel_rfl

/-- the slice (a, n) reads in w as these ops -/
def IsOps (w : World) (a : Option Addr) (n : Nat) (zs : List (Int × Int)) : Prop :=
  zs.length = n ∧ (n = 0 ∨ ∃ b off, a = some ⟨b, off, none⟩ ∧ b < w.heap.size ∧ ∀ i, i < n → w.cell? ⟨b, off + i * 2, none⟩ = some (.int .i64 (zs.getD i (0, 0)).1) ∧ w.cell? ⟨b, off + i * 2 + 1, none⟩ = some (.int .i64 (zs.getD i (0, 0)).2))

/-- the flat cells of ops -/
def opCell (zs : List (Int × Int)) (j : Nat) : Value := if j % 2 = 0 then .int .i64 (zs.getD (j / 2) (0, 0)).1 else .int .i64 (zs.getD (j / 2) (0, 0)).2
theorem opCell_even' (zs : List (Int × Int)) (k : Nat) : opCell zs (k * 2) = .int .i64 (zs.getD k (0, 0)).1 := by
  unfold opCell; rw [if_pos (by omega), show k * 2 / 2 = k from by omega]
theorem opCell_odd' (zs : List (Int × Int)) (k : Nat) : opCell zs (k * 2 + 1) = .int .i64 (zs.getD k (0, 0)).2 := by
  unfold opCell; rw [if_neg (by omega), show (k * 2 + 1) / 2 = k from by omega]
theorem opCell_even (zs : List (Int × Int)) (k : Nat) (h : k < zs.length) : opCell zs (k * 2) = .int .i64 zs[k].1 := by
  rw [opCell_even']; simp [h]
theorem opCell_odd (zs : List (Int × Int)) (k : Nat) (h : k < zs.length) : opCell zs (k * 2 + 1) = .int .i64 zs[k].2 := by
  rw [opCell_odd']; simp [h]

/-- two slices that read as the same ops are the same -/
theorem eqOpS_same (a a' : Option Addr) (n cap cap' : Nat) (zs : List (Int × Int)) (w : World) (hn : n ≤ 1048576) (hz : IsOps w a n zs) (hz' : IsOps w a' n zs) :
    Calls Tryz.prog 39 #[.slice a n cap, .slice a' n cap'] w fun e w' => e = .returned (.bool true) ∧ Below w.heap.size w w' := by
  obtain ⟨hlen, hcells⟩ := hz
  obtain ⟨_, hcells'⟩ := hz'
  go_enter Tryz.func39, Tryz.ntmps39
  go_wp2
  go_loopw [5] (fun i wr => ∃ k : Nat, k ≤ n ∧ i = .int .i64 k ∧ Below w.heap.size w wr) (fun i _ => n - (intOf i).toNat)
  case atStart => exact ⟨0, Nat.zero_le _, rfl, Below.refl _ _⟩
  case round =>
    obtain ⟨k, hk, rfl, hbel⟩ := hrel
    by_cases hlt : k < n
    · rcases hcells with h0 | ⟨b, off, rfl, hb, hc⟩
      · omega
      rcases hcells' with h0 | ⟨b', off', rfl, hb', hc'⟩
      · omega
      have c0 := (hbel.cell (p := ⟨b, off + k * 2, none⟩) hb).trans (hc k hlt).1
      have c1 := (hbel.cell (p := ⟨b, off + k * 2 + 1, none⟩) hb).trans (hc k hlt).2
      have d0 := (hbel.cell (p := ⟨b', off' + k * 2, none⟩) hb').trans (hc' k hlt).1
      have d1 := (hbel.cell (p := ⟨b', off' + k * 2 + 1, none⟩) hb').trans (hc' k hlt).2
      have hbr : b < wr.heap.size := by have := hbel.size; omega
      have hbr' : b' < wr.heap.size := by have := hbel.size; omega
      clear hc hc'
      go_wp2
      go_region_held3 (fun w' => w'.cell? ⟨b, off + k * 2, none⟩ = some (.int .i64 (zs.getD k (0, 0)).1) ∧ w'.cell? ⟨b, off + k * 2 + 1, none⟩ = some (.int .i64 (zs.getD k (0, 0)).2) ∧ w'.cell? ⟨b', off' + k * 2, none⟩ = some (.int .i64 (zs.getD k (0, 0)).1) ∧ w'.cell? ⟨b', off' + k * 2 + 1, none⟩ = some (.int .i64 (zs.getD k (0, 0)).2)) (simp [go_sem, *])
        (first | (go_at_call 66; refine (eqOp_any _ _ _ _ _).mono ?_; rintro e w' ⟨rfl, hb1⟩; replace hb1 := undrew hb1; obtain ⟨hc1, hf1⟩ := bcell hb1))
      go_wp2
      go_roundw
      case rel => exact ⟨k + 1, by omega, by go_num, hbel.trans (hb1.mono hbel.size)⟩
      case measure => simp [intOf]; omega
    · go_wp2
      go_ret
      exact ⟨rfl, hbel⟩
end Go.Proofs.YtbpfonmkbbnkcaaGreatDoor

/- What CodeDeep comes to, in the program and in the model, for every code and every number of places. -/
namespace Go.Proofs.YtbpfonmkbbnkcaaGreatDoor
open Go.RowKit Go.PlainAid

/-- how many numbers an op takes -/
def tk (k : Int) : Int := if k = 1 ∨ k = 2 then 0 else if k = 3 ∨ k = 4 then 1 else 2
/-- whether an op is one -/
def okB (k n slots : Int) : Bool :=
  if k = 1 then decide (-2147483648 ≤ n ∧ n ≤ 2147483647) else if k = 2 then decide (0 ≤ n ∧ n < slots)
  else if k = 3 ∨ k = 4 then decide (n = 0) else decide ((5 ≤ k ∧ k ≤ 13) ∧ n = 0)

theorem isAhead_any (k : Int) (w : World) : Calls Tryz.prog 86 #[.int .i64 k] w fun e w' => e = .returned (.bool (decide (k = 3 ∨ k = 4))) ∧ w' = w := by
  by_cases h : k = 3
  · subst h
    go_enter Tryz.func86, Tryz.ntmps86
    go_wp2
    go_ret
    exact ⟨rfl, rfl⟩
  · have h' : (k == 3) = false := by simp [h]
    go_enter Tryz.func86, Tryz.ntmps86
    go_wp2
    go_ret
    exact ⟨ret_bool (by simp [h]; by_cases h4 : k = 4 <;> simp [h4]), rfl⟩
theorem isPair_any (k : Int) (w : World) : Calls Tryz.prog 87 #[.int .i64 k] w fun e w' => e = .returned (.bool (decide (5 ≤ k ∧ k ≤ 13))) ∧ w' = w := by
  by_cases h : 5 ≤ k
  · go_enter Tryz.func87, Tryz.ntmps87
    go_wp2
    go_ret
    exact ⟨ret_bool (by simp [h]), rfl⟩
  · go_enter Tryz.func87, Tryz.ntmps87
    go_wp2
    go_ret
    exact ⟨ret_bool (by simp; omega), rfl⟩
/-- a number in 32 bits -/
def wr32 (n : Int) : Int := (n + 2147483648) % 4294967296 - 2147483648
theorem wr32_of (n r : Int) (h : n.tmod 4294967296 = r) : (-4294967296 < r ∧ r < 4294967296) ∧ wr32 n = if r < -2147483648 then r + 4294967296 else if 2147483647 < r then r - 4294967296 else r := by
  have t1 : n.tmod 4294967296 = if 0 ≤ n then n % 4294967296 else -((-n) % 4294967296) := by
    split
    · exact Int.tmod_eq_emod_of_nonneg (by omega)
    · rw [show n = -(-n) from by omega, Int.neg_tmod, Int.tmod_eq_emod_of_nonneg (by omega)]; simp
  rw [t1] at h
  unfold wr32
  split at h <;> split <;> (try split) <;> omega
theorem l1Wrap_any (n : Int) (w : World) : Calls Tryz.prog 76 #[.int .i64 n] w fun e w' => e = .returned (.int .i64 (wr32 n)) ∧ w' = w := by
  obtain ⟨r, hr⟩ : ∃ r, n.tmod 4294967296 = r := ⟨_, rfl⟩
  obtain ⟨⟨h1, h2⟩, h3⟩ := wr32_of n r hr
  rw [h3]
  clear h3
  by_cases g1 : r < -2147483648
  · rw [if_pos g1]
    go_enter Tryz.func76, Tryz.ntmps76
    go_wp2
    go_ret
    exact ⟨rfl, rfl⟩
  rw [if_neg g1]
  by_cases g2 : 2147483647 < r
  · rw [if_pos g2]
    go_enter Tryz.func76, Tryz.ntmps76
    go_wp2
    go_ret
    exact ⟨rfl, rfl⟩
  · rw [if_neg g2]
    go_enter Tryz.func76, Tryz.ntmps76
    go_wp2
    go_ret
    exact ⟨rfl, rfl⟩

theorem is32_any (n : Int) (w : World) : Calls Tryz.prog 85 #[.int .i64 n] w fun e w' => e = .returned (.bool (decide (-2147483648 ≤ n ∧ n ≤ 2147483647))) ∧ w' = w := by
  by_cases h : -2147483648 ≤ n
  · go_enter Tryz.func85, Tryz.ntmps85
    go_wp2
    go_ret
    exact ⟨ret_bool (by simp [h]), rfl⟩
  · go_enter Tryz.func85, Tryz.ntmps85
    go_wp2
    go_ret
    exact ⟨ret_bool (by simp; omega), rfl⟩
theorem opTakes_any (k n slots : Int) (w : World) : Calls Tryz.prog 59 #[.agg #[.int .i64 k, .int .i64 n], .int .i64 slots] w fun e w' =>
    e = .returned (.tuple #[.int .i64 (tk k), .bool (okB k n slots)]) ∧ Below w.heap.size w w' := by
  by_cases h1 : k = 1
  · subst h1
    go_enter Tryz.func59, Tryz.ntmps59
    go_wp2_with (go_at_call 85; refine (is32_any _ _).mono ?_; rintro e w' ⟨rfl, rfl⟩)
    go_ret2
    exact ⟨by simp [tk, okB], by go_grown⟩
  by_cases h2 : k = 2
  · subst h2
    by_cases g : 0 ≤ n
    · go_enter Tryz.func59, Tryz.ntmps59
      go_wp2
      go_quiet (fail)
      go_wp2
      go_ret2
      exact ⟨by simp [tk, okB, g], drewN (by go_grown) _⟩
    · have g' : decide (0 ≤ n) = false := by simp; omega
      go_enter Tryz.func59, Tryz.ntmps59
      go_wp2
      go_quiet (fail)
      go_wp2
      go_ret2
      exact ⟨by simp [tk, okB]; omega, drewN (by go_grown) _⟩
  have e1 : (k == 1) = false := by simp [h1]
  have e2 : (k == 2) = false := by simp [h2]
  by_cases h3 : k = 3 ∨ k = 4
  · have e3 : decide (k = 3 ∨ k = 4) = true := by simp [h3]
    have ht : tk k = 1 := by simp [tk, h1, h2, h3]
    have ho : okB k n slots = (n == 0) := by simp only [okB, if_neg h1, if_neg h2, if_pos h3]; by_cases h : n = 0 <;> simp [h]
    rw [ht, ho]
    clear ht ho h3
    go_enter Tryz.func59, Tryz.ntmps59
    go_wp2_with (go_at_call 86; refine (isAhead_any _ _).mono ?_; rintro e w' ⟨rfl, rfl⟩)
    go_quiet (fail)
    go_wp2
    go_ret2
    exact ⟨rfl, drewN (by go_grown) _⟩
  · have e3 : decide (k = 3 ∨ k = 4) = false := by simp [h3]
    have ht : tk k = 2 := by simp [tk, h1, h2, h3]
    by_cases g : 5 ≤ k ∧ k ≤ 13
    · have g' : decide (5 ≤ k ∧ k ≤ 13) = true := by simp [g]
      have ho : okB k n slots = (n == 0) := by simp only [okB, if_neg h1, if_neg h2, if_neg h3]; by_cases h : n = 0 <;> simp [h, g]
      rw [ht, ho]
      clear ht ho h3 g
      go_enter Tryz.func59, Tryz.ntmps59
      go_wp2_with (go_at_call 86; refine (isAhead_any _ _).mono ?_; rintro e w' ⟨rfl, rfl⟩)
      go_quiet ((go_at_call 87; exact Calls.quiet_of_same (isPair_any _ _)))
      go_wp2
      go_ret2
      exact ⟨rfl, drewN (by go_grown) _⟩
    · have g' : decide (5 ≤ k ∧ k ≤ 13) = false := by simp [g]
      have ho : okB k n slots = false := by simp only [okB, if_neg h1, if_neg h2, if_neg h3]; simp; omega
      rw [ht, ho]
      clear ht ho h3 g
      go_enter Tryz.func59, Tryz.ntmps59
      go_wp2_with (go_at_call 86; refine (isAhead_any _ _).mono ?_; rintro e w' ⟨rfl, rfl⟩)
      go_quiet ((go_at_call 87; exact Calls.quiet_of_same (isPair_any _ _)))
      go_wp2
      go_ret2
      exact ⟨rfl, drewN (by go_grown) _⟩

/-- one op more: how many stand, and stood at most -/
def stepOp (slots : Int) (op : Int × Int) (s : Int × Int) : Option (Int × Int) :=
  if okB op.1 op.2 slots = true ∧ tk op.1 ≤ s.1 then some (s.1 + (1 - tk op.1), max s.2 (s.1 + (1 - tk op.1))) else none
/-- the first k ops -/
def deepTo (slots : Int) (zs : List (Int × Int)) : Nat → Option (Int × Int)
  | 0 => some (0, 0)
  | k + 1 => (deepTo slots zs k).bind (stepOp slots (zs.getD k (0, 0)))
/-- how many numbers stand at most; -1, if code is not ok -/
def deepOf (slots : Int) (zs : List (Int × Int)) : Int :=
  if 0 ≤ slots ∧ slots ≤ 16 ∧ zs.length ≤ 24 then (match deepTo slots zs zs.length with | some (1, m) => m | _ => -1) else -1

theorem deepTo_none {slots : Int} {zs : List (Int × Int)} {k n : Nat} (h : k ≤ n) (hk : deepTo slots zs k = none) : deepTo slots zs n = none := by
  induction n with
  | zero => have : k = 0 := by omega
            subst this; exact hk
  | succ n ih =>
    by_cases e : k = n + 1
    · subst e; exact hk
    · simp [deepTo, ih (by omega)]
theorem tk_range (k : Int) : 0 ≤ tk k ∧ tk k ≤ 2 := by unfold tk; split <;> (try split) <;> omega
theorem deepTo_range {slots : Int} {zs : List (Int × Int)} {k : Nat} {d m : Int} (h : deepTo slots zs k = some (d, m)) : 0 ≤ d ∧ d ≤ k ∧ 0 ≤ m ∧ m ≤ k := by
  induction k generalizing d m with
  | zero => simp [deepTo] at h; omega
  | succ k ih =>
    simp only [deepTo, Option.bind_eq_some_iff] at h
    obtain ⟨⟨d', m'⟩, h1, h2⟩ := h
    have := ih h1
    have t := tk_range (zs.getD k (0, 0)).1
    unfold stepOp at h2
    split at h2
    · simp only [Option.some.injEq, Prod.mk.injEq] at h2
      rename_i hh
      have := hh.2
      simp only at this
      omega
    · cases h2
theorem deepTo_no {slots : Int} {zs : List (Int × Int)} {k : Nat} {d m : Int} (h : deepTo slots zs k = some (d, m)) (hk : k < zs.length) (hs : stepOp slots (zs.getD k (0, 0)) (d, m) = none) : deepOf slots zs = -1 := by
  have h1 : deepTo slots zs (k + 1) = none := by simp only [deepTo, h]; exact hs
  have h2 := deepTo_none (n := zs.length) (by omega) h1
  unfold deepOf
  split
  · rw [h2]
  · rfl

set_option maxHeartbeats 800000 in
theorem implDeep_any (a : Option Addr) (n cap : Nat) (slots : Int) (zs : List (Int × Int)) (w : World) (hn : n ≤ 1048576) (hz : IsOps w a n zs) :
    Calls Tryz.prog 27 #[.slice a n cap, .int .i64 slots] w fun e w' => e = .returned (.int .i64 (deepOf slots zs)) ∧ Below w.heap.size w w' := by
  obtain ⟨hlen, hcells⟩ := hz
  by_cases g1 : slots < 0
  · have hd : deepOf slots zs = -1 := by unfold deepOf; rw [if_neg (by omega)]
    rw [hd]; clear hd
    go_enter Tryz.func27, Tryz.ntmps27
    go_wp2_with fail
    go_ret
    exact ⟨rfl, Below.refl _ _⟩
  by_cases g2 : 16 < slots
  · have hd : deepOf slots zs = -1 := by unfold deepOf; rw [if_neg (by omega)]
    rw [hd]; clear hd
    go_enter Tryz.func27, Tryz.ntmps27
    go_wp2_with fail
    go_ret
    exact ⟨rfl, Below.refl _ _⟩
  by_cases g3 : 24 < n
  · have hd : deepOf slots zs = -1 := by unfold deepOf; rw [if_neg (by omega)]
    rw [hd]; clear hd
    go_enter Tryz.func27, Tryz.ntmps27
    go_wp2_with fail
    go_ret
    exact ⟨rfl, Below.refl _ _⟩
  obtain ⟨D, hD⟩ : ∃ D, deepOf slots zs = D := ⟨_, rfl⟩
  have HD : Hid (deepOf slots zs = D) := hD
  rw [hD]; clear hD
  go_enter Tryz.func27, Tryz.ntmps27
  go_wp2_with fail
  go_loopw [5, 6, 24] (fun vd vm i wr => ∃ (k : Nat) (d m : Int), k ≤ n ∧ i = .int .i64 k ∧ vd = .int .i64 d ∧ vm = .int .i64 m ∧ Hid (deepTo slots zs k = some (d, m)) ∧ Below w.heap.size w wr) (fun _ _ i _ => n - (intOf i).toNat)
  case atStart => exact ⟨0, 0, 0, Nat.zero_le _, rfl, rfl, rfl, rfl, Below.refl _ _⟩
  case round =>
    obtain ⟨k, d, m, hk, rfl, rfl, rfl, hd, hbel⟩ := hrel
    obtain ⟨r1, r2, r3, r4⟩ := deepTo_range hd.out
    by_cases hlt : k < n
    · rcases hcells with h0 | ⟨b, off, rfl, hb, hc⟩
      · omega
      have c0 := (hbel.cell (p := ⟨b, off + k * 2, none⟩) hb).trans (hc k hlt).1
      have c1 := (hbel.cell (p := ⟨b, off + k * 2 + 1, none⟩) hb).trans (hc k hlt).2
      obtain ⟨⟨x, y⟩, hxy⟩ : ∃ xy, zs.getD k (0, 0) = xy := ⟨_, rfl⟩
      rw [hxy] at c0 c1
      have hbs := hbel.size
      have HX : Hid (zs.getD k (0, 0) = (x, y)) := hxy
      obtain ⟨t1, t2⟩ := tk_range x
      clear hc hxy
      go_wp2_with (go_at_call 59; refine (opTakes_any _ _ _ _).mono ?_; rintro e w' ⟨rfl, hb1⟩)
      · have hs : stepOp slots (zs.getD k (0, 0)) (d, m) = none := by
          rw [HX.out]; unfold stepOp; rw [if_neg (by rintro ⟨_, h⟩; simp at h; omega)]
        have hD : D = -1 := HD.out.symm.trans (deepTo_no hd.out (by omega) hs)
        go_ret
        exact ⟨ret_int hD.symm, (hbel.alloc hbs _).trans (hb1.mono (by simp; omega))⟩
      · have hs : stepOp slots (zs.getD k (0, 0)) (d, m) = some (d + (1 - tk x), if m < d + (1 - tk x) then d + (1 - tk x) else m) := by
          rw [HX.out]; unfold stepOp; rw [if_pos ⟨by assumption, by assumption⟩]
          simp only [Option.some.injEq, Prod.mk.injEq, true_and]
          split <;> omega
        go_roundw
        case rel => exact ⟨k + 1, _, _, by omega, by go_num, rfl, rfl, by show deepTo _ _ _ = _; simp only [deepTo, hd.out]; exact hs, (hbel.alloc hbs _).trans (hb1.mono (by simp; omega))⟩
        case measure => simp [intOf]; omega
      · have hs : stepOp slots (zs.getD k (0, 0)) (d, m) = none := by
          rw [HX.out]; unfold stepOp; rw [if_neg (by rintro ⟨h, _⟩; contradiction)]
        have hD : D = -1 := HD.out.symm.trans (deepTo_no hd.out (by omega) hs)
        go_ret
        exact ⟨ret_int hD.symm, (hbel.alloc hbs _).trans (hb1.mono (by simp; omega))⟩
    · have : k = n := by omega
      subst this
      have hD : D = if d = 1 then m else -1 := by
        rw [← HD.out, deepOf, if_pos (by omega), hlen, hd.out]
        by_cases h1 : d = 1
        · subst h1; rfl
        · rw [if_neg h1]
          split
          · rename_i h; simp at h; omega
          · rfl
      have HD2 : Hid (D = if d = 1 then m else -1) := hD
      clear hD
      go_wp2_with fail
      · have h1 : (d != 1) = true := by assumption
        simp at h1
        have hD := HD2.out
        rw [if_neg h1] at hD
        go_ret
        exact ⟨ret_int hD.symm, hbel⟩
      · have h1 : (d != 1) = false := by assumption
        simp at h1
        have hD := HD2.out
        rw [if_pos h1] at hD
        go_ret
        exact ⟨ret_int hD.symm, hbel⟩
end Go.Proofs.YtbpfonmkbbnkcaaGreatDoor

/- What signs come to: in the program (32 bits) and in the model (int). -/
namespace Go.Proofs.YtbpfonmkbbnkcaaGreatDoor
open Go.RowKit Go.PlainAid
set_option linter.unusedSimpArgs false
set_option linter.unusedVariables false

theorem wr32_is (n : Int) : wrap32 n = wr32 n := by unfold wrap32 wr32; rfl
def bit (b : Bool) : Int := if b then 1 else 0
def quo (a b : Int) : Int := if b = 0 then 0 else wr32 (a.tdiv b)
def rest (a b : Int) : Int := if b = 0 then 0 else a.tmod b
/-- what a sign makes of two numbers -/
def two (k a b : Int) : Int :=
  if k = 5 then wr32 (a * b) else if k = 6 then quo a b else if k = 7 then rest a b
  else if k = 8 then wr32 (a + b) else if k = 9 then wr32 (a - b) else if k = 10 then bit (decide (a < b)) else if k = 11 then bit (a == b)
  else if k = 12 then bit (a != 0 && b != 0) else bit (a != 0 || b != 0)
def one (k a : Int) : Int := if k = 3 then wr32 (-a) else bit (a == 0)

def In32 (n : Int) : Prop := -2147483648 ≤ n ∧ n ≤ 2147483647
theorem in32_wr (n : Int) : In32 (wr32 n) := by unfold In32 wr32; omega
theorem in32_bit (b : Bool) : In32 (bit b) := by unfold In32 bit; split <;> omega
theorem wr32_in {n : Int} (h : In32 n) : wr32 n = n := by unfold In32 at h; unfold wr32; omega
theorem mul32 {a b : Int} (ha : In32 a) (hb : In32 b) : -4611686018427387904 ≤ a * b ∧ a * b ≤ 4611686018427387904 := by
  obtain ⟨a1, a2⟩ := ha; obtain ⟨b1, b2⟩ := hb
  have h : (a * b).natAbs ≤ 2147483648 * 2147483648 := by
    rw [Int.natAbs_mul]; exact Nat.mul_le_mul (by omega) (by omega)
  omega
theorem tdiv32 {a b : Int} (ha : In32 a) : -2147483648 ≤ a.tdiv b ∧ a.tdiv b ≤ 2147483648 := by
  obtain ⟨a1, a2⟩ := ha
  have h : (a.tdiv b).natAbs ≤ a.natAbs := by rw [Int.natAbs_tdiv]; exact Nat.div_le_self _ _
  omega
theorem tmod32 {a b : Int} (ha : In32 a) : In32 (a.tmod b) := by
  obtain ⟨a1, a2⟩ := ha
  have h : (a.tmod b).natAbs ≤ a.natAbs := by rw [Int.natAbs_tmod]; exact Nat.mod_le _ _
  have h2 : 0 ≤ a → 0 ≤ a.tmod b := fun h => Int.tmod_nonneg _ h
  have h3 : a ≤ 0 → a.tmod b ≤ 0 := fun h => by
    have := Int.tmod_nonneg (a := -a) b (by omega)
    rw [Int.neg_tmod] at this; omega
  unfold In32
  by_cases h0 : 0 ≤ a
  · have := h2 h0; omega
  · have := h3 (by omega); omega
theorem in32_two {k a b : Int} (ha : In32 a) : In32 (two k a b) := by
  unfold two quo rest
  repeat' split
  all_goals first | exact in32_wr _ | exact in32_bit _ | exact tmod32 ha | (unfold In32; omega)
theorem in32_one (k a : Int) : In32 (one k a) := by
  unfold one; split
  · exact in32_wr _
  · exact in32_bit _

theorem truth_any (b : Bool) (w : World) : Calls Tryz.prog 121 #[.bool b] w fun e w' => e = .returned (.int .i32 (bit b)) ∧ w' = w := by
  cases b <;>
  · go_enter Tryz.func121, Tryz.ntmps121
    go_wp2
    go_ret
    exact ⟨rfl, rfl⟩
theorem l1Bit_any (b : Bool) (w : World) : Calls Tryz.prog 77 #[.bool b] w fun e w' => e = .returned (.int .i64 (bit b)) ∧ w' = w := by
  cases b <;>
  · go_enter Tryz.func77, Tryz.ntmps77
    go_wp2
    go_ret
    exact ⟨rfl, rfl⟩
theorem quotient_any (a b : Int) (w : World) : Calls Tryz.prog 122 #[.int .i32 a, .int .i32 b] w fun e w' => e = .returned (.int .i32 (quo a b)) ∧ w' = w := by
  unfold quo
  by_cases h : b = 0
  · subst h
    go_enter Tryz.func122, Tryz.ntmps122
    go_wp2
    go_ret
    exact ⟨rfl, rfl⟩
  · rw [if_neg h]
    go_enter Tryz.func122, Tryz.ntmps122
    go_wp2
    go_ret
    exact ⟨ret_int (by rw [← wr32_is]), rfl⟩
theorem remainder_any (a b : Int) (w : World) : Calls Tryz.prog 123 #[.int .i32 a, .int .i32 b] w fun e w' => e = .returned (.int .i32 (rest a b)) ∧ w' = w := by
  unfold rest
  by_cases h : b = 0
  · subst h
    go_enter Tryz.func123, Tryz.ntmps123
    go_wp2
    go_ret
    exact ⟨rfl, rfl⟩
  · rw [if_neg h]
    go_enter Tryz.func123, Tryz.ntmps123
    go_wp2
    go_ret
    exact ⟨rfl, rfl⟩

theorem aheadValue_any (k a : Int) (w : World) (hk : k = 3 ∨ k = 4) : Calls Tryz.prog 110 #[.int .i64 k, .int .i32 a] w fun e w' => e = .returned (.int .i32 (one k a)) ∧ w' = w := by
  rcases hk with rfl | rfl
  · go_enter Tryz.func110, Tryz.ntmps110
    go_wp2
    go_ret
    exact ⟨ret_int (by rw [one, if_pos rfl, ← wr32_is]), rfl⟩
  · go_enter Tryz.func110, Tryz.ntmps110
    go_wp2_with (go_at_call 121; refine (truth_any _ _).mono ?_; rintro e w' ⟨rfl, rfl⟩)
    go_ret
    exact ⟨rfl, rfl⟩

theorem pair_cases {k : Int} (h : 5 ≤ k ∧ k ≤ 13) : k = 5 ∨ k = 6 ∨ k = 7 ∨ k = 8 ∨ k = 9 ∨ k = 10 ∨ k = 11 ∨ k = 12 ∨ k = 13 := by omega

set_option maxHeartbeats 800000 in
theorem pairValue_any (k a b : Int) (w : World) (hk : 5 ≤ k ∧ k ≤ 13) : Calls Tryz.prog 111 #[.int .i64 k, .int .i32 a, .int .i32 b] w fun e w' => e = .returned (.int .i32 (two k a b)) ∧ w' = w := by
  rcases pair_cases hk with rfl | rfl | rfl | rfl | rfl | rfl | rfl | rfl | rfl
  · go_enter Tryz.func111, Tryz.ntmps111
    go_wp2_with fail
    go_ret
    exact ⟨ret_int (by simp [two, ← wr32_is]), rfl⟩
  · go_enter Tryz.func111, Tryz.ntmps111
    go_wp2_with (go_at_call 122; refine (quotient_any _ _ _).mono ?_; rintro e w' ⟨rfl, rfl⟩)
    go_ret
    exact ⟨ret_int (by simp [two]), rfl⟩
  · go_enter Tryz.func111, Tryz.ntmps111
    go_wp2_with (go_at_call 123; refine (remainder_any _ _ _).mono ?_; rintro e w' ⟨rfl, rfl⟩)
    go_ret
    exact ⟨ret_int (by simp [two]), rfl⟩
  · go_enter Tryz.func111, Tryz.ntmps111
    go_wp2_with fail
    go_ret
    exact ⟨ret_int (by simp [two, ← wr32_is]), rfl⟩
  · go_enter Tryz.func111, Tryz.ntmps111
    go_wp2_with fail
    go_ret
    exact ⟨ret_int (by simp [two, ← wr32_is]), rfl⟩
  · go_enter Tryz.func111, Tryz.ntmps111
    go_wp2_with (go_at_call 121; refine (truth_any _ _).mono ?_; rintro e w' ⟨rfl, rfl⟩)
    go_ret
    exact ⟨ret_int (by simp [two]), rfl⟩
  · go_enter Tryz.func111, Tryz.ntmps111
    go_wp2_with (go_at_call 121; refine (truth_any _ _).mono ?_; rintro e w' ⟨rfl, rfl⟩)
    go_ret
    exact ⟨ret_int (by simp [two]), rfl⟩
  · cases h : (a != 0) <;>
    · go_enter Tryz.func111, Tryz.ntmps111
      go_wp2_with (go_at_call 121; refine (truth_any _ _).mono ?_; rintro e w' ⟨rfl, rfl⟩)
      go_ret
      exact ⟨ret_int (by simp [two, h]), rfl⟩
  · cases h : (a != 0) <;>
    · go_enter Tryz.func111, Tryz.ntmps111
      go_wp2_with (go_at_call 121; refine (truth_any _ _).mono ?_; rintro e w' ⟨rfl, rfl⟩)
      go_ret
      exact ⟨ret_int (by simp [two, h]), rfl⟩

set_option maxHeartbeats 800000 in
theorem l1Two_any (k a b : Int) (w : World) (hk : 5 ≤ k ∧ k ≤ 13) (ha : In32 a) (hb : In32 b) : Calls Tryz.prog 78 #[.int .i64 k, .int .i64 a, .int .i64 b] w fun e w' => e = .returned (.int .i64 (two k a b)) ∧ w' = w := by
  obtain ⟨m1, m2⟩ := mul32 ha hb
  obtain ⟨q1, q2⟩ := tdiv32 (b := b) ha
  obtain ⟨a1, a2⟩ := ha
  obtain ⟨b1, b2⟩ := hb
  rcases pair_cases hk with rfl | rfl | rfl | rfl | rfl | rfl | rfl | rfl | rfl
  · clear q1 q2
    go_enter Tryz.func78, Tryz.ntmps78
    go_wp2_with (go_at_call 76; refine (l1Wrap_any _ _).mono ?_; rintro e w' ⟨rfl, rfl⟩)
    go_ret
    exact ⟨ret_int (by simp [two, quo, rest]), rfl⟩
  · clear m1 m2
    by_cases h : b = 0
    · subst h
      go_enter Tryz.func78, Tryz.ntmps78
      go_wp2_with (go_at_call 76; refine (l1Wrap_any _ _).mono ?_; rintro e w' ⟨rfl, rfl⟩)
      go_ret
      exact ⟨ret_int (by simp [two, quo, rest]), rfl⟩
    · have h' : (b == 0) = false := by simp [h]
      go_enter Tryz.func78, Tryz.ntmps78
      go_wp2_with (go_at_call 76; refine (l1Wrap_any _ _).mono ?_; rintro e w' ⟨rfl, rfl⟩)
      go_ret
      exact ⟨ret_int (by simp [two, quo, rest, h]), rfl⟩
  · clear m1 m2
    by_cases h : b = 0
    · subst h
      go_enter Tryz.func78, Tryz.ntmps78
      go_wp2_with (go_at_call 76; refine (l1Wrap_any _ _).mono ?_; rintro e w' ⟨rfl, rfl⟩)
      go_ret
      exact ⟨ret_int (by simp [two, quo, rest]), rfl⟩
    · have h' : (b == 0) = false := by simp [h]
      go_enter Tryz.func78, Tryz.ntmps78
      go_wp2_with (go_at_call 76; refine (l1Wrap_any _ _).mono ?_; rintro e w' ⟨rfl, rfl⟩)
      go_ret
      exact ⟨ret_int (by simp [two, quo, rest, h]), rfl⟩
  · clear m1 m2 q1 q2
    go_enter Tryz.func78, Tryz.ntmps78
    go_wp2_with (go_at_call 76; refine (l1Wrap_any _ _).mono ?_; rintro e w' ⟨rfl, rfl⟩)
    go_ret
    exact ⟨ret_int (by simp [two, quo, rest]), rfl⟩
  · clear m1 m2 q1 q2
    go_enter Tryz.func78, Tryz.ntmps78
    go_wp2_with (go_at_call 76; refine (l1Wrap_any _ _).mono ?_; rintro e w' ⟨rfl, rfl⟩)
    go_ret
    exact ⟨ret_int (by simp [two, quo, rest]), rfl⟩
  · clear m1 m2 q1 q2
    go_enter Tryz.func78, Tryz.ntmps78
    go_wp2_with (go_at_call 77; refine (l1Bit_any _ _).mono ?_; rintro e w' ⟨rfl, rfl⟩)
    go_ret
    exact ⟨ret_int (by simp [two, quo, rest]), rfl⟩
  · clear m1 m2 q1 q2
    go_enter Tryz.func78, Tryz.ntmps78
    go_wp2_with (go_at_call 77; refine (l1Bit_any _ _).mono ?_; rintro e w' ⟨rfl, rfl⟩)
    go_ret
    exact ⟨ret_int (by simp [two, quo, rest]), rfl⟩
  · clear m1 m2 q1 q2
    cases h : (a != 0) <;>
    · go_enter Tryz.func78, Tryz.ntmps78
      go_wp2_with (go_at_call 77; refine (l1Bit_any _ _).mono ?_; rintro e w' ⟨rfl, rfl⟩)
      go_ret
      exact ⟨ret_int (by simp [two, quo, rest, h]), rfl⟩
  · clear m1 m2 q1 q2
    cases h : (a != 0) <;>
    · go_enter Tryz.func78, Tryz.ntmps78
      go_wp2_with (go_at_call 77; refine (l1Bit_any _ _).mono ?_; rintro e w' ⟨rfl, rfl⟩)
      go_ret
      exact ⟨ret_int (by simp [two, quo, rest, h]), rfl⟩
end Go.Proofs.YtbpfonmkbbnkcaaGreatDoor
