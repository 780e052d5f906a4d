/- The walks for code: ops in memory, comparisons. -/
import Derived.Test.YtcajjngjojegfaaGreatDoorRows
import Derived.Test.YtcajjngjojegfaaGreatDoorBunA
import Derived.WalkKit
import Derived.ProofKit
import Derived.Handy
import Derived.PlainAid
import Derived.WalkLawsBesides
import Derived.Deep.RegionHeld3
import Derived.BigQuiet
import Derived.Deep.RegionWith
namespace Go.Proofs.YtcajjngjojegfaaGreatDoor
open Go.RowKit Go.PlainAid

theorem eqOp_any (x y x' y' : Int) (w : World) : Calls Tryz.prog 66 #[.agg #[.int .i64 x, .int .i64 y], .agg #[.int .i64 x', .int .i64 y']] w fun e w' => e = .returned (.bool (decide (x = x' ∧ y = y'))) ∧ Below w.heap.size w w' := by
  by_cases h1 : x = x'
  · subst h1
    by_cases h2 : y = y'
    · subst h2
      go_enter Tryz.func66, Tryz.ntmps66
      go_wp2
      go_ret
      refine ⟨ret_bool (by simp), ?_⟩
      go_grown
    · have h : (y != y') = true := by simp [h2]
      go_enter Tryz.func66, Tryz.ntmps66
      go_wp2
      go_ret
      refine ⟨ret_bool (by simp [h2]), ?_⟩
      go_grown
  · have h : (x != x') = true := by simp [h1]
    go_enter Tryz.func66, Tryz.ntmps66
    go_wp2
    go_ret
    refine ⟨ret_bool (by simp [h1]), ?_⟩
    go_grown

theorem infoOp : (Tryz.prog.info? 82).map (fun i => (i.zero, i.size, i.bytes)) = some (some (.agg #[.int .i64 0, .int .i64 0]), 2, 16) := by kernel_rfl

/-- the slice (a, n) reads in w as these ops -/
def IsOps (w : World) (a : Option Addr) (n : Nat) (zs : List (Int × Int)) : Prop :=
  zs.length = n ∧ (n = 0 ∨ ∃ b off, a = some ⟨b, off, none⟩ ∧ b < w.heap.size ∧ ∀ i, i < n → w.cell? ⟨b, off + i * 2, none⟩ = some (.int .i64 (zs.getD i (0, 0)).1) ∧ w.cell? ⟨b, off + i * 2 + 1, none⟩ = some (.int .i64 (zs.getD i (0, 0)).2))

/-- the flat cells of ops -/
def opCell (zs : List (Int × Int)) (j : Nat) : Value := if j % 2 = 0 then .int .i64 (zs.getD (j / 2) (0, 0)).1 else .int .i64 (zs.getD (j / 2) (0, 0)).2
theorem opCell_even' (zs : List (Int × Int)) (k : Nat) : opCell zs (k * 2) = .int .i64 (zs.getD k (0, 0)).1 := by
  unfold opCell; rw [if_pos (by omega), show k * 2 / 2 = k from by omega]
theorem opCell_odd' (zs : List (Int × Int)) (k : Nat) : opCell zs (k * 2 + 1) = .int .i64 (zs.getD k (0, 0)).2 := by
  unfold opCell; rw [if_neg (by omega), show (k * 2 + 1) / 2 = k from by omega]
theorem opCell_even (zs : List (Int × Int)) (k : Nat) (h : k < zs.length) : opCell zs (k * 2) = .int .i64 zs[k].1 := by
  rw [opCell_even']; simp [h]
theorem opCell_odd (zs : List (Int × Int)) (k : Nat) (h : k < zs.length) : opCell zs (k * 2 + 1) = .int .i64 zs[k].2 := by
  rw [opCell_odd']; simp [h]

/-- two slices that read as the same ops are the same -/
theorem eqOpS_same (a a' : Option Addr) (n cap cap' : Nat) (zs : List (Int × Int)) (w : World) (hn : n ≤ 1048576) (hz : IsOps w a n zs) (hz' : IsOps w a' n zs) :
    Calls Tryz.prog 39 #[.slice a n cap, .slice a' n cap'] w fun e w' => e = .returned (.bool true) ∧ Below w.heap.size w w' := by
  obtain ⟨hlen, hcells⟩ := hz
  obtain ⟨_, hcells'⟩ := hz'
  go_enter Tryz.func39, Tryz.ntmps39
  go_wp2
  go_loopw [5] (fun i wr => ∃ k : Nat, k ≤ n ∧ i = .int .i64 k ∧ Below w.heap.size w wr) (fun i _ => n - (intOf i).toNat)
  case atStart => exact ⟨0, Nat.zero_le _, rfl, Below.refl _ _⟩
  case round =>
    obtain ⟨k, hk, rfl, hbel⟩ := hrel
    by_cases hlt : k < n
    · rcases hcells with h0 | ⟨b, off, rfl, hb, hc⟩
      · omega
      rcases hcells' with h0 | ⟨b', off', rfl, hb', hc'⟩
      · omega
      have c0 := (hbel.cell (p := ⟨b, off + k * 2, none⟩) hb).trans (hc k hlt).1
      have c1 := (hbel.cell (p := ⟨b, off + k * 2 + 1, none⟩) hb).trans (hc k hlt).2
      have d0 := (hbel.cell (p := ⟨b', off' + k * 2, none⟩) hb').trans (hc' k hlt).1
      have d1 := (hbel.cell (p := ⟨b', off' + k * 2 + 1, none⟩) hb').trans (hc' k hlt).2
      have hbr : b < wr.heap.size := by have := hbel.size; omega
      have hbr' : b' < wr.heap.size := by have := hbel.size; omega
      clear hc hc'
      go_wp2
      go_region_held3 (fun w' => w'.cell? ⟨b, off + k * 2, none⟩ = some (.int .i64 (zs.getD k (0, 0)).1) ∧ w'.cell? ⟨b, off + k * 2 + 1, none⟩ = some (.int .i64 (zs.getD k (0, 0)).2) ∧ w'.cell? ⟨b', off' + k * 2, none⟩ = some (.int .i64 (zs.getD k (0, 0)).1) ∧ w'.cell? ⟨b', off' + k * 2 + 1, none⟩ = some (.int .i64 (zs.getD k (0, 0)).2)) (simp [go_sem, *])
        (first | (go_at_call 66; refine (eqOp_any _ _ _ _ _).mono ?_; rintro e w' ⟨rfl, hb1⟩; replace hb1 := undrew hb1; obtain ⟨hc1, hf1⟩ := bcell hb1))
      go_wp2
      go_roundw
      case rel => exact ⟨k + 1, by omega, by go_num, hbel.trans (hb1.mono hbel.size)⟩
      case measure => simp [intOf]; omega
    · go_wp2
      go_ret
      exact ⟨rfl, hbel⟩
end Go.Proofs.YtcajjngjojegfaaGreatDoor

/- What CodeDeep comes to, in the program and in the model, for every code and every number of places. -/
namespace Go.Proofs.YtcajjngjojegfaaGreatDoor
open Go.RowKit Go.PlainAid

/-- how many numbers an op takes -/
def tk (k : Int) : Int := if k = 1 ∨ k = 2 then 0 else if k = 3 ∨ k = 4 then 1 else 2
/-- whether an op is one -/
def okB (k n slots : Int) : Bool :=
  if k = 1 then decide (-2147483648 ≤ n ∧ n ≤ 2147483647) else if k = 2 then decide (0 ≤ n ∧ n < slots)
  else if k = 3 ∨ k = 4 then decide (n = 0) else decide ((5 ≤ k ∧ k ≤ 13) ∧ n = 0)

theorem isAhead_any (k : Int) (w : World) : Calls Tryz.prog 86 #[.int .i64 k] w fun e w' => e = .returned (.bool (decide (k = 3 ∨ k = 4))) ∧ w' = w := by
  by_cases h : k = 3
  · subst h
    go_enter Tryz.func86, Tryz.ntmps86
    go_wp2
    go_ret
    exact ⟨rfl, rfl⟩
  · have h' : (k == 3) = false := by simp [h]
    go_enter Tryz.func86, Tryz.ntmps86
    go_wp2
    go_ret
    exact ⟨ret_bool (by simp [h]; by_cases h4 : k = 4 <;> simp [h4]), rfl⟩
theorem isPair_any (k : Int) (w : World) : Calls Tryz.prog 87 #[.int .i64 k] w fun e w' => e = .returned (.bool (decide (5 ≤ k ∧ k ≤ 13))) ∧ w' = w := by
  by_cases h : 5 ≤ k
  · go_enter Tryz.func87, Tryz.ntmps87
    go_wp2
    go_ret
    exact ⟨ret_bool (by simp [h]), rfl⟩
  · go_enter Tryz.func87, Tryz.ntmps87
    go_wp2
    go_ret
    exact ⟨ret_bool (by simp; omega), rfl⟩
/-- a number in 32 bits -/
def wr32 (n : Int) : Int := (n + 2147483648) % 4294967296 - 2147483648
theorem wr32_of (n r : Int) (h : n.tmod 4294967296 = r) : (-4294967296 < r ∧ r < 4294967296) ∧ wr32 n = if r < -2147483648 then r + 4294967296 else if 2147483647 < r then r - 4294967296 else r := by
  have t1 : n.tmod 4294967296 = if 0 ≤ n then n % 4294967296 else -((-n) % 4294967296) := by
    split
    · exact Int.tmod_eq_emod_of_nonneg (by omega)
    · rw [show n = -(-n) from by omega, Int.neg_tmod, Int.tmod_eq_emod_of_nonneg (by omega)]; simp
  rw [t1] at h
  unfold wr32
  split at h <;> split <;> (try split) <;> omega
theorem l1Wrap_any (n : Int) (w : World) : Calls Tryz.prog 76 #[.int .i64 n] w fun e w' => e = .returned (.int .i64 (wr32 n)) ∧ w' = w := by
  obtain ⟨r, hr⟩ : ∃ r, n.tmod 4294967296 = r := ⟨_, rfl⟩
  obtain ⟨⟨h1, h2⟩, h3⟩ := wr32_of n r hr
  rw [h3]
  clear h3
  by_cases g1 : r < -2147483648
  · rw [if_pos g1]
    go_enter Tryz.func76, Tryz.ntmps76
    go_wp2
    go_ret
    exact ⟨rfl, rfl⟩
  rw [if_neg g1]
  by_cases g2 : 2147483647 < r
  · rw [if_pos g2]
    go_enter Tryz.func76, Tryz.ntmps76
    go_wp2
    go_ret
    exact ⟨rfl, rfl⟩
  · rw [if_neg g2]
    go_enter Tryz.func76, Tryz.ntmps76
    go_wp2
    go_ret
    exact ⟨rfl, rfl⟩

theorem is32_any (n : Int) (w : World) : Calls Tryz.prog 85 #[.int .i64 n] w fun e w' => e = .returned (.bool (decide (-2147483648 ≤ n ∧ n ≤ 2147483647))) ∧ w' = w := by
  by_cases h : -2147483648 ≤ n
  · go_enter Tryz.func85, Tryz.ntmps85
    go_wp2
    go_ret
    exact ⟨ret_bool (by simp [h]), rfl⟩
  · go_enter Tryz.func85, Tryz.ntmps85
    go_wp2
    go_ret
    exact ⟨ret_bool (by simp; omega), rfl⟩
theorem opTakes_any (k n slots : Int) (w : World) : Calls Tryz.prog 59 #[.agg #[.int .i64 k, .int .i64 n], .int .i64 slots] w fun e w' =>
    e = .returned (.tuple #[.int .i64 (tk k), .bool (okB k n slots)]) ∧ Below w.heap.size w w' := by
  by_cases h1 : k = 1
  · subst h1
    go_enter Tryz.func59, Tryz.ntmps59
    go_wp2_with (go_at_call 85; refine (is32_any _ _).mono ?_; rintro e w' ⟨rfl, rfl⟩)
    go_ret2
    exact ⟨by simp [tk, okB], by go_grown⟩
  by_cases h2 : k = 2
  · subst h2
    by_cases g : 0 ≤ n
    · go_enter Tryz.func59, Tryz.ntmps59
      go_wp2
      go_quiet (fail)
      go_wp2
      go_ret2
      exact ⟨by simp [tk, okB, g], drewN (by go_grown) _⟩
    · have g' : decide (0 ≤ n) = false := by simp; omega
      go_enter Tryz.func59, Tryz.ntmps59
      go_wp2
      go_quiet (fail)
      go_wp2
      go_ret2
      exact ⟨by simp [tk, okB]; omega, drewN (by go_grown) _⟩
  have e1 : (k == 1) = false := by simp [h1]
  have e2 : (k == 2) = false := by simp [h2]
  by_cases h3 : k = 3 ∨ k = 4
  · have e3 : decide (k = 3 ∨ k = 4) = true := by simp [h3]
    have ht : tk k = 1 := by simp [tk, h1, h2, h3]
    have ho : okB k n slots = (n == 0) := by simp only [okB, if_neg h1, if_neg h2, if_pos h3]; by_cases h : n = 0 <;> simp [h]
    rw [ht, ho]
    clear ht ho h3
    go_enter Tryz.func59, Tryz.ntmps59
    go_wp2_with (go_at_call 86; refine (isAhead_any _ _).mono ?_; rintro e w' ⟨rfl, rfl⟩)
    go_quiet (fail)
    go_wp2
    go_ret2
    exact ⟨rfl, drewN (by go_grown) _⟩
  · have e3 : decide (k = 3 ∨ k = 4) = false := by simp [h3]
    have ht : tk k = 2 := by simp [tk, h1, h2, h3]
    by_cases g : 5 ≤ k ∧ k ≤ 13
    · have g' : decide (5 ≤ k ∧ k ≤ 13) = true := by simp [g]
      have ho : okB k n slots = (n == 0) := by simp only [okB, if_neg h1, if_neg h2, if_neg h3]; by_cases h : n = 0 <;> simp [h, g]
      rw [ht, ho]
      clear ht ho h3 g
      go_enter Tryz.func59, Tryz.ntmps59
      go_wp2_with (go_at_call 86; refine (isAhead_any _ _).mono ?_; rintro e w' ⟨rfl, rfl⟩)
      go_quiet ((go_at_call 87; exact Calls.quiet_of_same (isPair_any _ _)))
      go_wp2
      go_ret2
      exact ⟨rfl, drewN (by go_grown) _⟩
    · have g' : decide (5 ≤ k ∧ k ≤ 13) = false := by simp [g]
      have ho : okB k n slots = false := by simp only [okB, if_neg h1, if_neg h2, if_neg h3]; simp; omega
      rw [ht, ho]
      clear ht ho h3 g
      go_enter Tryz.func59, Tryz.ntmps59
      go_wp2_with (go_at_call 86; refine (isAhead_any _ _).mono ?_; rintro e w' ⟨rfl, rfl⟩)
      go_quiet ((go_at_call 87; exact Calls.quiet_of_same (isPair_any _ _)))
      go_wp2
      go_ret2
      exact ⟨rfl, drewN (by go_grown) _⟩

/-- one op more: how many stand, and stood at most -/
def stepOp (slots : Int) (op : Int × Int) (s : Int × Int) : Option (Int × Int) :=
  if okB op.1 op.2 slots = true ∧ tk op.1 ≤ s.1 then some (s.1 + (1 - tk op.1), max s.2 (s.1 + (1 - tk op.1))) else none
/-- the first k ops -/
def deepTo (slots : Int) (zs : List (Int × Int)) : Nat → Option (Int × Int)
  | 0 => some (0, 0)
  | k + 1 => (deepTo slots zs k).bind (stepOp slots (zs.getD k (0, 0)))
/-- how many numbers stand at most; -1, if code is not ok -/
def deepOf (slots : Int) (zs : List (Int × Int)) : Int :=
  if 0 ≤ slots ∧ slots ≤ 16 ∧ zs.length ≤ 24 then (match deepTo slots zs zs.length with | some (1, m) => m | _ => -1) else -1

theorem deepTo_none {slots : Int} {zs : List (Int × Int)} {k n : Nat} (h : k ≤ n) (hk : deepTo slots zs k = none) : deepTo slots zs n = none := by
  induction n with
  | zero => have : k = 0 := by omega
            subst this; exact hk
  | succ n ih =>
    by_cases e : k = n + 1
    · subst e; exact hk
    · simp [deepTo, ih (by omega)]
theorem tk_range (k : Int) : 0 ≤ tk k ∧ tk k ≤ 2 := by unfold tk; split <;> (try split) <;> omega
theorem deepTo_range {slots : Int} {zs : List (Int × Int)} {k : Nat} {d m : Int} (h : deepTo slots zs k = some (d, m)) : 0 ≤ d ∧ d ≤ k ∧ 0 ≤ m ∧ m ≤ k := by
  induction k generalizing d m with
  | zero => simp [deepTo] at h; omega
  | succ k ih =>
    simp only [deepTo, Option.bind_eq_some_iff] at h
    obtain ⟨⟨d', m'⟩, h1, h2⟩ := h
    have := ih h1
    have t := tk_range (zs.getD k (0, 0)).1
    unfold stepOp at h2
    split at h2
    · simp only [Option.some.injEq, Prod.mk.injEq] at h2
      rename_i hh
      have := hh.2
      simp only at this
      omega
    · cases h2
theorem deepTo_no {slots : Int} {zs : List (Int × Int)} {k : Nat} {d m : Int} (h : deepTo slots zs k = some (d, m)) (hk : k < zs.length) (hs : stepOp slots (zs.getD k (0, 0)) (d, m) = none) : deepOf slots zs = -1 := by
  have h1 : deepTo slots zs (k + 1) = none := by simp only [deepTo, h]; exact hs
  have h2 := deepTo_none (n := zs.length) (by omega) h1
  unfold deepOf
  split
  · rw [h2]
  · rfl

set_option maxHeartbeats 800000 in
theorem implDeep_any (a : Option Addr) (n cap : Nat) (slots : Int) (zs : List (Int × Int)) (w : World) (hn : n ≤ 1048576) (hz : IsOps w a n zs) :
    Calls Tryz.prog 27 #[.slice a n cap, .int .i64 slots] w fun e w' => e = .returned (.int .i64 (deepOf slots zs)) ∧ Below w.heap.size w w' := by
  obtain ⟨hlen, hcells⟩ := hz
  by_cases g1 : slots < 0
  · have hd : deepOf slots zs = -1 := by unfold deepOf; rw [if_neg (by omega)]
    rw [hd]; clear hd
    go_enter Tryz.func27, Tryz.ntmps27
    go_wp2_with fail
    go_ret
    exact ⟨rfl, Below.refl _ _⟩
  by_cases g2 : 16 < slots
  · have hd : deepOf slots zs = -1 := by unfold deepOf; rw [if_neg (by omega)]
    rw [hd]; clear hd
    go_enter Tryz.func27, Tryz.ntmps27
    go_wp2_with fail
    go_ret
    exact ⟨rfl, Below.refl _ _⟩
  by_cases g3 : 24 < n
  · have hd : deepOf slots zs = -1 := by unfold deepOf; rw [if_neg (by omega)]
    rw [hd]; clear hd
    go_enter Tryz.func27, Tryz.ntmps27
    go_wp2_with fail
    go_ret
    exact ⟨rfl, Below.refl _ _⟩
  obtain ⟨D, hD⟩ : ∃ D, deepOf slots zs = D := ⟨_, rfl⟩
  have HD : Hid (deepOf slots zs = D) := hD
  rw [hD]; clear hD
  go_enter Tryz.func27, Tryz.ntmps27
  go_wp2_with fail
  go_loopw [5, 6, 24] (fun vd vm i wr => ∃ (k : Nat) (d m : Int), k ≤ n ∧ i = .int .i64 k ∧ vd = .int .i64 d ∧ vm = .int .i64 m ∧ Hid (deepTo slots zs k = some (d, m)) ∧ Below w.heap.size w wr) (fun _ _ i _ => n - (intOf i).toNat)
  case atStart => exact ⟨0, 0, 0, Nat.zero_le _, rfl, rfl, rfl, rfl, Below.refl _ _⟩
  case round =>
    obtain ⟨k, d, m, hk, rfl, rfl, rfl, hd, hbel⟩ := hrel
    obtain ⟨r1, r2, r3, r4⟩ := deepTo_range hd.out
    by_cases hlt : k < n
    · rcases hcells with h0 | ⟨b, off, rfl, hb, hc⟩
      · omega
      have c0 := (hbel.cell (p := ⟨b, off + k * 2, none⟩) hb).trans (hc k hlt).1
      have c1 := (hbel.cell (p := ⟨b, off + k * 2 + 1, none⟩) hb).trans (hc k hlt).2
      obtain ⟨⟨x, y⟩, hxy⟩ : ∃ xy, zs.getD k (0, 0) = xy := ⟨_, rfl⟩
      rw [hxy] at c0 c1
      have hbs := hbel.size
      have HX : Hid (zs.getD k (0, 0) = (x, y)) := hxy
      obtain ⟨t1, t2⟩ := tk_range x
      clear hc hxy
      go_wp2_with (go_at_call 59; refine (opTakes_any _ _ _ _).mono ?_; rintro e w' ⟨rfl, hb1⟩)
      · have hs : stepOp slots (zs.getD k (0, 0)) (d, m) = none := by
          rw [HX.out]; unfold stepOp; rw [if_neg (by rintro ⟨_, h⟩; simp at h; omega)]
        have hD : D = -1 := HD.out.symm.trans (deepTo_no hd.out (by omega) hs)
        go_ret
        exact ⟨ret_int hD.symm, (hbel.alloc hbs _).trans (hb1.mono (by simp; omega))⟩
      · have hs : stepOp slots (zs.getD k (0, 0)) (d, m) = some (d + (1 - tk x), if m < d + (1 - tk x) then d + (1 - tk x) else m) := by
          rw [HX.out]; unfold stepOp; rw [if_pos ⟨by assumption, by assumption⟩]
          simp only [Option.some.injEq, Prod.mk.injEq, true_and]
          split <;> omega
        go_roundw
        case rel => exact ⟨k + 1, _, _, by omega, by go_num, rfl, rfl, by show deepTo _ _ _ = _; simp only [deepTo, hd.out]; exact hs, (hbel.alloc hbs _).trans (hb1.mono (by simp; omega))⟩
        case measure => simp [intOf]; omega
      · have hs : stepOp slots (zs.getD k (0, 0)) (d, m) = none := by
          rw [HX.out]; unfold stepOp; rw [if_neg (by rintro ⟨h, _⟩; contradiction)]
        have hD : D = -1 := HD.out.symm.trans (deepTo_no hd.out (by omega) hs)
        go_ret
        exact ⟨ret_int hD.symm, (hbel.alloc hbs _).trans (hb1.mono (by simp; omega))⟩
    · have : k = n := by omega
      subst this
      have hD : D = if d = 1 then m else -1 := by
        rw [← HD.out, deepOf, if_pos (by omega), hlen, hd.out]
        by_cases h1 : d = 1
        · subst h1; rfl
        · rw [if_neg h1]
          split
          · rename_i h; simp at h; omega
          · rfl
      have HD2 : Hid (D = if d = 1 then m else -1) := hD
      clear hD
      go_wp2_with fail
      · have h1 : (d != 1) = true := by assumption
        simp at h1
        have hD := HD2.out
        rw [if_neg h1] at hD
        go_ret
        exact ⟨ret_int hD.symm, hbel⟩
      · have h1 : (d != 1) = false := by assumption
        simp at h1
        have hD := HD2.out
        rw [if_pos h1] at hD
        go_ret
        exact ⟨ret_int hD.symm, hbel⟩
end Go.Proofs.YtcajjngjojegfaaGreatDoor

/- What signs come to: in the program (32 bits) and in the model (int). -/
namespace Go.Proofs.YtcajjngjojegfaaGreatDoor
open Go.RowKit Go.PlainAid
set_option linter.unusedSimpArgs false
set_option linter.unusedVariables false

theorem wr32_is (n : Int) : wrap32 n = wr32 n := by unfold wrap32 wr32; rfl
def bit (b : Bool) : Int := if b then 1 else 0
def quo (a b : Int) : Int := if b = 0 then 0 else wr32 (a.tdiv b)
def rest (a b : Int) : Int := if b = 0 then 0 else a.tmod b
/-- what a sign makes of two numbers -/
def two (k a b : Int) : Int :=
  if k = 5 then wr32 (a * b) else if k = 6 then quo a b else if k = 7 then rest a b
  else if k = 8 then wr32 (a + b) else if k = 9 then wr32 (a - b) else if k = 10 then bit (decide (a < b)) else if k = 11 then bit (a == b)
  else if k = 12 then bit (a != 0 && b != 0) else bit (a != 0 || b != 0)
def one (k a : Int) : Int := if k = 3 then wr32 (-a) else bit (a == 0)

def In32 (n : Int) : Prop := -2147483648 ≤ n ∧ n ≤ 2147483647
theorem in32_wr (n : Int) : In32 (wr32 n) := by unfold In32 wr32; omega
theorem in32_bit (b : Bool) : In32 (bit b) := by unfold In32 bit; split <;> omega
theorem wr32_in {n : Int} (h : In32 n) : wr32 n = n := by unfold In32 at h; unfold wr32; omega
theorem mul32 {a b : Int} (ha : In32 a) (hb : In32 b) : -4611686018427387904 ≤ a * b ∧ a * b ≤ 4611686018427387904 := by
  obtain ⟨a1, a2⟩ := ha; obtain ⟨b1, b2⟩ := hb
  have h : (a * b).natAbs ≤ 2147483648 * 2147483648 := by
    rw [Int.natAbs_mul]; exact Nat.mul_le_mul (by omega) (by omega)
  omega
theorem tdiv32 {a b : Int} (ha : In32 a) : -2147483648 ≤ a.tdiv b ∧ a.tdiv b ≤ 2147483648 := by
  obtain ⟨a1, a2⟩ := ha
  have h : (a.tdiv b).natAbs ≤ a.natAbs := by rw [Int.natAbs_tdiv]; exact Nat.div_le_self _ _
  omega
theorem tmod32 {a b : Int} (ha : In32 a) : In32 (a.tmod b) := by
  obtain ⟨a1, a2⟩ := ha
  have h : (a.tmod b).natAbs ≤ a.natAbs := by rw [Int.natAbs_tmod]; exact Nat.mod_le _ _
  have h2 : 0 ≤ a → 0 ≤ a.tmod b := fun h => Int.tmod_nonneg _ h
  have h3 : a ≤ 0 → a.tmod b ≤ 0 := fun h => by
    have := Int.tmod_nonneg (a := -a) b (by omega)
    rw [Int.neg_tmod] at this; omega
  unfold In32
  by_cases h0 : 0 ≤ a
  · have := h2 h0; omega
  · have := h3 (by omega); omega
theorem in32_two {k a b : Int} (ha : In32 a) : In32 (two k a b) := by
  unfold two quo rest
  repeat' split
  all_goals first | exact in32_wr _ | exact in32_bit _ | exact tmod32 ha | (unfold In32; omega)
theorem in32_one (k a : Int) : In32 (one k a) := by
  unfold one; split
  · exact in32_wr _
  · exact in32_bit _

theorem truth_any (b : Bool) (w : World) : Calls Tryz.prog 121 #[.bool b] w fun e w' => e = .returned (.int .i32 (bit b)) ∧ w' = w := by
  cases b <;>
  · go_enter Tryz.func121, Tryz.ntmps121
    go_wp2
    go_ret
    exact ⟨rfl, rfl⟩
theorem l1Bit_any (b : Bool) (w : World) : Calls Tryz.prog 77 #[.bool b] w fun e w' => e = .returned (.int .i64 (bit b)) ∧ w' = w := by
  cases b <;>
  · go_enter Tryz.func77, Tryz.ntmps77
    go_wp2
    go_ret
    exact ⟨rfl, rfl⟩
theorem quotient_any (a b : Int) (w : World) : Calls Tryz.prog 122 #[.int .i32 a, .int .i32 b] w fun e w' => e = .returned (.int .i32 (quo a b)) ∧ w' = w := by
  unfold quo
  by_cases h : b = 0
  · subst h
    go_enter Tryz.func122, Tryz.ntmps122
    go_wp2
    go_ret
    exact ⟨rfl, rfl⟩
  · rw [if_neg h]
    go_enter Tryz.func122, Tryz.ntmps122
    go_wp2
    go_ret
    exact ⟨ret_int (by rw [← wr32_is]), rfl⟩
theorem remainder_any (a b : Int) (w : World) : Calls Tryz.prog 123 #[.int .i32 a, .int .i32 b] w fun e w' => e = .returned (.int .i32 (rest a b)) ∧ w' = w := by
  unfold rest
  by_cases h : b = 0
  · subst h
    go_enter Tryz.func123, Tryz.ntmps123
    go_wp2
    go_ret
    exact ⟨rfl, rfl⟩
  · rw [if_neg h]
    go_enter Tryz.func123, Tryz.ntmps123
    go_wp2
    go_ret
    exact ⟨rfl, rfl⟩

theorem aheadValue_any (k a : Int) (w : World) (hk : k = 3 ∨ k = 4) : Calls Tryz.prog 110 #[.int .i64 k, .int .i32 a] w fun e w' => e = .returned (.int .i32 (one k a)) ∧ w' = w := by
  rcases hk with rfl | rfl
  · go_enter Tryz.func110, Tryz.ntmps110
    go_wp2
    go_ret
    exact ⟨ret_int (by rw [one, if_pos rfl, ← wr32_is]), rfl⟩
  · go_enter Tryz.func110, Tryz.ntmps110
    go_wp2_with (go_at_call 121; refine (truth_any _ _).mono ?_; rintro e w' ⟨rfl, rfl⟩)
    go_ret
    exact ⟨rfl, rfl⟩

theorem pair_cases {k : Int} (h : 5 ≤ k ∧ k ≤ 13) : k = 5 ∨ k = 6 ∨ k = 7 ∨ k = 8 ∨ k = 9 ∨ k = 10 ∨ k = 11 ∨ k = 12 ∨ k = 13 := by omega

set_option maxHeartbeats 800000 in
theorem pairValue_any (k a b : Int) (w : World) (hk : 5 ≤ k ∧ k ≤ 13) : Calls Tryz.prog 111 #[.int .i64 k, .int .i32 a, .int .i32 b] w fun e w' => e = .returned (.int .i32 (two k a b)) ∧ w' = w := by
  rcases pair_cases hk with rfl | rfl | rfl | rfl | rfl | rfl | rfl | rfl | rfl
  · go_enter Tryz.func111, Tryz.ntmps111
    go_wp2_with fail
    go_ret
    exact ⟨ret_int (by simp [two, ← wr32_is]), rfl⟩
  · go_enter Tryz.func111, Tryz.ntmps111
    go_wp2_with (go_at_call 122; refine (quotient_any _ _ _).mono ?_; rintro e w' ⟨rfl, rfl⟩)
    go_ret
    exact ⟨ret_int (by simp [two]), rfl⟩
  · go_enter Tryz.func111, Tryz.ntmps111
    go_wp2_with (go_at_call 123; refine (remainder_any _ _ _).mono ?_; rintro e w' ⟨rfl, rfl⟩)
    go_ret
    exact ⟨ret_int (by simp [two]), rfl⟩
  · go_enter Tryz.func111, Tryz.ntmps111
    go_wp2_with fail
    go_ret
    exact ⟨ret_int (by simp [two, ← wr32_is]), rfl⟩
  · go_enter Tryz.func111, Tryz.ntmps111
    go_wp2_with fail
    go_ret
    exact ⟨ret_int (by simp [two, ← wr32_is]), rfl⟩
  · go_enter Tryz.func111, Tryz.ntmps111
    go_wp2_with (go_at_call 121; refine (truth_any _ _).mono ?_; rintro e w' ⟨rfl, rfl⟩)
    go_ret
    exact ⟨ret_int (by simp [two]), rfl⟩
  · go_enter Tryz.func111, Tryz.ntmps111
    go_wp2_with (go_at_call 121; refine (truth_any _ _).mono ?_; rintro e w' ⟨rfl, rfl⟩)
    go_ret
    exact ⟨ret_int (by simp [two]), rfl⟩
  · cases h : (a != 0) <;>
    · go_enter Tryz.func111, Tryz.ntmps111
      go_wp2_with (go_at_call 121; refine (truth_any _ _).mono ?_; rintro e w' ⟨rfl, rfl⟩)
      go_ret
      exact ⟨ret_int (by simp [two, h]), rfl⟩
  · cases h : (a != 0) <;>
    · go_enter Tryz.func111, Tryz.ntmps111
      go_wp2_with (go_at_call 121; refine (truth_any _ _).mono ?_; rintro e w' ⟨rfl, rfl⟩)
      go_ret
      exact ⟨ret_int (by simp [two, h]), rfl⟩

set_option maxHeartbeats 800000 in
theorem l1Two_any (k a b : Int) (w : World) (hk : 5 ≤ k ∧ k ≤ 13) (ha : In32 a) (hb : In32 b) : Calls Tryz.prog 78 #[.int .i64 k, .int .i64 a, .int .i64 b] w fun e w' => e = .returned (.int .i64 (two k a b)) ∧ w' = w := by
  obtain ⟨m1, m2⟩ := mul32 ha hb
  obtain ⟨q1, q2⟩ := tdiv32 (b := b) ha
  obtain ⟨a1, a2⟩ := ha
  obtain ⟨b1, b2⟩ := hb
  rcases pair_cases hk with rfl | rfl | rfl | rfl | rfl | rfl | rfl | rfl | rfl
  · clear q1 q2
    go_enter Tryz.func78, Tryz.ntmps78
    go_wp2_with (go_at_call 76; refine (l1Wrap_any _ _).mono ?_; rintro e w' ⟨rfl, rfl⟩)
    go_ret
    exact ⟨ret_int (by simp [two, quo, rest]), rfl⟩
  · clear m1 m2
    by_cases h : b = 0
    · subst h
      go_enter Tryz.func78, Tryz.ntmps78
      go_wp2_with (go_at_call 76; refine (l1Wrap_any _ _).mono ?_; rintro e w' ⟨rfl, rfl⟩)
      go_ret
      exact ⟨ret_int (by simp [two, quo, rest]), rfl⟩
    · have h' : (b == 0) = false := by simp [h]
      go_enter Tryz.func78, Tryz.ntmps78
      go_wp2_with (go_at_call 76; refine (l1Wrap_any _ _).mono ?_; rintro e w' ⟨rfl, rfl⟩)
      go_ret
      exact ⟨ret_int (by simp [two, quo, rest, h]), rfl⟩
  · clear m1 m2
    by_cases h : b = 0
    · subst h
      go_enter Tryz.func78, Tryz.ntmps78
      go_wp2_with (go_at_call 76; refine (l1Wrap_any _ _).mono ?_; rintro e w' ⟨rfl, rfl⟩)
      go_ret
      exact ⟨ret_int (by simp [two, quo, rest]), rfl⟩
    · have h' : (b == 0) = false := by simp [h]
      go_enter Tryz.func78, Tryz.ntmps78
      go_wp2_with (go_at_call 76; refine (l1Wrap_any _ _).mono ?_; rintro e w' ⟨rfl, rfl⟩)
      go_ret
      exact ⟨ret_int (by simp [two, quo, rest, h]), rfl⟩
  · clear m1 m2 q1 q2
    go_enter Tryz.func78, Tryz.ntmps78
    go_wp2_with (go_at_call 76; refine (l1Wrap_any _ _).mono ?_; rintro e w' ⟨rfl, rfl⟩)
    go_ret
    exact ⟨ret_int (by simp [two, quo, rest]), rfl⟩
  · clear m1 m2 q1 q2
    go_enter Tryz.func78, Tryz.ntmps78
    go_wp2_with (go_at_call 76; refine (l1Wrap_any _ _).mono ?_; rintro e w' ⟨rfl, rfl⟩)
    go_ret
    exact ⟨ret_int (by simp [two, quo, rest]), rfl⟩
  · clear m1 m2 q1 q2
    go_enter Tryz.func78, Tryz.ntmps78
    go_wp2_with (go_at_call 77; refine (l1Bit_any _ _).mono ?_; rintro e w' ⟨rfl, rfl⟩)
    go_ret
    exact ⟨ret_int (by simp [two, quo, rest]), rfl⟩
  · clear m1 m2 q1 q2
    go_enter Tryz.func78, Tryz.ntmps78
    go_wp2_with (go_at_call 77; refine (l1Bit_any _ _).mono ?_; rintro e w' ⟨rfl, rfl⟩)
    go_ret
    exact ⟨ret_int (by simp [two, quo, rest]), rfl⟩
  · clear m1 m2 q1 q2
    cases h : (a != 0) <;>
    · go_enter Tryz.func78, Tryz.ntmps78
      go_wp2_with (go_at_call 77; refine (l1Bit_any _ _).mono ?_; rintro e w' ⟨rfl, rfl⟩)
      go_ret
      exact ⟨ret_int (by simp [two, quo, rest, h]), rfl⟩
  · clear m1 m2 q1 q2
    cases h : (a != 0) <;>
    · go_enter Tryz.func78, Tryz.ntmps78
      go_wp2_with (go_at_call 77; refine (l1Bit_any _ _).mono ?_; rintro e w' ⟨rfl, rfl⟩)
      go_ret
      exact ⟨ret_int (by simp [two, quo, rest, h]), rfl⟩
end Go.Proofs.YtcajjngjojegfaaGreatDoor

/- The program's stack of 32-bit numbers: push and pop. -/
namespace Go.Proofs.YtcajjngjojegfaaGreatDoor
open Go.RowKit Go.PlainAid
set_option linter.unusedSimpArgs false
set_option linter.unusedVariables false

theorem infoI32 : (Tryz.prog.info? 21).map (fun i => (i.zero, i.size, i.bytes)) = some (some (.int .i32 0), 1, 4) := by kernel_rfl

def i32s (st : List Int) : List Value := st.reverse.map (Value.int .i32)

/-- block p is a stack that holds st, its top first -/
def Stk (p : Nat) (w : World) (st : List Int) : Prop :=
  ∃ v, w.cell? ⟨p, 0, none⟩ = some v ∧ w.frozen? ⟨p, 0, none⟩ = false ∧ w.ownsRow (p + 1) 21 1 v st.length (i32s st)

theorem Stk.lt {p : Nat} {w : World} {st : List Int} (h : Stk p w st) : p < w.heap.size := by
  obtain ⟨v, hc, _⟩ := h
  exact World.block_lt_of_cell? w _ hc

theorem one_new (w : World) (v : Value) (t : TypeId) : ∀ j u, [v][j]? = some u → (w.alloc (.cells #[v] t)).cell? ((⟨w.heap.size, 0, none⟩ : Addr).add j) = some u := by
  intro j u hj
  match j, hj with
  | 0, hj => simp at hj; subst hj; simp [Addr.add]
theorem grown_old {w w1 : World} {row : Option Nat} (hg : w.grownBy w1 row) {b : Nat} (o : Nat) (hb : b < w.heap.size) (hne : some b ≠ row) : w1.cell? ⟨b, o, none⟩ = w.cell? ⟨b, o, none⟩ ∧ w1.frozen? ⟨b, o, none⟩ = w.frozen? ⟨b, o, none⟩ :=
  ⟨World.cell?_of_block (hg.block b hb hne), World.frozen?_of_block (hg.block b hb hne)⟩
theorem i32s_cons (x : Int) (st : List Int) : i32s (x :: st) = i32s st ++ [Value.int .i32 x] := by simp [i32s]

theorem push_any (p : Nat) (x : Int) (st : List Int) (w : World) (hs : Stk p w st) (hl : st.length ≤ 1048576) :
    Calls Tryz.prog 109 #[.pointer (some ⟨p, 0, none⟩), .int .i32 x] w fun e w' => e = .returned (.tuple #[]) ∧ Stk p w' (x :: st) ∧ Below p w w' := by
  have hlt := hs.lt
  obtain ⟨v, hc, hf, hown⟩ := hs
  obtain ⟨i0, hi, hz0, hz1, hz2⟩ := info_parts infoI32
  go_enter Tryz.func109, Tryz.ntmps109
  go_wp2_with (at_builtin; refine wpList_append_own _ rfl _ _ 92 rfl (p + 1) 21 i0 (.int .i32 0) 1 4 Tryz.underlying92 hi hz0 hz1 hz2 rfl (by decide) _ _ _ rfl (hown.alloc _) ⟨w.heap.size, 0, none⟩ 1 1 [.int .i32 x] rfl rfl ?c1 ?c2 ?c3 ?c4 ?c5 ?_)
  case c1 => exact one_new _ _ _
  case c2 => intro u hu; simp at hu; subst hu; rfl
  case c3 => unfold maxLen; omega
  case c4 => omega
  case c5 => simp; omega
  · intro v' w1 hown' hgrow _
    have hne : some p ≠ v.ownBlock := fun e => by have := (hown.lt p e.symm).1; omega
    obtain ⟨g1, g2⟩ := grown_old hgrow 0 (by simp; omega) hne
    have g1' : w1.cell? ⟨p, 0, none⟩ = some v := g1.trans ((World.cell?_alloc_past _ _ _ hlt).trans hc)
    have g2' : w1.frozen? ⟨p, 0, none⟩ = false := g2.trans ((World.frozen?_alloc_past _ _ _ hlt).trans hf)
    have hb : Below p w w1 := ((Below.refl p w).alloc (by omega) _).grown hgrow (by simp; omega) (fun k hk => by have := (hown.lt k hk).1; omega)
    obtain ⟨g, cap, hv⟩ : ∃ g cap, v' = .slice (some ⟨g, 0, none⟩) (st.length + 1) cap := by
      rcases hown'.2 with ⟨_, h⟩ | ⟨g, cap, cur, h, _⟩
      · simp at h
      · exact ⟨g, cap, h⟩
    subst hv
    have HO : Hid (w1.ownsRow (p + 1) 21 1 (.slice (some ⟨g, 0, none⟩) (st.length + 1) cap) (st.length + 1) (i32s st ++ [Value.int .i32 x])) := hown'
    clear hown' hgrow hown g1 g2
    go_wp2
    go_end0
    refine ⟨rfl, ⟨_, World.cell?_setCell_same _ _ _ g1', by simpa using g2', ?_⟩, hb.setCell (by simp) _⟩
    rw [i32s_cons]
    exact ownsRow_setCell_below HO.out (by simp) _

theorem pop_any (p : Nat) (x : Int) (st : List Int) (w : World) (hs : Stk p w (x :: st)) (hl : st.length ≤ 1048576) :
    Calls Tryz.prog 61 #[.pointer (some ⟨p, 0, none⟩)] w fun e w' => e = .returned (.tuple #[.int .i32 x, .bool true]) ∧ Stk p w' st ∧ Below p w w' ∧ w'.heap.size = w.heap.size ∧ ∀ b o, b ≠ p → w'.cell? ⟨b, o, none⟩ = w.cell? ⟨b, o, none⟩ := by
  have hlt := hs.lt
  obtain ⟨v, hc, hf, hown⟩ := hs
  obtain ⟨g, cap, rfl⟩ : ∃ g cap, v = .slice (some ⟨g, 0, none⟩) (st.length + 1) cap := by
    rcases hown.2 with ⟨_, h⟩ | ⟨g, cap, cur, h, _⟩
    · simp at h
    · exact ⟨g, cap, h⟩
  rw [i32s_cons] at hown
  have hx : w.cell? ⟨g, st.length, none⟩ = some (.int .i32 x) := by
    rw [hown.cellAt st.length (by simp)]
    simp [i32s]
  have hpop := ownsRow_pop (n := st.length) (by simp [i32s]) hown
  have HP : Hid (w.ownsRow (p + 1) 21 1 (.slice (some ⟨g, 0, none⟩) st.length cap) st.length (i32s st)) := hpop
  have hcap : st.length + 1 ≤ cap := by
    rcases hown.2 with ⟨h, _⟩ | ⟨g', cap', cur, h, _, _, h3, _⟩
    · simp at h
    · simp at h; simp at h3; omega
  clear hown hpop
  go_enter Tryz.func61, Tryz.ntmps61
  go_wp2
  go_ret2
  refine ⟨rfl, ⟨_, World.cell?_setCell_same _ _ _ hc, by simpa using hf, ownsRow_setCell_below HP.out (by simp) _⟩, (Below.refl _ _).setCell (by simp) _, by simp [World.setCell], fun b o hb => World.cell?_setCell_other _ _ _ _ (by intro h; injection h with h; exact hb h.symm)⟩
end Go.Proofs.YtcajjngjojegfaaGreatDoor

/- The program's ops: what each does to the stack. -/
namespace Go.Proofs.YtcajjngjojegfaaGreatDoor
open Go.RowKit Go.PlainAid
set_option linter.unusedSimpArgs false
set_option linter.unusedVariables false

theorem Stk.alloc {p : Nat} {w : World} {st : List Int} (h : Stk p w st) (o : Obj) : Stk p (w.alloc o) st := by
  have hlt := h.lt
  obtain ⟨v, hc, hf, hown⟩ := h
  exact ⟨v, (World.cell?_alloc_past _ _ _ hlt).trans hc, (World.frozen?_alloc_past _ _ _ hlt).trans hf, hown.alloc _⟩

/-- the slice (a, n), below block B, reads in w as these numbers -/
def IsInts (B : Nat) (w : World) (a : Option Addr) (n : Nat) (vs : List Int) : Prop :=
  vs.length = n ∧ (n = 0 ∨ ∃ b off, a = some ⟨b, off, none⟩ ∧ b < B ∧ ∀ i, i < n → w.cell? ⟨b, off + i, none⟩ = some (.int .i64 (vs.getD i 0)))
theorem IsInts.below {B : Nat} {w w' : World} {a : Option Addr} {n : Nat} {vs : List Int} (h : IsInts B w a n vs) (hb : Below B w w') : IsInts B w' a n vs := by
  obtain ⟨h1, h2⟩ := h
  refine ⟨h1, ?_⟩
  rcases h2 with h2 | ⟨b, off, rfl, hlt, hc⟩
  · exact .inl h2
  · exact .inr ⟨b, off, rfl, hlt, fun i hi => (hb.cell hlt).trans (hc i hi)⟩
theorem IsInts.mono {B B' : Nat} {w : World} {a : Option Addr} {n : Nat} {vs : List Int} (h : IsInts B w a n vs) (hb : B ≤ B') : IsInts B' w a n vs := by
  obtain ⟨h1, h2⟩ := h
  refine ⟨h1, ?_⟩
  rcases h2 with h2 | ⟨b, off, rfl, hlt, hc⟩
  · exact .inl h2
  · exact .inr ⟨b, off, rfl, by omega, hc⟩

theorem runNum_any (p : Nat) (k n : Int) (a : Option Addr) (m c : Nat) (st : List Int) (w : World) (hs : Stk p w st) (hl : st.length ≤ 1048576) :
    Calls Tryz.prog 88 #[.pointer (some ⟨p, 0, none⟩), .agg #[.int .i64 k, .int .i64 n], .slice a m c] w fun e w' => e = .returned (.tuple #[]) ∧ Stk p w' (wr32 n :: st) ∧ Below p w w' := by
  have hlt := hs.lt
  have HS : Hid (Stk p w st) := hs
  clear hs
  go_enter Tryz.func88, Tryz.ntmps88
  go_wp2_with fail
  refine (push_any p _ st _ (HS.out.alloc _) hl).mono ?_
  rintro e w1 ⟨rfl, h1, h2⟩
  go_wp2_with fail
  go_end0
  refine ⟨rfl, ?_, ((Below.refl p w).alloc (by omega) _).trans h2⟩
  rw [← wr32_is]; exact h1

theorem runName_any (p : Nat) (n : Nat) (a : Option Addr) (m c : Nat) (vs : List Int) (st : List Int) (w : World) (hs : Stk p w st) (hl : st.length ≤ 1048576) (hv : IsInts p w a m vs) (hn : n < m) (hm : m ≤ 1048576) :
    Calls Tryz.prog 89 #[.pointer (some ⟨p, 0, none⟩), .agg #[.int .i64 2, .int .i64 n], .slice a m c] w fun e w' => e = .returned (.tuple #[]) ∧ Stk p w' (wr32 (vs.getD n 0) :: st) ∧ Below p w w' := by
  have hlt := hs.lt
  obtain ⟨h1, h2⟩ := hv
  rcases h2 with h2 | ⟨b, off, rfl, hb, hc⟩
  · omega
  have hcn := hc n hn
  have HS : Hid (Stk p w st) := hs
  have hbw : b < w.heap.size := by omega
  clear hs hc
  go_enter Tryz.func89, Tryz.ntmps89
  go_wp2_with fail
  refine (push_any p _ st _ (HS.out.alloc _) hl).mono ?_
  rintro e w1 ⟨rfl, h1, h2⟩
  go_wp2_with fail
  go_end0
  refine ⟨rfl, ?_, ((Below.refl p w).alloc (by omega) _).trans h2⟩
  rw [← wr32_is, show vs.getD n 0 = vs[n] from by have : n < vs.length := (by omega); simp [this]]
  exact h1

theorem runAhead_any (p : Nat) (k n x : Int) (a : Option Addr) (m c : Nat) (st : List Int) (w : World) (hk : k = 3 ∨ k = 4) (hs : Stk p w (x :: st)) (hl : st.length ≤ 1048576) :
    Calls Tryz.prog 90 #[.pointer (some ⟨p, 0, none⟩), .agg #[.int .i64 k, .int .i64 n], .slice a m c] w fun e w' => e = .returned (.tuple #[]) ∧ Stk p w' (one k x :: st) ∧ Below p w w' := by
  have hlt := hs.lt
  have HS : Hid (Stk p w (x :: st)) := hs
  have HK : Hid (k = 3 ∨ k = 4) := hk
  clear hs hk
  go_enter Tryz.func90, Tryz.ntmps90
  go_wp2_with fail
  refine (pop_any p x st _ (HS.out.alloc _) hl).mono ?_
  rintro e w1 ⟨rfl, h1, h2, h3, h4⟩
  have H1 : Hid (Stk p w1 st) := h1
  have H2 : Hid (Below p w w1) := ((Below.refl p w).alloc (by omega) _).trans h2
  have c0 := h4 w.heap.size 0 (by omega)
  simp at c0
  clear h1 h2 h3 h4
  go_wp2_with fail
  refine (aheadValue_any k x _ HK.out).mono ?_
  rintro e w2 ⟨rfl, rfl⟩
  go_wp2_with fail
  refine (push_any p _ st _ H1.out hl).mono ?_
  rintro e w3 ⟨rfl, h5, h6⟩
  go_wp2_with fail
  go_end0
  exact ⟨rfl, h5, H2.out.trans h6⟩

theorem runPair_any (p : Nat) (k n x y : Int) (a : Option Addr) (m c : Nat) (st : List Int) (w : World) (hk : 5 ≤ k ∧ k ≤ 13) (hs : Stk p w (y :: x :: st)) (hl : st.length + 1 ≤ 1048576) :
    Calls Tryz.prog 91 #[.pointer (some ⟨p, 0, none⟩), .agg #[.int .i64 k, .int .i64 n], .slice a m c] w fun e w' => e = .returned (.tuple #[]) ∧ Stk p w' (two k x y :: st) ∧ Below p w w' := by
  have hlt := hs.lt
  have HS : Hid (Stk p w (y :: x :: st)) := hs
  have HK : Hid (5 ≤ k ∧ k ≤ 13) := hk
  clear hs hk
  go_enter Tryz.func91, Tryz.ntmps91
  go_wp2_with fail
  refine (pop_any p y (x :: st) _ (HS.out.alloc _) (by simp; omega)).mono ?_
  rintro e w1 ⟨rfl, h1, h2, h3, h4⟩
  have H1 : Hid (Stk p w1 (x :: st)) := h1
  have H2 : Hid (Below p w w1) := ((Below.refl p w).alloc (by omega) _).trans h2
  have c0 := h4 w.heap.size 0 (by omega)
  simp at c0
  clear h1 h2 h3 h4
  go_wp2_with fail
  refine (pop_any p x st _ H1.out (by omega)).mono ?_
  rintro e w2 ⟨rfl, h1, h2, h3, h4⟩
  have H3 : Hid (Stk p w2 st) := h1
  have H4 : Hid (Below p w w2) := H2.out.trans h2
  have c1 := (h4 w.heap.size 0 (by omega)).trans c0
  clear h1 h2 h3 h4 c0
  go_wp2_with fail
  refine (pairValue_any k x y _ HK.out).mono ?_
  rintro e w3 ⟨rfl, rfl⟩
  go_wp2_with fail
  refine (push_any p _ st _ H3.out (by omega)).mono ?_
  rintro e w4 ⟨rfl, h5, h6⟩
  go_wp2_with fail
  go_end0
  exact ⟨rfl, h5, H4.out.trans h6⟩
end Go.Proofs.YtcajjngjojegfaaGreatDoor

/- What code comes to, op by op: plain. -/
namespace Go.Proofs.YtcajjngjojegfaaGreatDoor

def runOp (vs : List Int) (op : Int × Int) (st : List Int) : List Int :=
  if op.1 = 1 then wr32 op.2 :: st else if op.1 = 2 then wr32 (vs.getD op.2.toNat 0) :: st
  else if op.1 = 3 ∨ op.1 = 4 then one op.1 (st.headD 0) :: st.tail else two op.1 (st.tail.headD 0) (st.headD 0) :: st.tail.tail
/-- the stack behind the first k ops, its top first -/
def runTo (vs : List Int) (zs : List (Int × Int)) : Nat → List Int
  | 0 => []
  | k + 1 => runOp vs (zs.getD k (0, 0)) (runTo vs zs k)
/-- what code comes to -/
def codeVal (vs : List Int) (zs : List (Int × Int)) : Int := if deepOf vs.length zs < 0 then 0 else (runTo vs zs zs.length).headD 0

theorem deepOf_ok {slots : Int} {zs : List (Int × Int)} (h : ¬ deepOf slots zs < 0) : (0 ≤ slots ∧ slots ≤ 16 ∧ zs.length ≤ 24) ∧ ∃ m, deepTo slots zs zs.length = some (1, m) := by
  unfold deepOf at h
  split at h
  · rename_i g
    refine ⟨g, ?_⟩
    cases hd : deepTo slots zs zs.length with
    | none => simp [hd] at h
    | some s =>
      obtain ⟨d, m⟩ := s
      rw [hd] at h
      by_cases h1 : d = 1
      · subst h1; exact ⟨m, rfl⟩
      · exfalso; apply h
        split
        · rename_i hh; simp at hh; omega
        · omega
  · omega
theorem deepTo_some {slots : Int} {zs : List (Int × Int)} {n k : Nat} {s : Int × Int} (h : deepTo slots zs n = some s) (hk : k ≤ n) : ∃ d m, deepTo slots zs k = some (d, m) := by
  cases e : deepTo slots zs k with
  | none => rw [deepTo_none hk e] at h; cases h
  | some s => exact ⟨s.1, s.2, rfl⟩
theorem step_of {slots : Int} {zs : List (Int × Int)} {n k : Nat} {s : Int × Int} {d m : Int} (h : deepTo slots zs n = some s) (hk : k < n) (hd : deepTo slots zs k = some (d, m)) :
    okB (zs.getD k (0, 0)).1 (zs.getD k (0, 0)).2 slots = true ∧ tk (zs.getD k (0, 0)).1 ≤ d ∧ ∃ m', deepTo slots zs (k + 1) = some (d + (1 - tk (zs.getD k (0, 0)).1), m') := by
  obtain ⟨d', m', h1⟩ := deepTo_some h (show k + 1 ≤ n by omega)
  have h2 := h1
  simp only [deepTo, hd, Option.bind_some] at h2
  unfold stepOp at h2
  split at h2
  · rename_i hh
    simp only [Option.some.injEq, Prod.mk.injEq] at h2
    exact ⟨hh.1, hh.2, m', by rw [h1, ← h2.1]⟩
  · cases h2

theorem runOp_len (vs : List Int) (op : Int × Int) (st : List Int) (h : tk op.1 ≤ st.length) (h32 : ∀ x ∈ st, In32 x) : ((runOp vs op st).length : Int) = st.length + (1 - tk op.1) ∧ ∀ x ∈ runOp vs op st, In32 x := by
  have hhd : ∀ l : List Int, (∀ x ∈ l, In32 x) → In32 (l.headD 0) := fun l hl => by
    cases l with
    | nil => simp [In32]
    | cons a r => exact hl a (by simp)
  have htl : ∀ x ∈ st.tail, In32 x := fun x hx => h32 x (List.mem_of_mem_tail hx)
  have htl2 : ∀ x ∈ st.tail.tail, In32 x := fun x hx => htl x (List.mem_of_mem_tail hx)
  unfold tk at *
  unfold runOp
  by_cases h1 : op.1 = 1
  · simp only [h1, if_true, true_or] at *
    refine ⟨by simp, fun x hx => ?_⟩
    rcases List.mem_cons.1 hx with rfl | hx
    · exact in32_wr _
    · exact h32 x hx
  by_cases h2 : op.1 = 2
  · simp only [h2, if_true, or_true] at *
    refine ⟨by simp, fun x hx => ?_⟩
    rcases List.mem_cons.1 hx with rfl | hx
    · exact in32_wr _
    · exact h32 x hx
  have h12 : ¬ (op.1 = 1 ∨ op.1 = 2) := by omega
  simp only [if_neg h12, if_neg h1, if_neg h2] at *
  by_cases h3 : op.1 = 3 ∨ op.1 = 4
  · simp only [if_pos h3] at *
    refine ⟨by simp; omega, fun x hx => ?_⟩
    rcases List.mem_cons.1 hx with rfl | hx
    · exact in32_one _ _
    · exact htl x hx
  · simp only [if_neg h3] at *
    refine ⟨by simp; omega, fun x hx => ?_⟩
    rcases List.mem_cons.1 hx with rfl | hx
    · exact in32_two (hhd _ htl)
    · exact htl2 x hx

theorem run_len {slots : Int} {vs : List Int} {zs : List (Int × Int)} {n : Nat} {s : Int × Int} (hn : deepTo slots zs n = some s) (k : Nat) : ∀ {d m : Int}, k ≤ n → deepTo slots zs k = some (d, m) → ((runTo vs zs k).length : Int) = d ∧ ∀ x ∈ runTo vs zs k, In32 x := by
  induction k with
  | zero => intro d m _ h; simp [deepTo] at h; simp [runTo]; omega
  | succ k ih =>
    intro d m hk h
    obtain ⟨d0, m0, h0⟩ := deepTo_some hn (show k ≤ n by omega)
    obtain ⟨ih1, ih2⟩ := ih (by omega) h0
    obtain ⟨o1, o2, m', o3⟩ := step_of hn (show k < n by omega) h0
    rw [o3] at h
    simp only [Option.some.injEq, Prod.mk.injEq] at h
    have := runOp_len vs (zs.getD k (0, 0)) (runTo vs zs k) (by omega) ih2
    exact ⟨by simp only [runTo]; omega, this.2⟩
theorem run_le {slots : Int} {vs : List Int} {zs : List (Int × Int)} {n : Nat} {s : Int × Int} (hn : deepTo slots zs n = some s) {k : Nat} (hk : k ≤ n) : (runTo vs zs k).length ≤ k := by
  obtain ⟨d0, m0, h0⟩ := deepTo_some hn hk
  have h1 := (run_len (vs := vs) hn k hk h0).1
  have h2 := deepTo_range h0
  omega
theorem okB_cases {x y s : Int} (h : okB x y s = true) : (x = 1 ∧ In32 y) ∨ (x = 2 ∧ 0 ≤ y ∧ y < s) ∨ (x = 3 ∨ x = 4) ∨ (5 ≤ x ∧ x ≤ 13) := by
  unfold okB at h
  split at h
  · left; exact ⟨by assumption, by simpa [In32] using h⟩
  split at h
  · right; left; exact ⟨by assumption, by simpa using h⟩
  split at h
  · right; right; left; assumption
  · right; right; right; simp at h; exact h.1
end Go.Proofs.YtcajjngjojegfaaGreatDoor

/- The model's stack of numbers in memory. -/
namespace Go.Proofs.YtcajjngjojegfaaGreatDoor
open Go.RowKit Go.PlainAid
set_option linter.unusedSimpArgs false
set_option linter.unusedVariables false

theorem infoInt : (Tryz.prog.info? 3).map (fun i => (i.zero, i.size, i.bytes)) = some (some (.int .i64 0), 1, 8) := by kernel_rfl
def i64s (st : List Int) : List Value := st.reverse.map (Value.int .i64)
theorem i64s_cons (x : Int) (st : List Int) : i64s (x :: st) = i64s st ++ [Value.int .i64 x] := by simp [i64s]

/-- the model's stack: the slice (g, cap) owns st, its top first -/
def Own (B g cap : Nat) (w : World) (st : List Int) : Prop := w.ownsRow B 3 1 (.slice (some ⟨g, 0, none⟩) st.length cap) st.length (i64s st)
theorem i64s_len (st : List Int) : (i64s st).length = st.length := by simp [i64s]
theorem Own.top {B g cap : Nat} {w : World} {z : Int} {r : List Int} (h : Own B g cap w (z :: r)) : w.cell? ⟨g, r.length, none⟩ = some (.int .i64 z) ∧ w.frozen? ⟨g, r.length, none⟩ = false := by
  unfold Own at h
  rw [i64s_cons] at h
  refine ⟨?_, h.frozenAt _⟩
  rw [h.cellAt r.length (by simp)]
  simp [i64s]
theorem Own.next {B g cap : Nat} {w : World} {z z' : Int} {r : List Int} (h : Own B g cap w (z :: z' :: r)) : w.cell? ⟨g, r.length, none⟩ = some (.int .i64 z') ∧ w.frozen? ⟨g, r.length, none⟩ = false := by
  unfold Own at h
  rw [i64s_cons, i64s_cons] at h
  refine ⟨?_, h.frozenAt _⟩
  rw [h.cellAt r.length (by simp; omega)]
  simp [i64s]
theorem Own.put {B g cap : Nat} {w : World} {z : Int} {r : List Int} (h : Own B g cap w (z :: r)) (u : Int) : Own B g cap (w.setCell ⟨g, r.length, none⟩ (.int .i64 u)) (u :: r) := by
  unfold Own at *
  have h2 := (h.stored r.length (.int .i64 u)).1
  have e : (i64s (z :: r)).set r.length (.int .i64 u) = i64s (u :: r) := by
    rw [i64s_cons, i64s_cons, List.set_append_right _ _ (by rw [i64s_len]; exact Nat.le_refl _), i64s_len]; simp
  rw [e] at h2
  exact h2
theorem Own.pop {B g cap : Nat} {w : World} {z : Int} {r : List Int} (h : Own B g cap w (z :: r)) : Own B g cap w r := by
  unfold Own at *
  rw [i64s_cons] at h
  exact ownsRow_pop (by simp [i64s]) h
theorem Own.put2 {B g cap : Nat} {w : World} {z z' : Int} {r : List Int} (h : Own B g cap w (z :: z' :: r)) (u : Int) : Own B g cap (w.setCell ⟨g, r.length, none⟩ (.int .i64 u)) (u :: r) := h.pop.put u
theorem Own.lt {B g cap : Nat} {w : World} {st : List Int} (h : Own B g cap w st) : B ≤ g ∧ g < w.heap.size := World.ownsRow.lt h g rfl
theorem Own.cap {B g cap : Nat} {w : World} {st : List Int} (h : Own B g cap w st) : st.length ≤ cap := by
  rcases h.2 with ⟨h, _⟩ | ⟨g', cap', cur, h, _, _, h3, _⟩
  · simp at h
  · simp at h; omega
/-- behind an append -/
theorem Own.of {B : Nat} {w : World} {v' : Value} {z : Int} {st : List Int} (h : w.ownsRow B 3 1 v' (st.length + 1) (i64s st ++ [.int .i64 z])) : ∃ g cap, v' = .slice (some ⟨g, 0, none⟩) (st.length + 1) cap ∧ Own B g cap w (z :: st) := by
  have h0 := h.2
  rcases h0 with ⟨_, h1⟩ | ⟨g, cap, cur, h1, _⟩
  · simp at h1
  · refine ⟨g, cap, h1, ?_⟩
    subst h1
    unfold Own
    rw [i64s_cons]; exact h

theorem ops_below {w w' : World} {a : Option Addr} {n : Nat} {zs : List (Int × Int)} (h : IsOps w a n zs) (hb : Below w.heap.size w w') : IsOps w' a n zs := by
  obtain ⟨h1, h2⟩ := h
  refine ⟨h1, ?_⟩
  rcases h2 with h2 | ⟨b, off, rfl, hlt, hc⟩
  · exact .inl h2
  · exact .inr ⟨b, off, rfl, by have := hb.size; omega, fun i hi => ⟨(hb.cell hlt).trans (hc i hi).1, (hb.cell hlt).trans (hc i hi).2⟩⟩

end Go.Proofs.YtcajjngjojegfaaGreatDoor
