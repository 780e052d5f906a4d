/- What CodeDeep comes to, in the program and in the model, for every code and every number of places. -/
import Derived.Test.YtnkeibahaiibpaaGreatDoorBunY3
import Derived.BigQuiet
namespace Go.Proofs.YtnkeibahaiibpaaGreatDoor
open Go.RowKit Go.PlainAid

/-- how many numbers an op takes -/
def tk (k : Int) : Int := if k = 1 ∨ k = 2 then 0 else if k = 3 ∨ k = 4 then 1 else 2
/-- whether an op is one -/
def okB (k n slots : Int) : Bool :=
  if k = 1 then decide (-2147483648 ≤ n ∧ n ≤ 2147483647) else if k = 2 then decide (0 ≤ n ∧ n < slots)
  else if k = 3 ∨ k = 4 then decide (n = 0) else decide ((5 ≤ k ∧ k ≤ 13) ∧ n = 0)

theorem isAhead_any (k : Int) (w : World) : Calls Tryz.prog 238 #[.int .i64 k] w fun e w' => e = .returned (.bool (decide (k = 3 ∨ k = 4))) ∧ w' = w := by
  by_cases h : k = 3
  · subst h
    go_enter Tryz.func238, Tryz.ntmps238
    go_wp2
    go_ret
    exact ⟨rfl, rfl⟩
  · have h' : (k == 3) = false := by simp [h]
    go_enter Tryz.func238, Tryz.ntmps238
    go_wp2
    go_ret
    exact ⟨ret_bool (by simp [h]; by_cases h4 : k = 4 <;> simp [h4]), rfl⟩
theorem isPair_any (k : Int) (w : World) : Calls Tryz.prog 239 #[.int .i64 k] w fun e w' => e = .returned (.bool (decide (5 ≤ k ∧ k ≤ 13))) ∧ w' = w := by
  by_cases h : 5 ≤ k
  · go_enter Tryz.func239, Tryz.ntmps239
    go_wp2
    go_ret
    exact ⟨ret_bool (by simp [h]), rfl⟩
  · go_enter Tryz.func239, Tryz.ntmps239
    go_wp2
    go_ret
    exact ⟨ret_bool (by simp; omega), rfl⟩
theorem opTakes_any (k n slots : Int) (w : World) : Calls Tryz.prog 216 #[.agg #[.int .i64 k, .int .i64 n], .int .i64 slots] w fun e w' =>
    e = .returned (.tuple #[.int .i64 (tk k), .bool (okB k n slots)]) ∧ Below w.heap.size w w' := by
  by_cases h1 : k = 1
  · subst h1
    go_enter Tryz.func216, Tryz.ntmps216
    go_wp2_with (go_at_call 129; refine (is32_any _ _).mono ?_; rintro e w' ⟨rfl, rfl⟩)
    go_ret2
    exact ⟨by simp [tk, okB], by go_grown⟩
  by_cases h2 : k = 2
  · subst h2
    by_cases g : 0 ≤ n
    · go_enter Tryz.func216, Tryz.ntmps216
      go_wp2
      go_quiet (fail)
      go_wp2
      go_ret2
      exact ⟨by simp [tk, okB, g], drewN (by go_grown) _⟩
    · have g' : decide (0 ≤ n) = false := by simp; omega
      go_enter Tryz.func216, Tryz.ntmps216
      go_wp2
      go_quiet (fail)
      go_wp2
      go_ret2
      exact ⟨by simp [tk, okB]; omega, drewN (by go_grown) _⟩
  have e1 : (k == 1) = false := by simp [h1]
  have e2 : (k == 2) = false := by simp [h2]
  by_cases h3 : k = 3 ∨ k = 4
  · have e3 : decide (k = 3 ∨ k = 4) = true := by simp [h3]
    have ht : tk k = 1 := by simp [tk, h1, h2, h3]
    have ho : okB k n slots = (n == 0) := by simp only [okB, if_neg h1, if_neg h2, if_pos h3]; by_cases h : n = 0 <;> simp [h]
    rw [ht, ho]
    clear ht ho h3
    go_enter Tryz.func216, Tryz.ntmps216
    go_wp2_with (go_at_call 238; refine (isAhead_any _ _).mono ?_; rintro e w' ⟨rfl, rfl⟩)
    go_quiet (fail)
    go_wp2
    go_ret2
    exact ⟨rfl, drewN (by go_grown) _⟩
  · have e3 : decide (k = 3 ∨ k = 4) = false := by simp [h3]
    have ht : tk k = 2 := by simp [tk, h1, h2, h3]
    by_cases g : 5 ≤ k ∧ k ≤ 13
    · have g' : decide (5 ≤ k ∧ k ≤ 13) = true := by simp [g]
      have ho : okB k n slots = (n == 0) := by simp only [okB, if_neg h1, if_neg h2, if_neg h3]; by_cases h : n = 0 <;> simp [h, g]
      rw [ht, ho]
      clear ht ho h3 g
      go_enter Tryz.func216, Tryz.ntmps216
      go_wp2_with (go_at_call 238; refine (isAhead_any _ _).mono ?_; rintro e w' ⟨rfl, rfl⟩)
      go_quiet ((go_at_call 239; exact Calls.quiet_of_same (isPair_any _ _)))
      go_wp2
      go_ret2
      exact ⟨rfl, drewN (by go_grown) _⟩
    · have g' : decide (5 ≤ k ∧ k ≤ 13) = false := by simp [g]
      have ho : okB k n slots = false := by simp only [okB, if_neg h1, if_neg h2, if_neg h3]; simp; omega
      rw [ht, ho]
      clear ht ho h3 g
      go_enter Tryz.func216, Tryz.ntmps216
      go_wp2_with (go_at_call 238; refine (isAhead_any _ _).mono ?_; rintro e w' ⟨rfl, rfl⟩)
      go_quiet ((go_at_call 239; exact Calls.quiet_of_same (isPair_any _ _)))
      go_wp2
      go_ret2
      exact ⟨rfl, drewN (by go_grown) _⟩

/-- one op more: how many stand, and stood at most -/
def stepOp (slots : Int) (op : Int × Int) (s : Int × Int) : Option (Int × Int) :=
  if okB op.1 op.2 slots = true ∧ tk op.1 ≤ s.1 then some (s.1 + (1 - tk op.1), max s.2 (s.1 + (1 - tk op.1))) else none
/-- the first k ops -/
def deepTo (slots : Int) (zs : List (Int × Int)) : Nat → Option (Int × Int)
  | 0 => some (0, 0)
  | k + 1 => (deepTo slots zs k).bind (stepOp slots (zs.getD k (0, 0)))
/-- how many numbers stand at most; -1, if code is not ok -/
def deepOf (slots : Int) (zs : List (Int × Int)) : Int :=
  if 0 ≤ slots ∧ slots ≤ 16 ∧ zs.length ≤ 24 then (match deepTo slots zs zs.length with | some (1, m) => m | _ => -1) else -1

theorem deepTo_none {slots : Int} {zs : List (Int × Int)} {k n : Nat} (h : k ≤ n) (hk : deepTo slots zs k = none) : deepTo slots zs n = none := by
  induction n with
  | zero => have : k = 0 := by omega
            subst this; exact hk
  | succ n ih =>
    by_cases e : k = n + 1
    · subst e; exact hk
    · simp [deepTo, ih (by omega)]
theorem tk_range (k : Int) : 0 ≤ tk k ∧ tk k ≤ 2 := by unfold tk; split <;> (try split) <;> omega
theorem deepTo_range {slots : Int} {zs : List (Int × Int)} {k : Nat} {d m : Int} (h : deepTo slots zs k = some (d, m)) : 0 ≤ d ∧ d ≤ k ∧ 0 ≤ m ∧ m ≤ k := by
  induction k generalizing d m with
  | zero => simp [deepTo] at h; omega
  | succ k ih =>
    simp only [deepTo, Option.bind_eq_some_iff] at h
    obtain ⟨⟨d', m'⟩, h1, h2⟩ := h
    have := ih h1
    have t := tk_range (zs.getD k (0, 0)).1
    unfold stepOp at h2
    split at h2
    · simp only [Option.some.injEq, Prod.mk.injEq] at h2
      rename_i hh
      have := hh.2
      simp only at this
      omega
    · cases h2
theorem deepTo_no {slots : Int} {zs : List (Int × Int)} {k : Nat} {d m : Int} (h : deepTo slots zs k = some (d, m)) (hk : k < zs.length) (hs : stepOp slots (zs.getD k (0, 0)) (d, m) = none) : deepOf slots zs = -1 := by
  have h1 : deepTo slots zs (k + 1) = none := by simp only [deepTo, h]; exact hs
  have h2 := deepTo_none (n := zs.length) (by omega) h1
  unfold deepOf
  split
  · rw [h2]
  · rfl

set_option maxHeartbeats 800000 in
theorem implDeep_any (a : Option Addr) (n cap : Nat) (slots : Int) (zs : List (Int × Int)) (w : World) (hn : n ≤ 1048576) (hz : IsOps w a n zs) :
    Calls Tryz.prog 200 #[.slice a n cap, .int .i64 slots] w fun e w' => e = .returned (.int .i64 (deepOf slots zs)) ∧ Below w.heap.size w w' := by
  obtain ⟨hlen, hcells⟩ := hz
  by_cases g1 : slots < 0
  · have hd : deepOf slots zs = -1 := by unfold deepOf; rw [if_neg (by omega)]
    rw [hd]; clear hd
    go_enter Tryz.func200, Tryz.ntmps200
    go_wp2_with fail
    go_ret
    exact ⟨rfl, Below.refl _ _⟩
  by_cases g2 : 16 < slots
  · have hd : deepOf slots zs = -1 := by unfold deepOf; rw [if_neg (by omega)]
    rw [hd]; clear hd
    go_enter Tryz.func200, Tryz.ntmps200
    go_wp2_with fail
    go_ret
    exact ⟨rfl, Below.refl _ _⟩
  by_cases g3 : 24 < n
  · have hd : deepOf slots zs = -1 := by unfold deepOf; rw [if_neg (by omega)]
    rw [hd]; clear hd
    go_enter Tryz.func200, Tryz.ntmps200
    go_wp2_with fail
    go_ret
    exact ⟨rfl, Below.refl _ _⟩
  obtain ⟨D, hD⟩ : ∃ D, deepOf slots zs = D := ⟨_, rfl⟩
  have HD : Hid (deepOf slots zs = D) := hD
  rw [hD]; clear hD
  go_enter Tryz.func200, Tryz.ntmps200
  go_wp2_with fail
  go_loopw [5, 6, 24] (fun vd vm i wr => ∃ (k : Nat) (d m : Int), k ≤ n ∧ i = .int .i64 k ∧ vd = .int .i64 d ∧ vm = .int .i64 m ∧ Hid (deepTo slots zs k = some (d, m)) ∧ Below w.heap.size w wr) (fun _ _ i _ => n - (intOf i).toNat)
  case atStart => exact ⟨0, 0, 0, Nat.zero_le _, rfl, rfl, rfl, rfl, Below.refl _ _⟩
  case round =>
    obtain ⟨k, d, m, hk, rfl, rfl, rfl, hd, hbel⟩ := hrel
    obtain ⟨r1, r2, r3, r4⟩ := deepTo_range hd.out
    by_cases hlt : k < n
    · rcases hcells with h0 | ⟨b, off, rfl, hb, hc⟩
      · omega
      have c0 := (hbel.cell (p := ⟨b, off + k * 2, none⟩) hb).trans (hc k hlt).1
      have c1 := (hbel.cell (p := ⟨b, off + k * 2 + 1, none⟩) hb).trans (hc k hlt).2
      obtain ⟨⟨x, y⟩, hxy⟩ : ∃ xy, zs.getD k (0, 0) = xy := ⟨_, rfl⟩
      rw [hxy] at c0 c1
      have hbs := hbel.size
      have HX : Hid (zs.getD k (0, 0) = (x, y)) := hxy
      obtain ⟨t1, t2⟩ := tk_range x
      clear hc hxy
      go_wp2_with (go_at_call 216; refine (opTakes_any _ _ _ _).mono ?_; rintro e w' ⟨rfl, hb1⟩)
      · have hs : stepOp slots (zs.getD k (0, 0)) (d, m) = none := by
          rw [HX.out]; unfold stepOp; rw [if_neg (by rintro ⟨_, h⟩; simp at h; omega)]
        have hD : D = -1 := HD.out.symm.trans (deepTo_no hd.out (by omega) hs)
        go_ret
        exact ⟨ret_int hD.symm, (hbel.alloc hbs _).trans (hb1.mono (by simp; omega))⟩
      · have hs : stepOp slots (zs.getD k (0, 0)) (d, m) = some (d + (1 - tk x), if m < d + (1 - tk x) then d + (1 - tk x) else m) := by
          rw [HX.out]; unfold stepOp; rw [if_pos ⟨by assumption, by assumption⟩]
          simp only [Option.some.injEq, Prod.mk.injEq, true_and]
          split <;> omega
        go_roundw
        case rel => exact ⟨k + 1, _, _, by omega, by go_num, rfl, rfl, by show deepTo _ _ _ = _; simp only [deepTo, hd.out]; exact hs, (hbel.alloc hbs _).trans (hb1.mono (by simp; omega))⟩
        case measure => simp [intOf]; omega
      · have hs : stepOp slots (zs.getD k (0, 0)) (d, m) = none := by
          rw [HX.out]; unfold stepOp; rw [if_neg (by rintro ⟨h, _⟩; contradiction)]
        have hD : D = -1 := HD.out.symm.trans (deepTo_no hd.out (by omega) hs)
        go_ret
        exact ⟨ret_int hD.symm, (hbel.alloc hbs _).trans (hb1.mono (by simp; omega))⟩
    · have : k = n := by omega
      subst this
      have hD : D = if d = 1 then m else -1 := by
        rw [← HD.out, deepOf, if_pos (by omega), hlen, hd.out]
        by_cases h1 : d = 1
        · subst h1; rfl
        · rw [if_neg h1]
          split
          · rename_i h; simp at h; omega
          · rfl
      have HD2 : Hid (D = if d = 1 then m else -1) := hD
      clear hD
      go_wp2_with fail
      · have h1 : (d != 1) = true := by assumption
        simp at h1
        have hD := HD2.out
        rw [if_neg h1] at hD
        go_ret
        exact ⟨ret_int hD.symm, hbel⟩
      · have h1 : (d != 1) = false := by assumption
        simp at h1
        have hD := HD2.out
        rw [if_pos h1] at hD
        go_ret
        exact ⟨ret_int hD.symm, hbel⟩
end Go.Proofs.YtnkeibahaiibpaaGreatDoor
