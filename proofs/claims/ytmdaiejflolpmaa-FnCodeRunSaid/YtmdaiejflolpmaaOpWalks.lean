/- The walks for code: copies, comparisons. -/
import Derived.Test.YtmdaiejflolpmaaRows
import Derived.Test.YtmdaiejflolpmaaNameWalks
import Derived.Test.YtmdaiejflolpmaaCommon
import Derived.WalkKit
import Derived.ProofKit
import Derived.Handy
import Derived.PlainAid
import Derived.WalkLawsBesides
import Derived.Deep.RegionHeld3
namespace Go.Proofs.Ytmdaiejflolpmaa
open Go.RowKit Go.PlainAid

theorem toOp_any (x y : Int) (w : World) : Calls Try.prog 33 #[.agg #[.int .i64 x, .int .i64 y]] w fun e w' => e = .returned (.agg #[.int .i64 x, .int .i64 y]) ∧ Below w.heap.size w w' := by
  go_enter Try.func33, Try.ntmps33
  go_wp2
  go_returns
  refine ⟨rfl, ?_⟩
  go_grown
theorem eqOp_any (x y x' y' : Int) (w : World) : Calls Try.prog 34 #[.agg #[.int .i64 x, .int .i64 y], .agg #[.int .i64 x', .int .i64 y']] w fun e w' => e = .returned (.bool (decide (x = x' ∧ y = y'))) ∧ Below w.heap.size w w' := by
  by_cases h1 : x = x'
  · subst h1
    by_cases h2 : y = y'
    · subst h2
      go_enter Try.func34, Try.ntmps34
      go_wp2
      go_ret
      refine ⟨ret_bool (by simp), ?_⟩
      go_grown
    · have h : (y != y') = true := by simp [h2]
      go_enter Try.func34, Try.ntmps34
      go_wp2
      go_ret
      refine ⟨ret_bool (by simp [h2]), ?_⟩
      go_grown
  · have h : (x != x') = true := by simp [h1]
    go_enter Try.func34, Try.ntmps34
    go_wp2
    go_ret
    refine ⟨ret_bool (by simp [h1]), ?_⟩
    go_grown

theorem infoOp : (Try.prog.info? 53).map (fun i => (i.zero, i.size, i.bytes)) = some (some (.agg #[.int .i64 0, .int .i64 0]), 2, 16) := by kernel_rfl

/-- the slice (a, n) reads in w as these ops -/
def IsOps (w : World) (a : Option Addr) (n : Nat) (zs : List (Int × Int)) : Prop :=
  zs.length = n ∧ (n = 0 ∨ ∃ b off, a = some ⟨b, off, none⟩ ∧ b < w.heap.size ∧ ∀ i, i < n → w.cell? ⟨b, off + i * 2, none⟩ = some (.int .i64 (zs.getD i (0, 0)).1) ∧ w.cell? ⟨b, off + i * 2 + 1, none⟩ = some (.int .i64 (zs.getD i (0, 0)).2))

/-- the flat cells of ops -/
def opCell (zs : List (Int × Int)) (j : Nat) : Value := if j % 2 = 0 then .int .i64 (zs.getD (j / 2) (0, 0)).1 else .int .i64 (zs.getD (j / 2) (0, 0)).2
theorem opCell_even' (zs : List (Int × Int)) (k : Nat) : opCell zs (k * 2) = .int .i64 (zs.getD k (0, 0)).1 := by
  unfold opCell; rw [if_pos (by omega), show k * 2 / 2 = k from by omega]
theorem opCell_odd' (zs : List (Int × Int)) (k : Nat) : opCell zs (k * 2 + 1) = .int .i64 (zs.getD k (0, 0)).2 := by
  unfold opCell; rw [if_neg (by omega), show (k * 2 + 1) / 2 = k from by omega]
theorem opCell_even (zs : List (Int × Int)) (k : Nat) (h : k < zs.length) : opCell zs (k * 2) = .int .i64 zs[k].1 := by
  rw [opCell_even']; simp [h]
theorem opCell_odd (zs : List (Int × Int)) (k : Nat) (h : k < zs.length) : opCell zs (k * 2 + 1) = .int .i64 zs[k].2 := by
  rw [opCell_odd']; simp [h]

set_option maxHeartbeats 400000 in
theorem toOpS_any (a : Option Addr) (n cap : Nat) (zs : List (Int × Int)) (w : World) (hn : n ≤ 1048576) (hz : IsOps w a n zs) :
    Calls Try.prog 16 #[.slice a n cap] w fun e w' => ∃ b, e = .returned (.slice (some ⟨b, 0, none⟩) n n) ∧ w.heap.size ≤ b ∧ IsOps w' (some ⟨b, 0, none⟩) n zs ∧ Below w.heap.size w w' := by
  obtain ⟨hlen, hcells⟩ := hz
  obtain ⟨i0, hi, hz0, hz1, hz2⟩ := info_parts infoOp
  have hmk : ∀ u : World, (Instr.makeSlice 23 (.int .i64 (n : Int)) (.int .i64 (n : Int))).run Try.prog u =
      .ok (.slice (some ⟨u.heap.size, 0, none⟩) n n) (u.alloc (.cells (madeCells #[.int .i64 0, .int .i64 0] (n * 2)) 53)) := fun u => by
    have h := run_make (P := Try.prog) u 23 53 i0 (.agg #[.int .i64 0, .int .i64 0]) Try.underlying23 hi hz0 .i64 .i64 (n : Int) (n : Int) (by omega) (Int.le_refl _) (by rw [hz2]; omega) (by omega)
    have e : ((n : Int)).toNat = n := by omega
    rw [e] at h
    simpa [hz1, Value.cells] using h
  go_enter Try.func16, Try.ntmps16
  go_wp2
  go_loopw [4] (fun i wr => ∃ k : Nat, k ≤ n ∧ i = .int .i64 k ∧ Fill w.heap.size w wr (n * 2) (k * 2) (opCell zs)) (fun i _ => n - (intOf i).toNat)
  case atStart =>
    have h := Fill.start w (madeCells #[.int .i64 0, .int .i64 0] (n * 2)) 53 (opCell zs)
    rw [size_madeCells] at h
    exact ⟨0, Nat.zero_le _, rfl, h⟩
  case round =>
    obtain ⟨k, hk, rfl, hfill⟩ := hrel
    by_cases hlt : k < n
    · rcases hcells with h0 | ⟨b, off, rfl, hb, hc⟩
      · omega
      have c0 := (hfill.below.cell (p := ⟨b, off + k * 2, none⟩) hb).trans (hc k hlt).1
      have c1 := (hfill.below.cell (p := ⟨b, off + k * 2 + 1, none⟩) hb).trans (hc k hlt).2
      obtain ⟨v0, f0⟩ := hfill.there (k * 2) (by omega)
      obtain ⟨v1, f1⟩ := hfill.there (k * 2 + 1) (by omega)
      have hfz := hfill.open_
      have hsz := hfill.lt
      clear hmk hc
      go_wp2_with (go_at_call 33; refine (toOp_any _ _ _).mono ?_; rintro e w' ⟨rfl, hb1⟩; obtain ⟨hc', hf'⟩ := bcell hb1)
      go_roundw
      case rel => exact ⟨k + 1, by omega, by go_num, by
        rw [show (k + 1) * 2 = k * 2 + 1 + 1 from by omega]
        exact ((hfill.call hb1).store (by omega) (opCell_even zs k (by omega)).symm).store (by omega) (opCell_odd zs k (by omega)).symm⟩
      case measure => simp [intOf]; omega
    · have : k = n := by omega
      subst this
      go_wp2
      go_ret
      exact ⟨_, rfl, Nat.le_refl _, ⟨hlen, .inr ⟨_, _, rfl, hfill.lt, fun i hi => by simpa [opCell_even', opCell_odd'] using And.intro (hfill.done (i * 2) (by omega)) (hfill.done (i * 2 + 1) (by omega))⟩⟩, hfill.below⟩

theorem szOpS_any (a : Option Addr) (n cap : Nat) (left : Int) (w : World) (h0 : 0 ≤ left) (h1 : left ≤ 1048576) (hn : n ≤ 9223372036854775807) :
    Calls Try.prog 15 #[.slice a n cap, .int .i64 left] w fun e w' => e = .returned (.int .i64 (if left < n then -1 else left - n)) ∧ w' = w := by
  by_cases h : left < n
  · go_enter Try.func15, Try.ntmps15
    go_wp2
    go_ret
    exact ⟨rfl, rfl⟩
  · go_enter Try.func15, Try.ntmps15
    go_wp2
    go_ret
    exact ⟨rfl, rfl⟩

/-- two slices that read as the same ops are the same -/
theorem eqOpS_same (a a' : Option Addr) (n cap cap' : Nat) (zs : List (Int × Int)) (w : World) (hn : n ≤ 1048576) (hz : IsOps w a n zs) (hz' : IsOps w a' n zs) :
    Calls Try.prog 17 #[.slice a n cap, .slice a' n cap'] w fun e w' => e = .returned (.bool true) ∧ Below w.heap.size w w' := by
  obtain ⟨hlen, hcells⟩ := hz
  obtain ⟨_, hcells'⟩ := hz'
  go_enter Try.func17, Try.ntmps17
  go_wp2
  go_loopw [5] (fun i wr => ∃ k : Nat, k ≤ n ∧ i = .int .i64 k ∧ Below w.heap.size w wr) (fun i _ => n - (intOf i).toNat)
  case atStart => exact ⟨0, Nat.zero_le _, rfl, Below.refl _ _⟩
  case round =>
    obtain ⟨k, hk, rfl, hbel⟩ := hrel
    by_cases hlt : k < n
    · rcases hcells with h0 | ⟨b, off, rfl, hb, hc⟩
      · omega
      rcases hcells' with h0 | ⟨b', off', rfl, hb', hc'⟩
      · omega
      have c0 := (hbel.cell (p := ⟨b, off + k * 2, none⟩) hb).trans (hc k hlt).1
      have c1 := (hbel.cell (p := ⟨b, off + k * 2 + 1, none⟩) hb).trans (hc k hlt).2
      have d0 := (hbel.cell (p := ⟨b', off' + k * 2, none⟩) hb').trans (hc' k hlt).1
      have d1 := (hbel.cell (p := ⟨b', off' + k * 2 + 1, none⟩) hb').trans (hc' k hlt).2
      have hbr : b < wr.heap.size := by have := hbel.size; omega
      have hbr' : b' < wr.heap.size := by have := hbel.size; omega
      clear hc hc'
      go_wp2
      go_region_held3 (fun w' => w'.cell? ⟨b, off + k * 2, none⟩ = some (.int .i64 (zs.getD k (0, 0)).1) ∧ w'.cell? ⟨b, off + k * 2 + 1, none⟩ = some (.int .i64 (zs.getD k (0, 0)).2) ∧ w'.cell? ⟨b', off' + k * 2, none⟩ = some (.int .i64 (zs.getD k (0, 0)).1) ∧ w'.cell? ⟨b', off' + k * 2 + 1, none⟩ = some (.int .i64 (zs.getD k (0, 0)).2)) (simp [go_sem, *])
        (first | (go_at_call 34; refine (eqOp_any _ _ _ _ _).mono ?_; rintro e w' ⟨rfl, hb1⟩; replace hb1 := undrew hb1; obtain ⟨hc1, hf1⟩ := bcell hb1))
      go_wp2
      go_roundw
      case rel => exact ⟨k + 1, by omega, by go_num, hbel.trans (hb1.mono hbel.size)⟩
      case measure => simp [intOf]; omega
    · go_wp2
      go_ret
      exact ⟨rfl, hbel⟩
end Go.Proofs.Ytmdaiejflolpmaa
