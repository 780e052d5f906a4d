/- The walks for texts and numbers: how many there are, copies, comparisons. -/
import Derived.Test.YtbpfonmkbbnkcaaGreatDoorBunJ
import Derived.Test.YtbpfonmkbbnkcaaGreatDoorFind
import Derived.BigQuiet
namespace Go.Proofs.YtbpfonmkbbnkcaaGreatDoor
open Go Go.RowKit Go.PlainAid
set_option linter.unusedSimpArgs false
set_option linter.unusedVariables false

def intCell (vs : List Int) (j : Nat) : Value := .int .i64 (vs.getD j 0)
def strCell (l : List ByteArray) (j : Nat) : Value := .string (l.getD j noName)
theorem strs_at {l : List ByteArray} {k : Nat} (h : k < l.length) : l.getD k noName = l[k] := by
  rw [List.getD_eq_getElem?_getD, List.getElem?_eq_getElem h]; rfl

set_option maxHeartbeats 400000 in
theorem toIntS_any (B : Nat) (a : Option Addr) (n cap : Nat) (vs : List Int) (w : World) (hn : n ≤ 1048576) (hB : B ≤ w.heap.size) (hz : IsInts B w a n vs) :
    Calls Tryz.prog 36 #[.slice a n cap] w fun e w' => ∃ b, e = .returned (.slice (some ⟨b, 0, none⟩) n n) ∧ w.heap.size ≤ b ∧ IsInts w'.heap.size w' (some ⟨b, 0, none⟩) n vs ∧ Below w.heap.size w w' := by
  obtain ⟨hlen, hcells⟩ := hz
  obtain ⟨i0, hi, hz0, hz1, hz2⟩ := info_parts infoInt
  have hmk : ∀ u : World, (Instr.makeSlice 32 (.int .i64 (n : Int)) (.int .i64 (n : Int))).run Tryz.prog u =
      .ok (.slice (some ⟨u.heap.size, 0, none⟩) n n) (u.alloc (.cells (madeCells #[.int .i64 0] n) 3)) := fun u => by
    have h := run_make (P := Tryz.prog) u 32 3 i0 (.int .i64 0) Tryz.underlying32 hi hz0 .i64 .i64 (n : Int) (n : Int) (by omega) (Int.le_refl _) (by rw [hz2]; omega) (by omega)
    have e : ((n : Int)).toNat = n := by omega
    rw [e] at h
    simpa [hz1, Value.cells] using h
  go_enter Tryz.func36, Tryz.ntmps36
  go_wp2
  go_loopw [4] (fun i wr => ∃ k : Nat, k ≤ n ∧ i = .int .i64 k ∧ Fill w.heap.size w wr n k (intCell vs)) (fun i _ => n - (intOf i).toNat)
  case atStart =>
    have h := Fill.start w (madeCells #[.int .i64 0] n) 3 (intCell vs)
    rw [size_madeCells] at h
    exact ⟨0, Nat.zero_le _, rfl, h⟩
  case round =>
    obtain ⟨k, hk, rfl, hfill⟩ := hrel
    by_cases hlt : k < n
    · rcases hcells with h0 | ⟨b, off, rfl, hb, hc⟩
      · omega
      have c0 := (hfill.below.cell (p := ⟨b, off + k, none⟩) (by simp; omega)).trans (hc k hlt)
      obtain ⟨x, hx⟩ : ∃ x, vs.getD k 0 = x := ⟨_, rfl⟩
      rw [hx] at c0
      have HX : Hid (vs.getD k 0 = x) := hx
      obtain ⟨v0, f0⟩ := hfill.there k (by omega)
      have hfz := hfill.open_
      have hsz := hfill.lt
      clear hmk hc hx
      go_wp2
      go_roundw
      case rel => exact ⟨k + 1, by omega, by go_num, hfill.store (by omega) (by unfold intCell; rw [HX.out])⟩
      case measure => simp [intOf]; omega
    · have : k = n := by omega
      subst this
      go_wp2
      go_ret
      exact ⟨_, rfl, Nat.le_refl _, ⟨hlen, .inr ⟨_, _, rfl, hfill.lt, fun i hi => by simpa [intCell] using hfill.done i (by omega)⟩⟩, hfill.below⟩

theorem eqIntS_same (a a' : Option Addr) (n cap cap' : Nat) (vs : List Int) (w : World) (hn : n ≤ 1048576) (hz : IsInts w.heap.size w a n vs) (hz' : IsInts w.heap.size w a' n vs) :
    Calls Tryz.prog 38 #[.slice a n cap, .slice a' n cap'] w fun e w' => e = .returned (.bool true) ∧ Below w.heap.size w w' := by
  obtain ⟨hlen, hcells⟩ := hz
  obtain ⟨_, hcells'⟩ := hz'
  go_enter Tryz.func38, Tryz.ntmps38
  go_wp2
  go_loopw [5] (fun i wr => ∃ k : Nat, k ≤ n ∧ i = .int .i64 k ∧ Below w.heap.size w wr) (fun i _ => n - (intOf i).toNat)
  case atStart => exact ⟨0, Nat.zero_le _, rfl, Below.refl _ _⟩
  case round =>
    obtain ⟨k, hk, rfl, hbel⟩ := hrel
    by_cases hlt : k < n
    · rcases hcells with h0 | ⟨b, off, rfl, hb, hc⟩
      · omega
      rcases hcells' with h0 | ⟨b', off', rfl, hb', hc'⟩
      · omega
      obtain ⟨x, hx⟩ : ∃ x, vs.getD k 0 = x := ⟨_, rfl⟩
      have c0 := (hbel.cell (p := ⟨b, off + k, none⟩) hb).trans (hc k hlt)
      have d0 := (hbel.cell (p := ⟨b', off' + k, none⟩) hb').trans (hc' k hlt)
      rw [hx] at c0 d0
      clear hc hc' hx
      go_wp2
      go_quiet (fail)
      go_wp2
      go_roundw
      case rel => exact ⟨k + 1, by omega, by go_num, drewN hbel _⟩
      case measure => simp [intOf]; omega
    · go_wp2
      go_ret
      exact ⟨rfl, hbel⟩

set_option maxHeartbeats 400000 in
theorem toStringS_open (B : Nat) (a : Option Addr) (n cap : Nat) (l : List ByteArray) (w : World) (hn : n ≤ 1048576) (hB : B ≤ w.heap.size) (hz : IsStrs B w a n l) :
    Calls Tryz.prog 35 #[.slice a n cap] w fun e w' => ∃ b, e = .returned (.slice (some ⟨b, 0, none⟩) n n) ∧ w.heap.size ≤ b ∧ IsStrs w'.heap.size w' (some ⟨b, 0, none⟩) n l ∧ Below w.heap.size w w' ∧ b < w'.heap.size ∧ ∀ j, j < n → w'.frozen? ⟨b, j, none⟩ = false := by
  obtain ⟨hlen, hcells⟩ := hz
  obtain ⟨i0, hi, hz0, hz1, hz2⟩ := info_parts infoStr
  have hmk : ∀ u : World, (Instr.makeSlice 31 (.int .i64 (n : Int)) (.int .i64 (n : Int))).run Tryz.prog u =
      .ok (.slice (some ⟨u.heap.size, 0, none⟩) n n) (u.alloc (.cells (madeCells #[.string ⟨#[]⟩] n) 9)) := fun u => by
    have h := run_make (P := Tryz.prog) u 31 9 i0 (.string ⟨#[]⟩) Tryz.underlying31 hi hz0 .i64 .i64 (n : Int) (n : Int) (by omega) (Int.le_refl _) (by rw [hz2]; omega) (by omega)
    have e : ((n : Int)).toNat = n := by omega
    rw [e] at h
    simpa [hz1, Value.cells] using h
  go_enter Tryz.func35, Tryz.ntmps35
  go_wp2
  go_loopw [4] (fun i wr => ∃ k : Nat, k ≤ n ∧ i = .int .i64 k ∧ Fill w.heap.size w wr n k (strCell l)) (fun i _ => n - (intOf i).toNat)
  case atStart =>
    have h := Fill.start w (madeCells #[.string ⟨#[]⟩] n) 9 (strCell l)
    rw [size_madeCells] at h
    exact ⟨0, Nat.zero_le _, rfl, h⟩
  case round =>
    obtain ⟨k, hk, rfl, hfill⟩ := hrel
    by_cases hlt : k < n
    · rcases hcells with h0 | ⟨b, off, rfl, hb, hc⟩
      · omega
      have c0 := (hfill.below.cell (p := ⟨b, off + k, none⟩) (by simp; omega)).trans (hc k (by omega))
      obtain ⟨x, hx⟩ : ∃ x, l[k]'(by omega) = x := ⟨_, rfl⟩
      rw [hx] at c0
      have HX : Hid (l.getD k noName = x) := (strs_at (by omega)).trans hx
      obtain ⟨v0, f0⟩ := hfill.there k (by omega)
      have hfz := hfill.open_
      have hsz := hfill.lt
      clear hmk hc hx
      go_wp2
      go_roundw
      case rel => exact ⟨k + 1, by omega, by go_num, hfill.store (by omega) (by unfold strCell; rw [HX.out])⟩
      case measure => simp [intOf]; omega
    · have : k = n := by omega
      subst this
      go_wp2
      go_ret
      refine ⟨_, rfl, Nat.le_refl _, ⟨hlen, .inr ⟨_, _, rfl, hfill.lt, fun i hi => ?_⟩⟩, hfill.below, hfill.lt, fun j _ => hfill.open_ j⟩
      have := hfill.done i (by omega)
      unfold strCell at this
      rw [strs_at hi] at this
      simpa using this
theorem toStringS_any (B : Nat) (a : Option Addr) (n cap : Nat) (l : List ByteArray) (w : World) (hn : n ≤ 1048576) (hB : B ≤ w.heap.size) (hz : IsStrs B w a n l) :
    Calls Tryz.prog 35 #[.slice a n cap] w fun e w' => ∃ b, e = .returned (.slice (some ⟨b, 0, none⟩) n n) ∧ w.heap.size ≤ b ∧ IsStrs w'.heap.size w' (some ⟨b, 0, none⟩) n l ∧ Below w.heap.size w w' := by
  refine (toStringS_open B a n cap l w hn hB hz).mono ?_
  rintro e w' ⟨b, h1, h2, h3, h4, _⟩
  exact ⟨b, h1, h2, h3, h4⟩

theorem eqStringS_same (B : Nat) (a a' : Option Addr) (n cap cap' : Nat) (l : List ByteArray) (w : World) (hn : n ≤ 1048576) (hB : B ≤ w.heap.size) (hz : IsStrs B w a n l) (hz' : IsStrs B w a' n l) :
    Calls Tryz.prog 37 #[.slice a n cap, .slice a' n cap'] w fun e w' => e = .returned (.bool true) ∧ Below w.heap.size w w' := by
  obtain ⟨hlen, hcells⟩ := hz
  obtain ⟨_, hcells'⟩ := hz'
  go_enter Tryz.func37, Tryz.ntmps37
  go_wp2
  go_loopw [5] (fun i wr => ∃ k : Nat, k ≤ n ∧ i = .int .i64 k ∧ Below w.heap.size w wr) (fun i _ => n - (intOf i).toNat)
  case atStart => exact ⟨0, Nat.zero_le _, rfl, Below.refl _ _⟩
  case round =>
    obtain ⟨k, hk, rfl, hbel⟩ := hrel
    by_cases hlt : k < n
    · rcases hcells with h0 | ⟨b, off, rfl, hb, hc⟩
      · omega
      rcases hcells' with h0 | ⟨b', off', rfl, hb', hc'⟩
      · omega
      have c0 := (hbel.cell (p := ⟨b, off + k, none⟩) (by simp; omega)).trans (hc k (by omega))
      have d0 := (hbel.cell (p := ⟨b', off' + k, none⟩) (by simp; omega)).trans (hc' k (by omega))
      generalize l[k]'(by omega) = x at c0 d0
      clear hc hc'
      go_wp2
      go_quiet (fail)
      go_wp2
      go_roundw
      case rel => exact ⟨k + 1, by omega, by go_num, drewN hbel _⟩
      case measure => simp [intOf]; omega
    · go_wp2
      go_ret
      exact ⟨rfl, hbel⟩

/-- what szStringS tells -/
def SzStr (n : Nat) (l : List ByteArray) (left : Int) (w : World) (e : Ending) (w' : World) : Prop :=
  ∃ r : Int, e = .returned (.int .i64 r) ∧ w' = w ∧ r ≤ left ∧ -1 ≤ r ∧ (0 ≤ r → n ≤ 1048576 ∧ ∀ x ∈ l, x.size ≤ 1048576)
set_option maxHeartbeats 800000 in
set_option maxRecDepth 100000 in
theorem szStringS_any (B : Nat) (a : Option Addr) (n cap : Nat) (l : List ByteArray) (left : Int) (w : World) (h0 : 0 ≤ left) (h1 : left ≤ 1048576) (hn : n ≤ maxLen) (hs : ∀ x ∈ l, x.size ≤ maxLen) (hz : IsStrs B w a n l) :
    Calls Tryz.prog 34 #[.slice a n cap, .int .i64 left] w fun e w' => SzStr n l left w e w' := by
  obtain ⟨hlen, hcells⟩ := hz
  unfold maxLen at hn hs
  have hw : IntKind.i64.wrap (left - n) = left - n := by rw [IntKind.wrap_i64]; omega
  by_cases h : left < n
  · clear hcells hs
    go_enter Tryz.func34, Tryz.ntmps34
    go_wp2_with fail
    go_ret
    exact ⟨-1, rfl, rfl, by omega, by omega, fun h => by omega⟩
  go_enter Tryz.func34, Tryz.ntmps34
  go_wp2_with fail
  go_loopw [1, 5] (fun v i wr => ∃ (k : Nat) (r : Int), k ≤ n ∧ i = .int .i64 k ∧ v = .int .i64 r ∧ 0 ≤ r ∧ r ≤ left ∧ Hid (∀ j, j < k → (l.getD j noName).size ≤ 1048576) ∧ wr = w) (fun _ i _ => n - (intOf i).toNat)
  case atStart => exact ⟨0, left - n, Nat.zero_le _, rfl, rfl, by omega, by omega, fun j hj => by omega, rfl⟩
  case round =>
    obtain ⟨k, r, hk, rfl, rfl, hr0, hr1, hdone, rfl⟩ := hrel
    by_cases hlt : k < n
    · rcases hcells with h0 | ⟨b, off, rfl, hb, hc⟩
      · omega
      obtain ⟨xs, hx⟩ : ∃ x, l[k]'(by omega) = x := ⟨_, rfl⟩
      have c0 := hc k (by omega)
      have hxs : xs.size ≤ 9223372036854775807 := by
        have := hs (l[k]'(by omega)) (List.getElem_mem _)
        rw [hx] at this; omega
      rw [hx] at c0
      have HX : Hid (l.getD k noName = xs) := (strs_at (by omega)).trans hx
      have hw2 : IntKind.i64.wrap (r - xs.size) = r - xs.size := by rw [IntKind.wrap_i64]; omega
      clear hc hx hs
      by_cases hrs : r < xs.size
      · go_wp2_with fail
        go_ret
        exact ⟨-1, rfl, rfl, by omega, by omega, fun h => by omega⟩
      · have q1 : r - (xs.size : Int) ≤ left := by omega
        have q2 : xs.size ≤ 1048576 := by omega
        go_wp2_with fail
        go_roundw
        case rel =>
          refine ⟨k + 1, r - xs.size, by omega, by go_num, rfl, by omega, q1, ?_, trivial⟩
          intro j hj
          by_cases e : j = k
          · subst e; rw [HX.out]; exact q2
          · exact hdone.out j (by omega)
        case measure => simp [intOf]; omega
    · have : k = n := by omega
      subst this
      go_wp2_with fail
      go_ret
      refine ⟨r, rfl, rfl, hr1, by omega, fun _ => ⟨by omega, fun x hx => ?_⟩⟩
      obtain ⟨j, hj, rfl⟩ := List.getElem_of_mem hx
      have := hdone.out j (by omega)
      rwa [strs_at hj] at this
end Go.Proofs.YtbpfonmkbbnkcaaGreatDoor
