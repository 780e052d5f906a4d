/- The program's code as it grows: which ops are no numbers; ops put behind others. -/
import Derived.Test.YtbpfonmkbbnkcaaGreatDoorFold
import Derived.Test.YtbpfonmkbbnkcaaGreatDoorBunD
namespace Go.Proofs.YtbpfonmkbbnkcaaGreatDoor
open Go Go.RowKit Go.PlainAid
set_option linter.unusedSimpArgs false
set_option linter.unusedVariables false

theorem isNotNum_any (k n : Int) (w : World) : Calls Tryz.prog 80 #[.agg #[.int .i64 k, .int .i64 n]] w fun e w' => e = .returned (.bool (k != 1)) ∧ Below w.heap.size w w' := by
  go_enter Tryz.func80, Tryz.ntmps80
  go_wp2
  go_ret
  exact ⟨rfl, (Below.refl _ _).alloc (Nat.le_refl _) _⟩
/-- whether one of the ops is no number -/
def notNum (zs : List (Int × Int)) : Bool := zs.any (fun z => z.1 != 1)
theorem notNum_at {zs : List (Int × Int)} {i : Nat} (hi : i < zs.length) (h : (zs.getD i (0, 0)).1 ≠ 1) : notNum zs = true := by
  unfold notNum
  rw [List.any_eq_true]
  refine ⟨zs[i], List.getElem_mem hi, ?_⟩
  rw [List.getD_eq_getElem?_getD, List.getElem?_eq_getElem hi] at h
  simpa using h
theorem notNum_none {zs : List (Int × Int)} (h : ∀ i, i < zs.length → (zs.getD i (0, 0)).1 = 1) : notNum zs = false := by
  unfold notNum
  rw [List.any_eq_false]
  intro z hz
  obtain ⟨i, hi, rfl⟩ := List.getElem_of_mem hz
  have := h i hi
  rw [List.getD_eq_getElem?_getD, List.getElem?_eq_getElem hi] at this
  simpa using this
/-- what looking for an op that is no number leaves -/
def IdxPost (w : World) (b : Bool) (e : Ending) (w' : World) : Prop := ∃ r : Int, e = .returned (.int .i64 r) ∧ decide (0 ≤ r) = b ∧ -1 ≤ r ∧ r ≤ 1048576 ∧ Below w.heap.size w w'

set_option maxHeartbeats 800000 in
set_option maxRecDepth 100000 in
theorem indexFunc_any (a : Option Addr) (n cap : Nat) (zs : List (Int × Int)) (w : World) (hn : n ≤ 1048576) (hz : IsOps w a n zs) :
    Calls Tryz.prog 107 #[.slice a n cap, .func (Fn.func 80) #[] #[]] w fun e w' => IdxPost w (notNum zs) e w' := by
  obtain ⟨hlen, hcells⟩ := hz
  obtain ⟨D, hD⟩ : ∃ D, notNum zs = D := ⟨_, rfl⟩
  have HD : Hid (notNum zs = D) := hD
  rw [hD]
  clear hD
  go_enter Tryz.func107, Tryz.ntmps107
  go_wp2_with fail
  go_loopw [8] (fun i wr => ∃ k : Nat, k ≤ n ∧ i = .int .i64 k ∧ Hid (∀ j, j < k → (zs.getD j (0, 0)).1 = 1) ∧ Below w.heap.size w wr) (fun i _ => n - (intOf i).toNat)
  case atStart => exact ⟨0, Nat.zero_le _, rfl, fun j h => by omega, Below.refl _ _⟩
  case round =>
    obtain ⟨k, hk, rfl, hdone, hbel⟩ := hrel
    by_cases hlt : k < n
    · rcases hcells with h0 | ⟨b, off, rfl, hb, hc⟩
      · omega
      have c0 := (hbel.cell (p := ⟨b, off + k * 2, none⟩) hb).trans (hc k hlt).1
      have c1 := (hbel.cell (p := ⟨b, off + k * 2 + 1, none⟩) hb).trans (hc k hlt).2
      obtain ⟨⟨x, y⟩, hxy⟩ : ∃ xy, zs.getD k (0, 0) = xy := ⟨_, rfl⟩
      rw [hxy] at c0 c1
      have HXY : Hid (zs.getD k (0, 0) = (x, y)) := hxy
      clear hc hxy
      by_cases hx : x = 1
      · subst hx
        go_wp2_with (go_at_call 80; refine (isNotNum_any _ _ _).mono ?_; rintro e w1 ⟨rfl, hb1⟩; have HB1 : Hid (Below w.heap.size w w1) := hbel.trans (hb1.mono hbel.size); clear hb1)
        go_roundw
        case rel =>
          refine ⟨k + 1, by omega, by go_num, ?_, HB1.out⟩
          intro j hj
          by_cases e : j = k
          · subst e; rw [HXY.out]
          · exact hdone.out j (by omega)
        case measure => simp [intOf]; omega
      · have hx' : (x != 1) = true := by simp [hx]
        have HDT : Hid (D = true) := by
          show D = true
          rw [← HD.out]; exact notNum_at (i := k) (by omega) (by rw [HXY.out]; exact hx)
        go_wp2_with (go_at_call 80; refine (isNotNum_any _ _ _).mono ?_; rintro e w1 ⟨rfl, hb1⟩; have HB1 : Hid (Below w.heap.size w w1) := hbel.trans (hb1.mono hbel.size); clear hb1)
        go_ret
        exact ⟨k, rfl, by rw [HDT.out]; exact decide_eq_true (by omega), by omega, by omega, HB1.out⟩
    · have HDF : Hid (D = false) := by
        show D = false
        rw [← HD.out]; exact notNum_none (fun i hi => hdone.out i (by omega))
      go_wp2_with fail
      go_ret
      exact ⟨-1, rfl, by rw [HDF.out]; rfl, by omega, by omega, hbel⟩
theorem contains_any (a : Option Addr) (n cap : Nat) (zs : List (Int × Int)) (w : World) (hn : n ≤ 1048576) (hz : IsOps w a n zs) :
    Calls Tryz.prog 79 #[.slice a n cap, .func (Fn.func 80) #[] #[]] w fun e w' => e = .returned (.bool (notNum zs)) ∧ Below w.heap.size w w' := by
  have HI := hidOf (indexFunc_any a n cap zs w hn hz)
  clear hz
  go_enter Tryz.func79, Tryz.ntmps79
  go_wp2_with fail
  refine HI.out.mono ?_
  rintro e w1 ⟨r, rfl, hd, h1, h2, hb1⟩
  have HDD : Hid (decide (0 ≤ r) = notNum zs) := hd
  clear hd HI
  go_wp2_with fail
  go_ret
  exact ⟨ret_bool HDD.out, hb1⟩
end Go.Proofs.YtbpfonmkbbnkcaaGreatDoor
