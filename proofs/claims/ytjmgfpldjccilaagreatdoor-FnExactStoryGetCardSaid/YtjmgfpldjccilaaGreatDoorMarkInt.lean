/- The law's marks in numbers, and what is held of them. -/
import Derived.WalkKit
import Derived.ProofKit
import Derived.Handy
import Derived.PlainAid
import Derived.Test.YtjmgfpldjccilaaGreatDoorMvR
import Derived.Deep.RegionHeld3
namespace Go.Proofs.YtjmgfpldjccilaaGreatDoor
open Go Go.RowKit Go.PlainAid
set_option linter.unusedSimpArgs false
set_option linter.unusedVariables false

set_option maxHeartbeats 1600000 in
set_option maxRecDepth 100000 in
theorem markIntS_kp (b n cap : Nat) (k : Int) (w : World) (h : Open b (n) w) (hl : n ≤ 100000000) (hk0 : 0 < k) (hk1 : k ≤ 10000000000) :
    Calls Tryz.prog 43 #[.slice (some ⟨b, 0, none⟩) n cap, .int .i64 k] w fun e w' => e = .returned (.int .i64 (k + n)) ∧ Mv b w w' ∧ Keep b w w' ∧ ∀ i : Nat, i < n → w'.cell? ⟨b, i, none⟩ = some (.int .i64 (k + i)) := by
  have HO := hidOf h
  clear h
  go_enter Tryz.func43, Tryz.ntmps43
  go_wp2_with fail
  go_loopw [1, 5] (fun q i wr => ∃ m : Nat, m ≤ n ∧ i = .int .i64 m ∧ q = .int .i64 (k + m) ∧ Hid (Open b (n) wr) ∧ Mv b w wr ∧ Hid (Keep b w wr) ∧ Hid (∀ i : Nat, i < m → wr.cell? ⟨b, i, none⟩ = some (.int .i64 (k + i)))) (fun _ i _ => n - (intOf i).toNat)
  case atStart => exact ⟨0, Nat.zero_le _, rfl, by simp, HO, Mv.refl _ _, Keep.refl _ _, fun i hi => absurd hi (Nat.not_lt_zero _)⟩
  case round =>
    obtain ⟨m, hm, rfl, rfl, HC, hbel, HKP, HK⟩ := hrel
    have p0 : IntKind.i64.wrap (k + m + 1) = k + m + 1 := IntWalk.i64_in _ ⟨by omega, by omega⟩
    by_cases hlt : m < n
    · have hbs := HC.out.1
      obtain ⟨⟨x0, c0⟩, f0⟩ := HC.out.2 (m) (by omega)
      go_wp2_with fail
      go_roundw
      case rel => exact ⟨m + 1, by omega, by go_num, congrArg (Value.int IntKind.i64) (by push_cast; omega), (HC.out.set _ _ (by omega)), (hbel.cell _ _), (HKP.out.trans (Keep.cell _ _ _ _)), by
          intro i hi
          by_cases e : i = m
          · subst e; exact World.cell?_setCell_same _ _ _ c0
          · rw [setCell_ne _ _ _ _ _ (fun h => e h.symm)]; exact HK.out i (by omega)⟩
      case measure => simp [intOf]; omega
    · have : m = n := by omega
      subst this
      go_wp2_with fail
      go_ret
      exact ⟨rfl, hbel, HKP.out, HK.out⟩

set_option maxHeartbeats 1600000 in
set_option maxRecDepth 100000 in
theorem heldIntS_any (b n cap : Nat) (k : Int) (w : World) (h : n = 0 ∨ (b < w.heap.size ∧ ∀ i : Nat, i < n → w.cell? ⟨b, i, none⟩ = some (.int .i64 (k + i)))) (a : Option Addr) (ha : n = 0 ∨ a = some ⟨b, 0, none⟩) (hl : n ≤ 100000000) (hk0 : 0 < k) (hk1 : k ≤ 10000000000) :
    Calls Tryz.prog 44 #[.slice a n cap, .int .i64 k] w fun e w' => e = .returned (.int .i64 (k + n)) ∧ Below w.heap.size w w' := by
  go_enter Tryz.func44, Tryz.ntmps44
  go_wp2_with fail
  go_loopw [1, 5] (fun q i wr => ∃ m : Nat, m ≤ n ∧ i = .int .i64 m ∧ q = .int .i64 (k + m) ∧ Below w.heap.size w wr) (fun _ i _ => n - (intOf i).toNat)
  case atStart => exact ⟨0, Nat.zero_le _, rfl, by simp, Below.refl _ _⟩
  case round =>
    obtain ⟨m, hm, rfl, rfl, hbel⟩ := hrel
    have p0 : IntKind.i64.wrap (k + m + 1) = k + m + 1 := IntWalk.i64_in _ ⟨by omega, by omega⟩
    by_cases hlt : m < n
    · rcases h with h0 | ⟨hb, hc⟩
      · omega
      rcases ha with h0 | rfl
      · omega
      have c0 := (hbel.cell (p := ⟨b, m, none⟩) hb).trans (hc m hlt)
      have hbr : b < wr.heap.size := by have := hbel.size; omega
      clear hc
      go_wp2_with fail
      go_roundw
      case rel => exact ⟨m + 1, by omega, by go_num, congrArg (Value.int IntKind.i64) (by push_cast; omega), hbel⟩
      case measure => simp [intOf]; omega
    · have : m = n := by omega
      subst this
      go_wp2_with fail
      go_ret
      exact ⟨rfl, hbel⟩
end Go.Proofs.YtjmgfpldjccilaaGreatDoor
