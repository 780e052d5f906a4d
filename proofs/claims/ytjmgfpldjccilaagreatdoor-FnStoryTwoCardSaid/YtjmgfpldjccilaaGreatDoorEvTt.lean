/- The promises' comparison of events. -/
import Derived.Test.YtjmgfpldjccilaaGreatDoorIntPure
import Derived.BigQuiet
namespace Go.Proofs.YtjmgfpldjccilaaGreatDoor
open Go Go.RowKit Go.PlainAid
set_option linter.unusedSimpArgs false
set_option linter.unusedVariables false

theorem ttInts_same (a a' : Option Addr) (n cap cap' : Nat) (vs : List Int) (w : World) (hn : n ≤ 1048576) (hz : IsInts w.heap.size w a n vs) (hz' : IsInts w.heap.size w a' n vs) :
    Calls Tryz.prog 30 #[.slice a n cap, .slice a' n cap'] w fun e w' => e = .returned (.bool true) ∧ Below w.heap.size w w' := by
  obtain ⟨hlen, hcells⟩ := hz
  obtain ⟨_, hcells'⟩ := hz'
  go_enter Tryz.func30, Tryz.ntmps30
  go_wp2
  go_loopw [5] (fun i wr => ∃ k : Nat, k ≤ n ∧ i = .int .i64 k ∧ Below w.heap.size w wr) (fun i _ => n - (intOf i).toNat)
  case atStart => exact ⟨0, Nat.zero_le _, rfl, Below.refl _ _⟩
  case round =>
    obtain ⟨k, hk, rfl, hbel⟩ := hrel
    by_cases hlt : k < n
    · rcases hcells with h0 | ⟨b, off, rfl, hb, hc⟩
      · omega
      rcases hcells' with h0 | ⟨b', off', rfl, hb', hc'⟩
      · omega
      obtain ⟨x, hx⟩ : ∃ x, vs.getD k 0 = x := ⟨_, rfl⟩
      have c0 := (hbel.cell (p := ⟨b, off + k, none⟩) hb).trans (hc k hlt)
      have d0 := (hbel.cell (p := ⟨b', off' + k, none⟩) hb').trans (hc' k hlt)
      rw [hx] at c0 d0
      clear hc hc' hx
      go_wp2
      go_quiet (fail)
      go_wp2
      go_roundw
      case rel => exact ⟨k + 1, by omega, by go_num, drewN hbel _⟩
      case measure => simp [intOf]; omega
    · go_wp2
      go_ret
      exact ⟨rfl, hbel⟩

set_option maxHeartbeats 1600000 in
set_option maxRecDepth 100000 in
theorem ttEvent_same (i0 i1 i2 : Int) (a a' : Option Addr) (n c c' : Nat) (l : List Int) (w : World) (hn : n ≤ 1048576) (hz : IsInts w.heap.size w a n l) (hz' : IsInts w.heap.size w a' n l) :
    Calls Tryz.prog 11 #[.agg #[.int .i64 i0, .int .i64 i1, .int .i64 i2, .slice a n c], .agg #[.int .i64 i0, .int .i64 i1, .int .i64 i2, .slice a' n c']] w fun e w' => e = .returned (.bool true) ∧ Below w.heap.size w w' := by
  have HE : Hid (∀ W, Below w.heap.size w W → Calls Tryz.prog 30 #[.slice a n c, .slice a' n c'] W fun e w' => e = .returned (.bool true) ∧ Below W.heap.size W w') := fun W hb => ttInts_same a a' n c c' l W hn (hz.up hb) (hz'.up hb)
  have HB0 : Hid (Below w.heap.size w ((w.alloc (.cells #[.int .i64 i0, .int .i64 i1, .int .i64 i2, .slice a n c] 26)).alloc (.cells #[.int .i64 i0, .int .i64 i1, .int .i64 i2, .slice a' n c'] 26))) := ((Below.refl _ _).alloc (Nat.le_refl _) _).alloc (by simp) _
  clear hz hz'
  go_enter Tryz.func11, Tryz.ntmps11
  go_wp2_with fail
  refine (HE.out _ HB0.out).mono ?_
  rintro e w1 ⟨rfl, hb1⟩
  have HB1 := hidOf (HB0.out.trans (hb1.mono HB0.out.size))
  clear hb1
  go_wp2_with fail
  go_ret
  exact ⟨rfl, HB1.out⟩
end Go.Proofs.YtjmgfpldjccilaaGreatDoor
