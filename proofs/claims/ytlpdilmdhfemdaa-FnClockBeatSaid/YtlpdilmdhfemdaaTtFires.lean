/- The promises' comparison of fires. -/
import Derived.Test.YtlpdilmdhfemdaaFireLaw
namespace Go.Proofs.Ytlpdilmdhfemdaa
open Go Go.RowKit Go.PlainAid
set_option linter.unusedSimpArgs false
set_option linter.unusedVariables false

set_option maxHeartbeats 1600000 in
set_option maxRecDepth 100000 in
theorem ttFires_same (B B' : Nat) (a a' : Option Addr) (n cap cap' : Nat) (l : List Fr) (w : World) (hn : n ≤ 1048576) (hz : FreeF B w a n l) (hz' : FreeF B' w a' n l) :
    Calls Try.prog 11 #[.slice a n cap, .slice a' n cap'] w fun e w' => e = .returned (.bool true) ∧ Below w.heap.size w w' := by
  have HZ := hidOf hz
  have HZ' := hidOf hz'
  clear hz hz'
  go_enter Try.func11, Try.ntmps11
  go_wp2
  go_loopw [5] (fun i wr => ∃ k : Nat, k ≤ n ∧ i = .int .i64 k ∧ Below w.heap.size w wr) (fun i _ => n - (intOf i).toNat)
  case atStart => exact ⟨0, Nat.zero_le _, rfl, Below.refl _ _⟩
  case round =>
    obtain ⟨k, hk, rfl, hbel⟩ := hrel
    by_cases hlt : k < n
    · obtain ⟨b, x, y, rfl, hb, hxy, c0, c1⟩ := (HZ.out.keep hbel).at hlt
      obtain ⟨b', x', y', rfl, hb', hxy', d0, d1⟩ := (HZ'.out.keep hbel).at hlt
      rw [hxy] at hxy'
      cases hxy'
      clear hxy
      go_wp2
      go_quiet (fail)
      go_wp2
      go_roundw
      case rel => exact ⟨k + 1, by omega, by go_num, drewN hbel _⟩
      case measure => simp [intOf]; omega
    · go_wp2
      go_ret
      exact ⟨rfl, hbel⟩
end Go.Proofs.Ytlpdilmdhfemdaa
