/- Values that can go by a wire: what the program asks of them. -/
import Derived.Test.YtjmgfpldjccilaaGreatDoorAll32
import Derived.Test.YtjmgfpldjccilaaGreatDoorIntMem
import Derived.Test.YtjmgfpldjccilaaGreatDoorSmall
import Derived.Test.YtjmgfpldjccilaaGreatDoorWord32
import Derived.BigQuiet
namespace Go.Proofs.YtjmgfpldjccilaaGreatDoor
open Go Go.RowKit Go.PlainAid
set_option linter.unusedSimpArgs false
set_option linter.unusedVariables false

/-- at most three values, each in 32 bits -/
def sentB (l : List Int) : Bool := decide (l.length ≤ 3) && all32 l
theorem areSent_any (B : Nat) (a : Option Addr) (n cap : Nat) (vs : List Int) (w : World) (hn : n ≤ maxLen) (hz : IsInts B w a n vs) :
    Calls Tryz.prog 57 #[.slice a n cap] w fun e w' => e = .returned (.bool (sentB vs)) ∧ w' = w := by
  have HC := hidOf (areValues_any B a n cap n vs w hn hz)
  have hl := hz.1
  obtain ⟨D, hD⟩ : ∃ D, all32 vs = D := ⟨_, rfl⟩
  unfold sentB
  rw [hD] at HC ⊢
  clear hD
  have hn' := hn
  unfold maxLen at hn'
  by_cases h : n ≤ 3
  · go_enter Tryz.func57, Tryz.ntmps57
    go_wp2_with (go_at_call 76; refine HC.out.mono ?_; rintro e w' ⟨rfl, hw⟩; rw [hw]; clear hw w')
    go_ret
    exact ⟨ret_bool (by simp [hl, h]), rfl⟩
  · go_enter Tryz.func57, Tryz.ntmps57
    go_wp2_with (go_at_call 76; refine HC.out.mono ?_; rintro e w' ⟨rfl, hw⟩; rw [hw]; clear hw w')
    go_ret
    exact ⟨ret_bool (by simp [hl, h]), rfl⟩
end Go.Proofs.YtjmgfpldjccilaaGreatDoor
