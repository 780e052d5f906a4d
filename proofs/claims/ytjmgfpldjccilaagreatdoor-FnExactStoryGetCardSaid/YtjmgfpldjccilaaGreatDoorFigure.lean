/- The model's figures. -/
import Derived.Test.YtjmgfpldjccilaaGreatDoorProg
import Derived.Test.YtjmgfpldjccilaaGreatDoorCommon
import Derived.WalkKit
import Derived.ProofKit
import Derived.Handy
import Derived.PlainAid
namespace Go.Proofs.YtjmgfpldjccilaaGreatDoor
open Go.RowKit Go.PlainAid

def figB (n : Int) : Bool := decide (48 ≤ n ∧ n ≤ 57)

theorem l1Figure_any (n : Int) (w : World) : Calls Tryz.prog 74 #[.int .u8 n] w fun e w' => e = .returned (.bool (figB n)) ∧ w' = w := by
  by_cases h1 : 48 ≤ n
  · go_enter Tryz.func74, Tryz.ntmps74
    go_wp2
    go_ret
    exact ⟨ret_bool (by simp [figB, h1]), rfl⟩
  · go_enter Tryz.func74, Tryz.ntmps74
    go_wp2
    go_ret
    exact ⟨ret_bool (by simp [figB]; omega), rfl⟩
end Go.Proofs.YtjmgfpldjccilaaGreatDoor
