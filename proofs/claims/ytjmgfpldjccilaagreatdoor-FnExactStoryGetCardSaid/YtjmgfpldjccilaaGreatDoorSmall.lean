/- Whether a number is within bounds. -/
import Derived.Test.YtjmgfpldjccilaaGreatDoorProg
import Derived.Test.YtjmgfpldjccilaaGreatDoorCommon
import Derived.WalkKit
import Derived.ProofKit
import Derived.Handy
import Derived.PlainAid
namespace Go.Proofs.YtjmgfpldjccilaaGreatDoor
open Go.RowKit Go.PlainAid

theorem l1In_any (n lo hi : Int) (w : World) : Calls Tryz.prog 65 #[.int .i64 n, .int .i64 lo, .int .i64 hi] w fun e w' => e = .returned (.bool (decide (lo ≤ n ∧ n ≤ hi))) ∧ w' = w := by
  by_cases h1 : lo ≤ n
  · go_enter Tryz.func65, Tryz.ntmps65
    go_wp2
    go_ret
    exact ⟨ret_bool (by simp [h1]), rfl⟩
  · go_enter Tryz.func65, Tryz.ntmps65
    go_wp2
    go_ret
    exact ⟨ret_bool (by simp; omega), rfl⟩
end Go.Proofs.YtjmgfpldjccilaaGreatDoor
