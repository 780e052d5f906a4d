/- The model's figures. -/
import Derived.Test.YtjmgfpldjccilaaDoorProg
import Derived.Test.YtjmgfpldjccilaaDoorCommon
import Derived.WalkKit
import Derived.ProofKit
import Derived.Handy
import Derived.PlainAid
namespace Go.Proofs.YtjmgfpldjccilaaDoor
open Go.RowKit Go.PlainAid

def figB (n : Int) : Bool := decide (48 ≤ n ∧ n ≤ 57)

theorem l1Figure_any (n : Int) (w : World) : Calls Tryd.prog 73 #[.int .u8 n] w fun e w' => e = .returned (.bool (figB n)) ∧ w' = w := by
  by_cases h1 : 48 ≤ n
  · go_enter Tryd.func73, Tryd.ntmps73
    go_wp2
    go_ret
    exact ⟨ret_bool (by simp [figB, h1]), rfl⟩
  · go_enter Tryd.func73, Tryd.ntmps73
    go_wp2
    go_ret
    exact ⟨ret_bool (by simp [figB]; omega), rfl⟩
end Go.Proofs.YtjmgfpldjccilaaDoor
