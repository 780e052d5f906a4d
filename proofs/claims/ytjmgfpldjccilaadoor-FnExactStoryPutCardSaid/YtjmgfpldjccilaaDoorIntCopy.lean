/- Copies of numbers, and of lists of numbers. -/
import Derived.Test.YtjmgfpldjccilaaDoorCpMem
import Derived.Test.YtjmgfpldjccilaaDoorIntWalks
import Derived.Test.YtjmgfpldjccilaaDoorIntPure
import Derived.Test.YtjmgfpldjccilaaDoorSizes
import Derived.Test.YtjmgfpldjccilaaDoorBoxNew
namespace Go.Proofs.YtjmgfpldjccilaaDoor
open Go Go.RowKit Go.PlainAid
set_option linter.unusedSimpArgs false
set_option linter.unusedVariables false

/-- the law's size of a list of numbers -/
theorem szIntS_any (a : Option Addr) (n cap : Nat) (left : Int) (w : World) (h0 : 0 ≤ left) (h1 : left ≤ 1048576) (hn : n ≤ maxLen) :
    Calls Tryd.prog 32 #[.slice a n cap, .int .i64 left] w fun e w' => SzP n left w e w' := by
  unfold maxLen at hn
  have hw := wrap_sub (left := left) (n := n) h0 h1 (by omega)
  by_cases h : left < n
  · go_enter Tryd.func32, Tryd.ntmps32
    go_wp2_with fail
    go_ret
    exact ⟨-1, rfl, Below.refl _ _, by omega, by omega, fun h => by omega⟩
  · go_enter Tryd.func32, Tryd.ntmps32
    go_wp2_with fail
    go_ret
    exact ⟨left - n, rfl, Below.refl _ _, by omega, by omega, fun h => by omega⟩
end Go.Proofs.YtjmgfpldjccilaaDoor
