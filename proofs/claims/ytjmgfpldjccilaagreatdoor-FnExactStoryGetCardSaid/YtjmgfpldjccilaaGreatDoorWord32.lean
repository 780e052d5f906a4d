/- Numbers in 32 bits: the model's way round, and whether a number is one. -/
import Derived.Test.YtjmgfpldjccilaaGreatDoorProg
import Derived.Test.YtjmgfpldjccilaaGreatDoorCommon
import Derived.WalkKit
import Derived.ProofKit
import Derived.Handy
import Derived.PlainAid
namespace Go.Proofs.YtjmgfpldjccilaaGreatDoor
open Go.RowKit Go.PlainAid

/-- a number in 32 bits -/
def wr32 (n : Int) : Int := (n + 2147483648) % 4294967296 - 2147483648
theorem wr32_of (n r : Int) (h : n.tmod 4294967296 = r) : (-4294967296 < r ∧ r < 4294967296) ∧ wr32 n = if r < -2147483648 then r + 4294967296 else if 2147483647 < r then r - 4294967296 else r := by
  have t1 : n.tmod 4294967296 = if 0 ≤ n then n % 4294967296 else -((-n) % 4294967296) := by
    split
    · exact Int.tmod_eq_emod_of_nonneg (by omega)
    · rw [show n = -(-n) from by omega, Int.neg_tmod, Int.tmod_eq_emod_of_nonneg (by omega)]; simp
  rw [t1] at h
  unfold wr32
  split at h <;> split <;> (try split) <;> omega
theorem l1Wrap_any (n : Int) (w : World) : Calls Tryz.prog 80 #[.int .i64 n] w fun e w' => e = .returned (.int .i64 (wr32 n)) ∧ w' = w := by
  obtain ⟨r, hr⟩ : ∃ r, n.tmod 4294967296 = r := ⟨_, rfl⟩
  obtain ⟨⟨h1, h2⟩, h3⟩ := wr32_of n r hr
  rw [h3]
  clear h3
  by_cases g1 : r < -2147483648
  · rw [if_pos g1]
    go_enter Tryz.func80, Tryz.ntmps80
    go_wp2
    go_ret
    exact ⟨rfl, rfl⟩
  rw [if_neg g1]
  by_cases g2 : 2147483647 < r
  · rw [if_pos g2]
    go_enter Tryz.func80, Tryz.ntmps80
    go_wp2
    go_ret
    exact ⟨rfl, rfl⟩
  · rw [if_neg g2]
    go_enter Tryz.func80, Tryz.ntmps80
    go_wp2
    go_ret
    exact ⟨rfl, rfl⟩

theorem is32_any (n : Int) (w : World) : Calls Tryz.prog 88 #[.int .i64 n] w fun e w' => e = .returned (.bool (decide (-2147483648 ≤ n ∧ n ≤ 2147483647))) ∧ w' = w := by
  by_cases h : -2147483648 ≤ n
  · go_enter Tryz.func88, Tryz.ntmps88
    go_wp2
    go_ret
    exact ⟨ret_bool (by simp [h]), rfl⟩
  · go_enter Tryz.func88, Tryz.ntmps88
    go_wp2
    go_ret
    exact ⟨ret_bool (by simp; omega), rfl⟩
end Go.Proofs.YtjmgfpldjccilaaGreatDoor
