/- Numbers in memory. -/
import Derived.Test.YtjmgfpldjccilaaGreatDoorProg
import Derived.Test.YtjmgfpldjccilaaGreatDoorCommon
import Derived.Test.YtjmgfpldjccilaaGreatDoorOpenMem
import Derived.WalkKit
import Derived.ProofKit
import Derived.Handy
import Derived.PlainAid
namespace Go.Proofs.YtjmgfpldjccilaaGreatDoor
open Go Go.RowKit Go.PlainAid
set_option linter.unusedSimpArgs false
set_option linter.unusedVariables false

/-- the slice (a, n), below block B, reads in w as these numbers -/
def IsInts (B : Nat) (w : World) (a : Option Addr) (n : Nat) (vs : List Int) : Prop :=
  vs.length = n ∧ (n = 0 ∨ ∃ b off, a = some ⟨b, off, none⟩ ∧ b < B ∧ ∀ i, i < n → w.cell? ⟨b, off + i, none⟩ = some (.int .i64 (vs.getD i 0)))
theorem IsInts.below {B : Nat} {w w' : World} {a : Option Addr} {n : Nat} {vs : List Int} (h : IsInts B w a n vs) (hb : Below B w w') : IsInts B w' a n vs := by
  obtain ⟨h1, h2⟩ := h
  refine ⟨h1, ?_⟩
  rcases h2 with h2 | ⟨b, off, rfl, hlt, hc⟩
  · exact .inl h2
  · exact .inr ⟨b, off, rfl, hlt, fun i hi => (hb.cell hlt).trans (hc i hi)⟩
theorem IsInts.mono {B B' : Nat} {w : World} {a : Option Addr} {n : Nat} {vs : List Int} (h : IsInts B w a n vs) (hb : B ≤ B') : IsInts B' w a n vs := by
  obtain ⟨h1, h2⟩ := h
  refine ⟨h1, ?_⟩
  rcases h2 with h2 | ⟨b, off, rfl, hlt, hc⟩
  · exact .inl h2
  · exact .inr ⟨b, off, rfl, by omega, hc⟩

theorem infoInt : (Tryz.prog.info? 3).map (fun i => (i.zero, i.size, i.bytes)) = some (some (.int .i64 0), 1, 8) := by kernel_rfl
def intCell (vs : List Int) (j : Nat) : Value := .int .i64 (vs.getD j 0)
end Go.Proofs.YtjmgfpldjccilaaGreatDoor
