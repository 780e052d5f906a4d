/- The reader of drawn bytes: one and pick, and what they leave. -/
import Derived.Test.YtjmgfpldjccilaaGreatDoorOneI
namespace Go.Proofs.YtjmgfpldjccilaaGreatDoor
open Go Go.RowKit Go.PlainAid
set_option linter.unusedSimpArgs false
set_option linter.unusedVariables false

theorem pick_mv (p : Nat) (a : Option Addr) (n cap : Nat) (bs : List Int) (k : Nat) (m : Int) (w : World) (hk : k ≤ 1000000) (hm : m ≤ 1000000) (hr : RdAt w p a n cap bs k) :
    Calls Tryz.prog 26 #[.pointer (some ⟨p, 0, none⟩), .int .i64 m] w fun e w' => ∃ v, e = .returned (.int .i64 v) ∧ 0 ≤ v ∧ (1 ≤ m → v < m) ∧ RdAt w' p a n cap bs (k + 1) ∧ Mv p w w' :=
  (pick_any p a n cap bs k m w hk hm hr).mono (fun e w' ⟨v, h1, h2, h3, d, h4⟩ => ⟨v, h1, h2, h3, by rw [h4]; exact hr.step d, by rw [h4]; exact Mv.step _ _ _ _⟩)
/-- one of a list that was just made -/
theorem one_at (L : List Int) (t : TypeId) (m : Nat) (w W : World) (p : Nat) (a : Option Addr) (n cap : Nat) (bs : List Int) (k g : Nat) (hk : k ≤ 1000000) (hr : RdAt w p a n cap bs k) (hm : L.length = m) (h1 : 1 ≤ m) (h2 : m ≤ 1000) (hg : g = w.heap.size) (hW : W = w.alloc (.cells (L.map (Value.int .i64)).toArray t)) :
    Calls Tryz.prog 45 #[.pointer (some ⟨p, 0, none⟩), .slice (some ⟨g, 0, none⟩) m m] W fun e w' => ∃ y, e = .returned (.int .i64 y) ∧ y ∈ L ∧ RdAt w' p a n cap bs (k + 1) ∧ Mv p w w' := by
  subst hg
  subst hW
  exact one_newI w p a n cap bs k L t m hk hr hm h1 h2
end Go.Proofs.YtjmgfpldjccilaaGreatDoor
