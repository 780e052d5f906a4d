/- Texts in memory, a row of one's own. -/
import Derived.Test.YtjmgfpldjccilaaGreatDoorStrsM
import Derived.Laws.AppendOwn
import Derived.Laws.OwnMore
namespace Go.Proofs.YtjmgfpldjccilaaGreatDoor
open Go Go.RowKit Go.PlainAid
set_option linter.unusedSimpArgs false
set_option linter.unusedVariables false

theorem infoStr' : (Tryz.prog.info? 9).map (fun i => (i.zero, i.size, i.bytes)) = some (some (.string ByteArray.empty), 1, 16) := by kernel_rfl
/-- texts in memory, a row of one's own -/
def OwnS (B : Nat) (w : World) (v : Value) (l : List ByteArray) : Prop := w.ownsRow B 9 1 v l.length (l.map Value.string)
theorem OwnS.form {B : Nat} {w : World} {v : Value} {l : List ByteArray} (h : OwnS B w v l) : ∃ a c, v = .slice a l.length c ∧ l.length ≤ c ∧ IsStrs w.heap.size w a l.length l ∧ (∀ q o, a = some ⟨q, o, none⟩ → v.ownBlock = some q) := by
  have h0 := h
  obtain ⟨h1, h2⟩ := h
  rcases h2 with ⟨hv, hn⟩ | ⟨g, cap, cur, hv, h3, h4, h5, h6⟩
  · exact ⟨none, 0, by rw [hv, hn], by omega, ⟨rfl, .inl hn⟩, fun q o e => by cases e⟩
  · subst hv
    have hlt := (World.ownsRow.lt h0 g rfl).2
    refine ⟨_, cap, rfl, h5, ⟨rfl, .inr ⟨g, 0, rfl, hlt, fun i hi => ?_⟩⟩, fun q o e => by cases e; rfl⟩
    rw [Nat.zero_add, World.ownsRow.cellAt h0 i (by omega)]
    simp [hi]
end Go.Proofs.YtjmgfpldjccilaaGreatDoor
