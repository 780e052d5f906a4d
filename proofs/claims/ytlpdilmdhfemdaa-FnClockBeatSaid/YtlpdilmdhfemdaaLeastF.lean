/- The least number of which something holds: a measure where the relation alone knows it. -/
import Derived.Test.YtlpdilmdhfemdaaCommon
namespace Go.Proofs.Ytlpdilmdhfemdaa.Least
theorem ex {p : Nat → Prop} (h : ∃ n, p n) : ∃ n, p n ∧ ∀ m, m < n → ¬ p m := by
  refine Classical.byContradiction fun hno => ?_
  have key : ∀ n, ∀ m, m < n → ¬ p m := by
    intro n
    induction n with
    | zero => intro m hm; omega
    | succ n ih =>
      intro m hm hp
      by_cases e : m = n
      · subst e; exact hno ⟨m, hp, ih⟩
      · exact ih m (by omega) hp
  obtain ⟨n, hn⟩ := h
  exact key (n + 1) n (by omega) hn
noncomputable def of (p : Nat → Prop) : Nat := @dite _ (∃ n, p n ∧ ∀ m, m < n → ¬ p m) (Classical.propDecidable _) (fun h => h.choose) (fun _ => 0)
theorem spec {p : Nat → Prop} (h : ∃ n, p n) : p (of p) := by
  have h2 := ex h
  unfold of
  rw [dif_pos h2]
  exact h2.choose_spec.1
theorem le {p : Nat → Prop} {n : Nat} (h : p n) : of p ≤ n := by
  have h2 := ex ⟨n, h⟩
  have e : of p = h2.choose := by unfold of; rw [dif_pos h2]
  rw [e]
  refine Classical.byContradiction fun hn => ?_
  exact h2.choose_spec.2 n (by omega) h
end Go.Proofs.Ytlpdilmdhfemdaa.Least
