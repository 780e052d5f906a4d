/- Plain facts: what code comes to is in 32 bits; one place more changes nothing of code that is ok. -/
import Derived.Test.YtmdaiejflolpmaaRunPlain
namespace Go.Proofs.Ytmdaiejflolpmaa
open Go Go.RowKit Go.PlainAid

theorem codeVal_in (vs : List Int) (zs : List (Int × Int)) : In32 (codeVal vs zs) := by
  unfold codeVal
  split
  · unfold In32; omega
  · rename_i h
    obtain ⟨_, m, hm⟩ := deepOf_ok h
    obtain ⟨h1, h2⟩ := run_len (vs := vs) hm zs.length (Nat.le_refl _) hm
    match hr : runTo vs zs zs.length with
    | [] => show In32 0; unfold In32; omega
    | x :: r => exact h2 x (by rw [hr]; simp)
theorem okB_more {k n s : Int} (h : okB k n s = true) : okB k n (s + 1) = true := by
  unfold okB at *
  split at h
  · rename_i h1; rw [if_pos h1]; exact h
  · rename_i h1
    rw [if_neg h1]
    split at h
    · rename_i h2; rw [if_pos h2]; simp at h ⊢; omega
    · rename_i h2; rw [if_neg h2]; exact h
theorem deepTo_more {s : Int} {zs : List (Int × Int)} : ∀ (k : Nat) {r : Int × Int}, deepTo s zs k = some r → deepTo (s + 1) zs k = some r := by
  intro k
  induction k with
  | zero => intro r h; exact h
  | succ k ih =>
    intro r h
    simp only [deepTo, Option.bind_eq_some_iff] at h ⊢
    obtain ⟨q, h1, h2⟩ := h
    refine ⟨q, ih h1, ?_⟩
    unfold stepOp at h2 ⊢
    split at h2
    · rename_i hh
      rw [if_pos ⟨okB_more hh.1, hh.2⟩]; exact h2
    · cases h2
theorem deepOf_more {s : Int} {zs : List (Int × Int)} (h : ¬ deepOf s zs < 0) (h16 : s + 1 ≤ 16) : deepOf (s + 1) zs = deepOf s zs := by
  obtain ⟨⟨h0, h1, h2⟩, m, hm⟩ := deepOf_ok h
  unfold deepOf
  rw [if_pos ⟨by omega, h16, h2⟩, if_pos ⟨h0, h1, h2⟩, hm, deepTo_more _ hm]
theorem runTo_more {vs : List Int} {zs : List (Int × Int)} {n : Nat} {q : Int × Int} (x : Int) (hn : deepTo vs.length zs n = some q) : ∀ k, k ≤ n → runTo (vs ++ [x]) zs k = runTo vs zs k := by
  intro k
  induction k with
  | zero => intro _; rfl
  | succ k ih =>
    intro hk
    show runOp (vs ++ [x]) (zs.getD k (0, 0)) (runTo (vs ++ [x]) zs k) = runOp vs (zs.getD k (0, 0)) (runTo vs zs k)
    rw [ih (by omega)]
    obtain ⟨d, m, hd⟩ := deepTo_some hn (show k ≤ n by omega)
    obtain ⟨o1, _, _, _⟩ := step_of hn (show k < n by omega) hd
    generalize zs.getD k (0, 0) = op at o1
    obtain ⟨a, b⟩ := op
    unfold runOp
    simp only at o1 ⊢
    by_cases h1 : a = 1
    · rw [if_pos h1, if_pos h1]
    · rw [if_neg h1, if_neg h1]
      by_cases h2 : a = 2
      · rw [if_pos h2, if_pos h2]
        subst h2
        have hb : 0 ≤ b ∧ b < vs.length := by simp [okB] at o1; omega
        have hb' : b.toNat < vs.length := by omega
        congr 2
        simp [List.getD_eq_getElem?_getD, List.getElem?_append_left hb']
      · rw [if_neg h2, if_neg h2]
theorem codeVal_more {vs : List Int} {zs : List (Int × Int)} (x : Int) (h : ¬ deepOf vs.length zs < 0) (h16 : (vs.length : Int) + 1 ≤ 16) : codeVal (vs ++ [x]) zs = codeVal vs zs := by
  have h2 : ((vs ++ [x]).length : Int) = vs.length + 1 := by simp
  obtain ⟨_, m, hm⟩ := deepOf_ok h
  unfold codeVal
  rw [h2, deepOf_more h h16, runTo_more x hm _ (Nat.le_refl _)]
theorem codeVal_no {vs : List Int} {zs : List (Int × Int)} (h : deepOf vs.length zs < 0) : codeVal vs zs = 0 := by unfold codeVal; rw [if_pos h]
end Go.Proofs.Ytmdaiejflolpmaa
