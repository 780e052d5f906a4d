/- When a beat comes next, in the model's words. Plain: no program. -/
import Derived.Test.YtlpdilmdhfemdaaNextP
namespace Go.Proofs.Ytlpdilmdhfemdaa
open Go Go.RowKit Go.PlainAid
set_option linter.unusedSimpArgs false
set_option linter.unusedVariables false

def atS (t : Int) (x : Bt) : Int := if x.2.1 < t then t + (x.2.2 - (t - x.2.1).tmod x.2.2).tmod x.2.2 else x.2.1
theorem pulM_at {t : Int} {x : Bt} (hx : btB x = true) (ht : 0 ≤ t ∧ t ≤ 9999) : (pulM t x).1 = atS t x := by
  obtain ⟨s, f, n⟩ := x
  have hb : (0 ≤ s ∧ s ≤ 2) ∧ (0 ≤ f ∧ f ≤ 9999) ∧ (1 ≤ n ∧ n ≤ 9999) := by simpa [btB, and_assoc] using hx
  obtain ⟨⟨hs0, hs1⟩, ⟨hf0, hf1⟩, hn0, hn1⟩ := hb
  show f + max 0 ((t - f + n - 1).tdiv n) * n = if f < t then t + (n - (t - f).tmod n).tmod n else f
  by_cases hd : f < t
  · rw [if_pos hd]
    have h1 : (t - f).tmod n = (t - f) % n := Int.tmod_eq_emod_of_nonneg (by omega)
    have h2 := Int.emod_nonneg (t - f) (show n ≠ 0 by omega)
    have h3 := Int.emod_lt_of_pos (t - f) (show 0 < n by omega)
    have h4 : (n - (t - f) % n).tmod n = (n - (t - f) % n) % n := Int.tmod_eq_emod_of_nonneg (by omega)
    have h5 : (t - f + n - 1).tdiv n = (t - f + n - 1) / n := Int.tdiv_eq_ediv_of_nonneg (by omega)
    have h6 := Int.mul_ediv_add_emod (t - f) n
    rw [h1, h4, h5]
    obtain ⟨m, hm⟩ : ∃ m, (t - f) / n = m := ⟨_, rfl⟩
    obtain ⟨r, hr⟩ : ∃ r, (t - f) % n = r := ⟨_, rfl⟩
    rw [hm, hr] at h6
    rw [hr] at h2 h3 ⊢
    have h7 : (t - f + n - 1) / n = m + (r + n - 1) / n := by
      rw [show t - f + n - 1 = (r + n - 1) + n * m by omega, Int.add_mul_ediv_left _ _ (show n ≠ 0 by omega)]
      omega
    have hm0 : 0 ≤ m := by rw [← hm]; exact Int.ediv_nonneg (by omega) (by omega)
    by_cases hr0 : r = 0
    · subst hr0
      have h8 : (0 + n - 1) / n = 0 := Int.ediv_eq_zero_of_lt (by omega) (by omega)
      have h9 : (n - 0) % n = 0 := by rw [Int.sub_zero]; exact Int.emod_self
      rw [h7, h8, h9, show max 0 (m + 0) = m by omega, Int.mul_comm]
      omega
    · have h8 : (r + n - 1) / n = 1 := by
        rw [show r + n - 1 = (r - 1) + n * 1 by omega, Int.add_mul_ediv_left _ _ (show n ≠ 0 by omega), Int.ediv_eq_zero_of_lt (by omega) (by omega)]
        rfl
      have h9 : (n - r) % n = n - r := Int.emod_eq_of_lt (by omega) (by omega)
      rw [h7, h8, h9, show max 0 (m + 1) = m + 1 by omega, Int.add_mul, Int.mul_comm m n]
      omega
  · rw [if_neg hd]
    have h0 : (t - f + n - 1).tdiv n ≤ 0 := by
      by_cases h1 : 0 ≤ t - f + n - 1
      · rw [Int.tdiv_eq_ediv_of_nonneg h1, Int.ediv_eq_zero_of_lt h1 (by omega)]
        exact Int.le_refl 0
      · have h1 : (-(t - f + n - 1)).tdiv n = -((t - f + n - 1).tdiv n) := by rw [Int.neg_tdiv]
        have h2 := Int.tdiv_nonneg (show 0 ≤ -(t - f + n - 1) by omega) (show 0 ≤ n by omega)
        omega
    rw [show max 0 ((t - f + n - 1).tdiv n) = 0 by omega]
    omega
/-- the first of the earliest among the first k -/
def outS (t : Int) (l : List Bt) (k : Nat) : Int × Int :=
  match k with
  | 0 => (0, 0)
  | k + 1 => (((l.map (pulM t)).getD (minU (l.map (pulM t)) k) (0, 0, 0)).1, ((l.map (pulM t)).getD (minU (l.map (pulM t)) k) (0, 0, 0)).2.1)
theorem map_getD (t : Int) (l : List Bt) (k : Nat) (h : k < l.length) : (l.map (pulM t)).getD k (0, 0, 0) = pulM t l[k] := by simp [h]
theorem outS_first (t : Int) (l : List Bt) (h : 0 < l.length) (hx : btB l[0] = true) (ht : 0 ≤ t ∧ t ≤ 9999) : outS t l 1 = (atS t l[0], l[0].1) := by
  show (((l.map (pulM t)).getD 0 (0, 0, 0)).1, ((l.map (pulM t)).getD 0 (0, 0, 0)).2.1) = _
  rw [map_getD t l 0 h, pulM_at hx ht]
  rfl
theorem outS_new (t : Int) (l : List Bt) (k : Nat) (h : k + 1 < l.length) (hx : btB l[k + 1] = true) (ht : 0 ≤ t ∧ t ≤ 9999) (hlt : atS t l[k + 1] < (outS t l (k + 1)).1) : outS t l (k + 2) = (atS t l[k + 1], l[k + 1].1) := by
  show (((l.map (pulM t)).getD (minU (l.map (pulM t)) (k + 1)) (0, 0, 0)).1, ((l.map (pulM t)).getD (minU (l.map (pulM t)) (k + 1)) (0, 0, 0)).2.1) = _
  have e : minU (l.map (pulM t)) (k + 1) = k + 1 := by
    unfold minU
    rw [if_pos]
    rw [map_getD t l (k + 1) h, pulM_at hx ht]
    exact hlt
  rw [e, map_getD t l (k + 1) h, pulM_at hx ht]
  rfl
theorem outS_old (t : Int) (l : List Bt) (k : Nat) (h : k + 1 < l.length) (hx : btB l[k + 1] = true) (ht : 0 ≤ t ∧ t ≤ 9999) (hlt : ¬ atS t l[k + 1] < (outS t l (k + 1)).1) : outS t l (k + 2) = outS t l (k + 1) := by
  show (((l.map (pulM t)).getD (minU (l.map (pulM t)) (k + 1)) (0, 0, 0)).1, ((l.map (pulM t)).getD (minU (l.map (pulM t)) (k + 1)) (0, 0, 0)).2.1) = (((l.map (pulM t)).getD (minU (l.map (pulM t)) k) (0, 0, 0)).1, ((l.map (pulM t)).getD (minU (l.map (pulM t)) k) (0, 0, 0)).2.1)
  have e : minU (l.map (pulM t)) (k + 1) = minU (l.map (pulM t)) k := by
    rw [minU]
    rw [if_neg]
    rw [map_getD t l (k + 1) h, pulM_at hx ht]
    exact hlt
  rw [e]
theorem outS_all (t : Int) (l : List Bt) (h : l ≠ []) : outS t l l.length = fireP (l.map (pulM t)) := by
  obtain ⟨k, hk⟩ : ∃ k, l.length = k + 1 := ⟨l.length - 1, by have := List.length_pos_iff.2 h; omega⟩
  rw [hk]
  unfold fireP minI
  rw [List.length_map, hk]
  rfl
theorem atS_bound {t : Int} {x : Bt} (hx : btB x = true) (ht : 0 ≤ t ∧ t ≤ 9999) : 0 ≤ atS t x ∧ atS t x ≤ 29997 := by
  rw [← pulM_at hx ht]
  have := pulM_bound hx ht
  omega
end Go.Proofs.Ytlpdilmdhfemdaa
