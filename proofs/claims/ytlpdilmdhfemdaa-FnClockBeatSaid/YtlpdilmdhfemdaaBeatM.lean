/- What comes of one beat alone, and how much of all. Plain: no program. -/
import Derived.Test.YtlpdilmdhfemdaaDueP
namespace Go.Proofs.Ytlpdilmdhfemdaa
open Go Go.RowKit Go.PlainAid
set_option linter.unusedSimpArgs false
set_option linter.unusedVariables false

theorem stP_one (x : Pu) : ∀ k : Nat, stP [x] k = [(x.1 + k * x.2.2, x.2)]
  | 0 => by simp [stP]
  | k + 1 => by
    show stepP (stP [x] k) = _
    rw [stP_one x k]
    unfold stepP
    have hm : minI [(x.1 + (k : Int) * x.2.2, x.2)] = 0 := rfl
    rw [hm]
    simp only [List.getD_cons_zero, List.set_cons_zero]
    rw [show x.1 + (k : Int) * x.2.2 + x.2.2 = x.1 + ((k + 1 : Nat) : Int) * x.2.2 by push_cast; rw [Int.add_mul]; omega]
theorem fireP_one (x : Pu) (k : Nat) : fireP (stP [x] k) = (x.1 + k * x.2.2, x.2.1) := by rw [stP_one]; rfl
theorem btsB_one (x : Bt) : btsB [x] = btB x := by simp [btsB]
/-- of one beat: each so far apart, from the first time on -/
theorem one_at_k {x : Bt} {p q : Int} {k : Nat} {y : Fr} (h : (clockM [x] p q)[k]? = some y) :
    btB x = true ∧ spanB p q = true ∧ y = (atS p x + k * x.2.2, x.1) ∧ y.1 < q := by
  unfold clockM at h
  by_cases hc : (btsB [x] && spanB p q) = true
  · rw [if_pos hc] at h
    have h2 : btsB [x] = true ∧ spanB p q = true := by simpa using hc
    rw [btsB_one] at h2
    obtain ⟨hx, hs⟩ := h2
    have hs2 : (0 ≤ p ∧ p ≤ 9999) ∧ (p ≤ q ∧ q ≤ 9999) ∧ q - p ≤ 40 := by simpa [spanB, and_assoc] using hs
    have h3 := fol_due (l := [x]) (fun y hy => by simp at hy; rw [hy]; exact hx) (by simp) (q - p).toNat p hs2.1.1 (by omega)
    rw [show p + ((q - p).toNat : Int) = q by omega] at h3
    obtain ⟨h4, _⟩ := h3.at
    obtain ⟨hk, e⟩ := List.getElem?_eq_some_iff.1 h
    obtain ⟨h5, h6⟩ := h4 k hk
    rw [e] at h5 h6
    refine ⟨hx, hs, ?_, h6⟩
    rw [← h5]
    show fireP (stP [pulM p x] k) = _
    rw [fireP_one, pulM_at hx hs2.1]
    rfl
  · rw [if_neg hc] at h
    simp at h
theorem at_comes {x : Bt} {t : Int} (hx : btB x = true) : x.2.1 ≤ atS t x ∧ (atS t x - x.2.1).tmod x.2.2 = 0 := by
  have hn : 1 ≤ x.2.2 := by obtain ⟨s, f, n⟩ := x; have hb : (0 ≤ s ∧ s ≤ 2) ∧ (0 ≤ f ∧ f ≤ 9999) ∧ (1 ≤ n ∧ n ≤ 9999) := by simpa [btB, and_assoc] using hx
                            exact hb.2.2.1
  by_cases h : t ≤ x.2.1
  · rw [atS_ahead h, Int.sub_self]
    exact ⟨Int.le_refl _, by simp⟩
  · obtain ⟨m, r, h1, h2, h3, h4, h5⟩ := at_parts hx (show x.2.1 ≤ t by omega)
    by_cases hr : r = 0
    · rw [atS_zero hx (by omega) (by rw [h5, hr])]
      exact ⟨by omega, by rw [h5, hr]⟩
    · rw [atS_rest (by omega) (by omega) h4 h5]
      have h0 : 0 ≤ x.2.2 * m := Int.mul_nonneg (by omega) h2
      refine ⟨by omega, ?_⟩
      rw [show t + x.2.2 - r - x.2.1 = x.2.2 + x.2.2 * m by omega, Int.tmod_eq_emod_of_nonneg (by omega), Int.add_mul_emod_self_left, Int.emod_self]
theorem at_comes_k {x : Bt} {t : Int} (hx : btB x = true) (k : Nat) : (atS t x + k * x.2.2 - x.2.1).tmod x.2.2 = 0 := by
  have hn : 1 ≤ x.2.2 := by obtain ⟨s, f, n⟩ := x; have hb : (0 ≤ s ∧ s ≤ 2) ∧ (0 ≤ f ∧ f ≤ 9999) ∧ (1 ≤ n ∧ n ≤ 9999) := by simpa [btB, and_assoc] using hx
                            exact hb.2.2.1
  obtain ⟨h1, h2⟩ := at_comes (t := t) hx
  have h3 : 0 ≤ (k : Int) * x.2.2 := Int.mul_nonneg (by omega) (by omega)
  rw [Int.tmod_eq_emod_of_nonneg (by omega)] at h2
  rw [Int.tmod_eq_emod_of_nonneg (by omega), show atS t x + (k : Int) * x.2.2 - x.2.1 = (atS t x - x.2.1) + x.2.2 * k by rw [Int.mul_comm]; omega, Int.add_mul_emod_self_left, h2]
theorem dueM_from (l : List Bt) : ∀ (m : Nat) (t : Int), ∀ x ∈ dueM l t m, t ≤ x.1
  | 0, t, x, h => by simp [dueM] at h
  | m + 1, t, x, h => by
    rcases List.mem_append.1 h with h1 | h1
    · unfold dueAt at h1
      obtain ⟨y, _, rfl⟩ := List.mem_map.1 h1
      exact Int.le_refl _
    · have := dueM_from l m (t + 1) x h1
      omega
theorem dueM_sorted (l : List Bt) : ∀ (m : Nat) (t : Int), (dueM l t m).Pairwise (fun a b => a.1 ≤ b.1)
  | 0, t => List.Pairwise.nil
  | m + 1, t => by
    refine List.pairwise_append.2 ⟨?_, dueM_sorted l m (t + 1), fun x hx y hy => ?_⟩
    · unfold dueAt
      rw [List.pairwise_map]
      exact List.Pairwise.imp (fun _ => Int.le_refl _) (List.pairwise_iff_getElem.2 (fun i j hi hj hij => trivial) : List.Pairwise (fun _ _ => True) _)
    · unfold dueAt at hx
      obtain ⟨z, _, rfl⟩ := List.mem_map.1 hx
      have := dueM_from l m (t + 1) y hy
      show t ≤ y.1
      omega
theorem clockM_sorted {l : List Bt} {p q : Int} {i : Nat} {x y : Fr} (hx : (clockM l p q)[i]? = some x) (hy : (clockM l p q)[i + 1]? = some y) : x.1 ≤ y.1 := by
  have hs : (clockM l p q).Pairwise (fun a b => a.1 ≤ b.1) := by
    unfold clockM
    split
    · exact dueM_sorted _ _ _
    · exact List.Pairwise.nil
  obtain ⟨h1, rfl⟩ := List.getElem?_eq_some_iff.1 hx
  obtain ⟨h2, rfl⟩ := List.getElem?_eq_some_iff.1 hy
  exact List.pairwise_iff_getElem.1 hs i (i + 1) h1 h2 (by omega)
/-- how many come in all -/
def sumK (p q : Int) : List Bt → Nat
  | [] => 0
  | x :: l => (clockM [x] p q).length + sumK p q l
theorem sumK_snoc (p q : Int) : ∀ (l : List Bt) (x : Bt), sumK p q (l ++ [x]) = sumK p q l + (clockM [x] p q).length
  | [], x => by simp [sumK]
  | y :: l, x => by
    show (clockM [y] p q).length + sumK p q (l ++ [x]) = _
    rw [sumK_snoc p q l x]
    show _ = (clockM [y] p q).length + sumK p q l + _
    omega
theorem dueAt_len_cons (x : Bt) (l : List Bt) (t : Int) : (dueAt (x :: l) t).length = (dueAt [x] t).length + (dueAt l t).length := by
  rw [dueAt_cons, dueAt_cons]
  by_cases h : atB x t = true
  · rw [if_pos h, if_pos h]
    simp [dueAt]
    omega
  · rw [if_neg h, if_neg h]
    simp [dueAt]
theorem dueM_len_cons (x : Bt) (l : List Bt) : ∀ (m : Nat) (t : Int), (dueM (x :: l) t m).length = (dueM [x] t m).length + (dueM l t m).length
  | 0, t => rfl
  | m + 1, t => by
    show (dueAt (x :: l) t ++ dueM (x :: l) (t + 1) m).length = (dueAt [x] t ++ dueM [x] (t + 1) m).length + (dueAt l t ++ dueM l (t + 1) m).length
    rw [List.length_append, List.length_append, List.length_append, dueAt_len_cons, dueM_len_cons x l m (t + 1)]
    omega
theorem dueM_nil : ∀ (m : Nat) (t : Int), dueM [] t m = []
  | 0, t => rfl
  | m + 1, t => by show dueAt [] t ++ dueM [] (t + 1) m = _; rw [dueM_nil m (t + 1)]; rfl
theorem sumK_all {p q : Int} (hs : spanB p q = true) : ∀ (l : List Bt), (∀ x ∈ l, btB x = true) → sumK p q l = (dueM l p (q - p).toNat).length
  | [], _ => by rw [dueM_nil]; rfl
  | x :: l, h => by
    rw [dueM_len_cons, ← sumK_all hs l (fun y hy => h y (List.mem_cons_of_mem _ hy))]
    show (clockM [x] p q).length + _ = _
    unfold clockM
    rw [btsB_one, h x List.mem_cons_self, hs]
    rfl
theorem sumK_none {p q : Int} (hs : spanB p q = false) : ∀ (l : List Bt), sumK p q l = 0
  | [] => rfl
  | x :: l => by
    show (clockM [x] p q).length + sumK p q l = 0
    rw [sumK_none hs l]
    unfold clockM
    rw [hs]
    simp
/-- as many as of each alone, or the beats are not ok -/
theorem sumK_clock (l : List Bt) (p q : Int) : (clockM l p q).length = sumK p q l ∨ btsB l = false := by
  cases hs : spanB p q with
  | false =>
    rw [sumK_none hs]
    left
    unfold clockM
    rw [hs]
    simp
  | true =>
    cases hb : btsB l with
    | false => exact .inr rfl
    | true =>
      have h : l.all btB = true ∧ l.length ≤ 3 := by simpa [btsB] using hb
      left
      rw [sumK_all hs l (fun x hx => List.all_eq_true.1 h.1 x hx)]
      unfold clockM
      rw [hb, hs]
      rfl
theorem clockM_le (l : List Bt) (p q : Int) : (clockM l p q).length ≤ 200 := by
  unfold clockM
  split
  · rename_i h
    have h2 : (l.all btB = true ∧ l.length ≤ 3) ∧ (0 ≤ p ∧ p ≤ 9999) ∧ (p ≤ q ∧ q ≤ 9999) ∧ q - p ≤ 40 := by simpa [btsB, spanB, and_assoc] using h
    have h1 := dueM_len l (q - p).toNat p
    have h3 : (q - p).toNat * l.length ≤ 40 * 3 := Nat.mul_le_mul (by omega) h2.1.2
    omega
  · simp
theorem sumK_le (p q : Int) : ∀ l : List Bt, sumK p q l ≤ 200 * l.length
  | [] => by simp [sumK]
  | x :: l => by
    have h1 := clockM_le [x] p q
    have h2 := sumK_le p q l
    show (clockM [x] p q).length + sumK p q l ≤ _
    rw [List.length_cons]
    omega
end Go.Proofs.Ytlpdilmdhfemdaa
