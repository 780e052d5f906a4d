/- What comes in a span, as data: the model's way, time by time, and the program's way, the earliest each time, give one list. Plain: no program. -/
import Derived.Test.YtlpdilmdhfemdaaNextM
namespace Go.Proofs.Ytlpdilmdhfemdaa
open Go Go.RowKit Go.PlainAid
set_option linter.unusedSimpArgs false
set_option linter.unusedVariables false

/-- whether a beat comes at a time -/
def atB (x : Bt) (t : Int) : Bool := decide (x.2.1 ≤ t) && ((t - x.2.1).tmod x.2.2 == 0)
def dueAt (l : List Bt) (t : Int) : List (Int × Int) := (l.filter fun x => atB x t).map fun x => (t, x.1)
/-- all that comes at n times from t on -/
def dueM (l : List Bt) (t : Int) : Nat → List (Int × Int)
  | 0 => []
  | n + 1 => dueAt l t ++ dueM l (t + 1) n

theorem at_parts {x : Bt} {t : Int} (hx : btB x = true) (h : x.2.1 ≤ t) : ∃ m r : Int, t - x.2.1 = x.2.2 * m + r ∧ 0 ≤ m ∧ 0 ≤ r ∧ r < x.2.2 ∧ (t - x.2.1).tmod x.2.2 = r := by
  obtain ⟨s, f, n⟩ := x
  have hb : (0 ≤ s ∧ s ≤ 2) ∧ (0 ≤ f ∧ f ≤ 9999) ∧ (1 ≤ n ∧ n ≤ 9999) := by simpa [btB, and_assoc] using hx
  dsimp only at h ⊢
  refine ⟨(t - f) / n, (t - f) % n, (Int.mul_ediv_add_emod _ _).symm, Int.ediv_nonneg (by omega) (by omega), Int.emod_nonneg _ (by omega), Int.emod_lt_of_pos _ (by omega), Int.tmod_eq_emod_of_nonneg (by omega)⟩
theorem tmod_small {a n : Int} (h0 : 0 ≤ a) (h1 : a < n) : a.tmod n = a := by rw [Int.tmod_eq_emod_of_nonneg h0, Int.emod_eq_of_lt h0 h1]
theorem tmod_self' {n : Int} (h : 0 < n) : n.tmod n = 0 := by rw [Int.tmod_eq_emod_of_nonneg (by omega), Int.emod_self]
/-- the time, written out -/
theorem atS_ahead {x : Bt} {t : Int} (h : t ≤ x.2.1) : atS t x = x.2.1 := by
  unfold atS
  rw [if_neg (by omega)]
theorem atS_zero {x : Bt} {t : Int} (hx : btB x = true) (h : x.2.1 < t) (hr : (t - x.2.1).tmod x.2.2 = 0) : atS t x = t := by
  have hn : 1 ≤ x.2.2 := by obtain ⟨s, f, n⟩ := x; have hb : (0 ≤ s ∧ s ≤ 2) ∧ (0 ≤ f ∧ f ≤ 9999) ∧ (1 ≤ n ∧ n ≤ 9999) := by simpa [btB, and_assoc] using hx
                            exact hb.2.2.1
  unfold atS
  rw [if_pos h, hr, Int.sub_zero, tmod_self' (by omega)]
  omega
theorem atS_rest {x : Bt} {t r : Int} (h : x.2.1 < t) (h0 : 0 < r) (h1 : r < x.2.2) (hr : (t - x.2.1).tmod x.2.2 = r) : atS t x = t + x.2.2 - r := by
  unfold atS
  rw [if_pos h, hr, tmod_small (by omega) (by omega)]
  omega
theorem atS_ge {x : Bt} {t : Int} (hx : btB x = true) : t ≤ atS t x := by
  by_cases h : t ≤ x.2.1
  · rw [atS_ahead h]; exact h
  · obtain ⟨m, r, h1, h2, h3, h4, h5⟩ := at_parts hx (show x.2.1 ≤ t by omega)
    by_cases hr : r = 0
    · rw [atS_zero hx (by omega) (by rw [h5, hr])]; exact Int.le_refl _
    · rw [atS_rest (by omega) (by omega) h4 h5]; omega
theorem next_mod {x : Bt} {t m r : Int} (h1 : t - x.2.1 = x.2.2 * m + r) (h2 : 0 ≤ m) (h3 : 0 ≤ r) (h4 : r + 1 < x.2.2) : (t + 1 - x.2.1).tmod x.2.2 = r + 1 := by
  have h0 : 0 ≤ x.2.2 * m := Int.mul_nonneg (by omega) h2
  rw [show t + 1 - x.2.1 = (r + 1) + x.2.2 * m by omega, Int.tmod_eq_emod_of_nonneg (by omega), Int.add_mul_emod_self_left, Int.emod_eq_of_lt (by omega) h4]
theorem next_mod0 {x : Bt} {t m r : Int} (h1 : t - x.2.1 = x.2.2 * m + r) (h2 : 0 ≤ m) (h3 : 0 ≤ r) (h4 : r + 1 = x.2.2) : (t + 1 - x.2.1).tmod x.2.2 = 0 := by
  have h0 : 0 ≤ x.2.2 * m := Int.mul_nonneg (by omega) h2
  rw [show t + 1 - x.2.1 = x.2.2 + x.2.2 * m by omega, Int.tmod_eq_emod_of_nonneg (by omega), Int.add_mul_emod_self_left, Int.emod_self]
/-- a beat that comes at a time -/
theorem at_hit {x : Bt} {t : Int} (hx : btB x = true) (h : atB x t = true) : atS t x = t ∧ atS (t + 1) x = t + x.2.2 := by
  have ha : x.2.1 ≤ t ∧ (t - x.2.1).tmod x.2.2 = 0 := by simpa [atB] using h
  obtain ⟨m, r, h1, h2, h3, h4, h5⟩ := at_parts hx ha.1
  obtain rfl : r = 0 := by omega
  refine ⟨?_, ?_⟩
  · by_cases e : x.2.1 = t
    · rw [atS_ahead (by omega)]; exact e
    · exact atS_zero hx (by omega) ha.2
  · by_cases hn : x.2.2 = 1
    · rw [atS_zero hx (by omega) (next_mod0 h1 h2 (Int.le_refl _) (by omega))]; omega
    · rw [atS_rest (by omega) (by omega) (by omega) (next_mod h1 h2 (Int.le_refl _) (by omega))]; omega
/-- a beat that does not -/
theorem at_miss {x : Bt} {t : Int} (hx : btB x = true) (h : atB x t = false) : atS (t + 1) x = atS t x := by
  by_cases hf : x.2.1 ≤ t
  · obtain ⟨m, r, h1, h2, h3, h4, h5⟩ := at_parts hx hf
    have hr : r ≠ 0 := fun e => by
      have : atB x t = true := by simp [atB, hf, h5, e]
      rw [h] at this
      cases this
    have hft : x.2.1 < t := by
      rcases Int.lt_or_eq_of_le hf with h6 | h6
      · exact h6
      · exfalso
        rw [← h6, Int.sub_self] at h5
        simp at h5
        exact hr h5.symm
    rw [atS_rest hft (by omega) h4 h5]
    by_cases he : r + 1 = x.2.2
    · rw [atS_zero hx (by omega) (next_mod0 h1 h2 h3 he)]; omega
    · rw [atS_rest (by omega) (by omega) (by omega) (next_mod h1 h2 h3 (by omega))]; omega
  · rw [atS_ahead (by omega), atS_ahead (by omega)]

/-- the first of the earliest -/
theorem minU_is {ps : List Pu} {i : Nat} (h1 : ∀ j, j < i → (ps.getD i (0, 0, 0)).1 < (ps.getD j (0, 0, 0)).1) (h2 : ∀ j, j < ps.length → (ps.getD i (0, 0, 0)).1 ≤ (ps.getD j (0, 0, 0)).1) : ∀ k, i ≤ k → k < ps.length → minU ps k = i
  | 0, hi, hk => by simp at hi; subst hi; rfl
  | k + 1, hi, hk => by
    rw [minU]
    by_cases e : i = k + 1
    · rw [if_pos]
      · exact e.symm
      · rw [← e]
        exact h1 _ (by have := minU_le ps k; omega)
    · rw [minU_is h1 h2 k (by omega) (by omega), if_neg]
      have := h2 (k + 1) hk
      omega
theorem minI_is {ps : List Pu} {i : Nat} (hi : i < ps.length) (h1 : ∀ j, j < i → (ps.getD i (0, 0, 0)).1 < (ps.getD j (0, 0, 0)).1) (h2 : ∀ j, j < ps.length → (ps.getD i (0, 0, 0)).1 ≤ (ps.getD j (0, 0, 0)).1) : minI ps = i :=
  minU_is h1 h2 _ (by omega) (by omega)
theorem fireP_mem {ps : List Pu} (h : ps ≠ []) {t : Int} (hall : ∀ x ∈ ps, t ≤ x.1) : t ≤ (fireP ps).1 := by
  have hm := minI_lt h
  unfold fireP
  rw [show ps.getD (minI ps) (0, 0, 0) = ps[minI ps] by simp [hm]]
  exact hall _ (List.getElem_mem hm)

/-- the program's way gives R ahead of a time, and nothing more -/
def Fol (to : Int) : List Pu → List (Int × Int) → Prop
  | ps, [] => to ≤ (fireP ps).1
  | ps, x :: R => fireP ps = x ∧ x.1 < to ∧ Fol to (stepP ps) R
/-- between two places of the model's way -/
def syncP (l : List Bt) (t : Int) (i : Nat) : List Pu := (l.take i).map (pulM (t + 1)) ++ (l.drop i).map (pulM t)
theorem syncP_len (l : List Bt) (t : Int) (i : Nat) : (syncP l t i).length = l.length := by simp [syncP]; omega
theorem syncP_at (l : List Bt) (t : Int) (i j : Nat) (hi : i ≤ l.length) (hj : j < l.length) : (syncP l t i).getD j (0, 0, 0) = pulM (if j < i then t + 1 else t) l[j] := by
  unfold syncP
  by_cases h : j < i
  · rw [if_pos h]
    rw [List.getD_eq_getElem?_getD, List.getElem?_append_left (show j < ((l.take i).map (pulM (t + 1))).length by simp; omega), List.getElem?_map, List.getElem?_take, if_pos h, List.getElem?_eq_getElem hj]
    rfl
  · rw [if_neg h]
    rw [List.getD_eq_getElem?_getD, List.getElem?_append_right (by simp; omega)]
    simp [show min i l.length = i by omega, show i + (j - i) = j by omega, hj]
theorem syncP_end (l : List Bt) (t : Int) : syncP l t l.length = l.map (pulM (t + 1)) := by simp [syncP]
theorem syncP_start (l : List Bt) (t : Int) : syncP l t 0 = l.map (pulM t) := by simp [syncP]
theorem pulM_eq {t t' : Int} {x : Bt} (hx : btB x = true) (ht : 0 ≤ t ∧ t ≤ 9999) (ht' : 0 ≤ t' ∧ t' ≤ 9999) (h : atS t' x = atS t x) : pulM t' x = pulM t x := by
  have h1 : (pulM t' x).1 = (pulM t x).1 := by rw [pulM_at hx ht', pulM_at hx ht, h]
  exact Prod.ext h1 rfl
/-- a beat that does not come leaves the pulses as they are -/
theorem syncP_miss {l : List Bt} {t : Int} {i : Nat} (hi : i < l.length) (hx : btB l[i] = true) (ht : 0 ≤ t ∧ t + 1 ≤ 9999) (h : atB l[i] t = false) : syncP l t (i + 1) = syncP l t i := by
  unfold syncP
  rw [List.take_succ_eq_append_getElem hi, List.map_append, List.append_assoc, List.drop_eq_getElem_cons hi]
  simp only [List.map_cons, List.map_nil, List.cons_append, List.nil_append]
  rw [pulM_eq hx ⟨ht.1, by omega⟩ ⟨by omega, ht.2⟩ (at_miss hx h)]
/-- one that comes is the first of the earliest, and goes on -/
theorem syncP_hit {l : List Bt} {t : Int} {i : Nat} (hi : i < l.length) (hl : ∀ x ∈ l, btB x = true) (ht : 0 ≤ t ∧ t + 1 ≤ 9999) (h : atB l[i] t = true) : fireP (syncP l t i) = (t, l[i].1) ∧ stepP (syncP l t i) = syncP l t (i + 1) := by
  have hx := hl _ (List.getElem_mem hi)
  obtain ⟨h1, h2⟩ := at_hit hx h
  have hlen := syncP_len l t i
  have hat : (syncP l t i).getD i (0, 0, 0) = pulM t l[i] := by rw [syncP_at l t i i (by omega) hi, if_neg (by omega)]
  have hp : (pulM t l[i]).1 = t := by rw [pulM_at hx ⟨ht.1, by omega⟩, h1]
  have hm : minI (syncP l t i) = i := by
    refine minI_is (by omega) (fun j hj => ?_) (fun j hj => ?_)
    · have hxj := hl _ (List.getElem_mem (show j < l.length by omega))
      rw [hat, syncP_at l t i j (by omega) (by omega), if_pos hj, hp, pulM_at hxj ⟨by omega, ht.2⟩]
      have := atS_ge (t := t + 1) hxj
      omega
    · have hxj := hl _ (List.getElem_mem (show j < l.length by omega))
      rw [hat, syncP_at l t i j (by omega) (by omega), hp]
      split
      · rw [pulM_at hxj ⟨by omega, ht.2⟩]
        have := atS_ge (t := t + 1) hxj
        omega
      · rw [pulM_at hxj ⟨ht.1, by omega⟩]
        exact atS_ge hxj
  refine ⟨?_, ?_⟩
  · unfold fireP
    rw [hm, hat, hp]
    rfl
  · unfold stepP
    rw [hm, hat]
    have e : ((pulM t l[i]).1 + (pulM t l[i]).2.2, (pulM t l[i]).2) = pulM (t + 1) l[i] := by
      refine Prod.ext ?_ rfl
      show (pulM t l[i]).1 + l[i].2.2 = _
      rw [hp, pulM_at hx ⟨by omega, ht.2⟩, h2]
    rw [e]
    have hd : (l.drop i).map (pulM t) = pulM t l[i] :: (l.drop (i + 1)).map (pulM t) := by rw [List.drop_eq_getElem_cons hi]; rfl
    have hk : ((l.take i).map (pulM (t + 1))).length = i := by rw [List.length_map, List.length_take]; omega
    unfold syncP
    rw [hd, List.set_append_right _ _ (by omega), hk, Nat.sub_self, List.take_succ_eq_append_getElem hi, List.map_append, List.append_assoc]
    rfl

theorem dueAt_cons (x : Bt) (l : List Bt) (t : Int) : dueAt (x :: l) t = if atB x t = true then (t, x.1) :: dueAt l t else dueAt l t := by
  unfold dueAt
  by_cases h : atB x t = true
  · rw [if_pos h, List.filter_cons, if_pos h]; rfl
  · rw [if_neg h, List.filter_cons, if_neg h]
/-- the rest of one time -/
theorem fol_time {l : List Bt} {t to : Int} {R : List (Int × Int)} (hl : ∀ x ∈ l, btB x = true) (ht : 0 ≤ t ∧ t + 1 ≤ 9999) (hto : t < to) (hend : Fol to (l.map (pulM (t + 1))) R) : ∀ d i : Nat, i + d = l.length → Fol to (syncP l t i) (dueAt (l.drop i) t ++ R)
  | 0, i, h => by
    obtain rfl : i = l.length := by omega
    rw [List.drop_length, syncP_end]
    exact hend
  | d + 1, i, h => by
    have hi : i < l.length := by omega
    have ih := fol_time hl ht hto hend d (i + 1) (by omega)
    rw [List.drop_eq_getElem_cons hi, dueAt_cons]
    by_cases hx : atB l[i] t = true
    · rw [if_pos hx]
      obtain ⟨h1, h2⟩ := syncP_hit hi hl ht hx
      exact ⟨h1, hto, by rw [h2]; exact ih⟩
    · rw [if_neg hx, ← syncP_miss hi (hl _ (List.getElem_mem hi)) ht (by simpa using hx)]
      exact ih
theorem fol_due {l : List Bt} (hl : ∀ x ∈ l, btB x = true) (hne : l ≠ []) : ∀ (m : Nat) (t : Int), 0 ≤ t → t + m ≤ 9999 → Fol (t + m) (l.map (pulM t)) (dueM l t m)
  | 0, t, h0, h1 => by
    refine fireP_mem (by simpa using hne) (fun x hx => ?_)
    obtain ⟨y, hy, rfl⟩ := List.mem_map.1 hx
    rw [pulM_at (hl y hy) ⟨h0, by omega⟩]
    have := atS_ge (t := t) (hl y hy)
    omega
  | m + 1, t, h0, h1 => by
    have ih := fol_due hl hne m (t + 1) (by omega) (by omega)
    rw [show t + 1 + (m : Int) = t + ((m + 1 : Nat) : Int) by omega] at ih
    have := fol_time (t := t) (to := t + ((m + 1 : Nat) : Int)) hl ⟨h0, by omega⟩ (by omega) ih l.length 0 (by omega)
    rw [syncP_start, List.drop_zero] at this
    exact this

theorem stP_step (ps : List Pu) : ∀ k, stP (stepP ps) k = stP ps (k + 1)
  | 0 => rfl
  | k + 1 => by show stepP (stP (stepP ps) k) = _; rw [stP_step ps k]; rfl
/-- read off: what each round gets, and that behind the last nothing more comes in time -/
theorem Fol.at {to : Int} : ∀ {R : List (Int × Int)} {ps : List Pu}, Fol to ps R → (∀ k, (h : k < R.length) → fireP (stP ps k) = R[k] ∧ R[k].1 < to) ∧ to ≤ (fireP (stP ps R.length)).1
  | [], ps, h => ⟨fun k hk => by simp at hk, h⟩
  | x :: R, ps, ⟨h1, h2, h3⟩ => by
    have ih := h3.at
    refine ⟨fun k hk => ?_, ?_⟩
    · cases k with
      | zero => exact ⟨h1, h2⟩
      | succ k =>
        have := ih.1 k (by simpa using hk)
        rw [stP_step] at this
        exact this
    · have := ih.2
      rw [stP_step] at this
      exact this
theorem dueAt_len (l : List Bt) (t : Int) : (dueAt l t).length ≤ l.length := by
  unfold dueAt
  rw [List.length_map]
  exact List.length_filter_le _ _
theorem dueM_len (l : List Bt) : ∀ (m : Nat) (t : Int), (dueM l t m).length ≤ m * l.length
  | 0, t => by simp [dueM]
  | m + 1, t => by
    have h1 := dueAt_len l t
    have h2 := dueM_len l m (t + 1)
    show (dueAt l t ++ dueM l (t + 1) m).length ≤ _
    rw [List.length_append, Nat.add_mul]
    omega
end Go.Proofs.Ytlpdilmdhfemdaa
