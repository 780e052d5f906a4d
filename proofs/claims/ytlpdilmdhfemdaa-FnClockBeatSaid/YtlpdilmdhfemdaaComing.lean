/- What comes of beats, as an iterator without an end. -/
import Derived.RangeFuncNested
import Derived.RangeFuncBound
import Derived.RangeFuncCalls
import Derived.RangeFuncLeaves
import Derived.Shelf.Abstract
import Derived.Shelf.RegionOpen
import Derived.WalkKit
import Derived.OwnWalkIn
import Derived.TacticsInMore
import Derived.LoopNIn
import Derived.LoopIn
import Derived.Test.YtlpdilmdhfemdaaPulseMin
import Derived.Test.YtlpdilmdhfemdaaRangeSt
namespace Go.Proofs.Ytlpdilmdhfemdaa
open Go Go.RowKit Go.PlainAid Go.Shelf
set_option linter.unusedSimpArgs false
set_option linter.unusedVariables false
attribute [local go_sem] Oper.semAt_some

/-- the first comes, and its pulse goes on -/
def stepP (ps : List Pu) : List Pu := ps.set (minI ps) ((ps.getD (minI ps) (0, 0, 0)).1 + (ps.getD (minI ps) (0, 0, 0)).2.2, (ps.getD (minI ps) (0, 0, 0)).2)
def stP (ps : List Pu) : Nat → List Pu
  | 0 => ps
  | k + 1 => stepP (stP ps k)
/-- what comes first -/
def fireP (ps : List Pu) : Int × Int := ((ps.getD (minI ps) (0, 0, 0)).1, (ps.getD (minI ps) (0, 0, 0)).2.1)
theorem stepP_len (ps : List Pu) : (stepP ps).length = ps.length := by simp [stepP]
theorem stP_len (ps : List Pu) : ∀ k, (stP ps k).length = ps.length
  | 0 => rfl
  | k + 1 => (stepP_len _).trans (stP_len ps k)
/-- times are not too great -/
def TimesB (M : Int) (ps : List Pu) : Prop := ∀ x ∈ ps, 0 ≤ x.1 ∧ x.1 ≤ M ∧ 1 ≤ x.2.2 ∧ x.2.2 ≤ 9999
theorem TimesB.step {M : Int} {ps : List Pu} (h : TimesB M ps) (hne : ps ≠ []) : TimesB (M + 9999) (stepP ps) := by
  intro x hx
  have hm := minI_lt hne
  rcases List.mem_or_eq_of_mem_set hx with h1 | h1
  · have := h x h1; omega
  · subst h1
    have hg : ps.getD (minI ps) (0, 0, 0) = ps[minI ps] := by simp [hm]
    have := h _ (List.getElem_mem hm)
    rw [hg]
    refine ⟨?_, ?_, this.2.2.1, this.2.2.2⟩ <;> (show _ ≤ _; dsimp only; omega)
theorem TimesB.at {M : Int} {ps : List Pu} (h : TimesB M ps) (hne : ps ≠ []) : ∀ k : Nat, TimesB (M + 9999 * k) (stP ps k)
  | 0 => by simpa [stP] using h
  | k + 1 => by
    have := (h.at hne k).step (by intro e; exact hne (List.length_eq_zero_iff.1 (by rw [← stP_len ps k, e]; rfl)))
    show TimesB _ (stepP (stP ps k))
    rw [show M + 9999 * ((k + 1 : Nat) : Int) = M + 9999 * k + 9999 by push_cast; omega]
    exact this
theorem pulM_bound {t : Int} {x : Bt} (hx : btB x = true) (ht : 0 ≤ t ∧ t ≤ 9999) : 0 ≤ (pulM t x).1 ∧ (pulM t x).1 ≤ 29997 ∧ 1 ≤ (pulM t x).2.2 ∧ (pulM t x).2.2 ≤ 9999 := by
  obtain ⟨s, f, n⟩ := x
  have hb : (0 ≤ s ∧ s ≤ 2) ∧ (0 ≤ f ∧ f ≤ 9999) ∧ (1 ≤ n ∧ n ≤ 9999) := by simpa [btB, and_assoc] using hx
  obtain ⟨⟨hs0, hs1⟩, ⟨hf0, hf1⟩, hn0, hn1⟩ := hb
  show 0 ≤ f + max 0 ((t - f + n - 1).tdiv n) * n ∧ f + max 0 ((t - f + n - 1).tdiv n) * n ≤ 29997 ∧ 1 ≤ n ∧ n ≤ 9999
  by_cases hd : 0 ≤ t - f + n - 1
  · have h0 := Int.tdiv_nonneg hd (show 0 ≤ n by omega)
    have h1 := Int.mul_tdiv_add_tmod (t - f + n - 1) n
    have h2 := Int.tmod_nonneg n hd
    rw [Int.mul_comm] at h1
    rw [show max 0 ((t - f + n - 1).tdiv n) = (t - f + n - 1).tdiv n by omega]
    have h3 := Int.mul_nonneg h0 (show 0 ≤ n by omega)
    omega
  · have h0 : (t - f + n - 1).tdiv n ≤ 0 := by
      have h1 : (-(t - f + n - 1)).tdiv n = -((t - f + n - 1).tdiv n) := by rw [Int.neg_tdiv]
      have h2 := Int.tdiv_nonneg (show 0 ≤ -(t - f + n - 1) by omega) (show 0 ≤ n by omega)
      omega
    rw [show max 0 ((t - f + n - 1).tdiv n) = 0 by omega]
    omega

/-- the row behind the next: one pulse goes on, all else is as it was -/
theorem Puls.go {lo : Nat} {W W' : World} {v : Value} {bs : List Nat} {ps : List Pu} (h : Puls lo W v bs ps) {i : Nat} (hi : i < bs.length) (hi' : i < ps.length) (t : Int)
    (hp : PulAt W' (bs[i]) (t, (ps[i]).2)) (hs : W.heap.size ≤ W'.heap.size) (hb : ∀ k, k < W.heap.size → k ≠ bs[i] → W'.heap[k]? = W.heap[k]?) : Puls lo W' v bs (ps.set i (t, (ps[i]).2)) := by
  refine ⟨by simp [h.len], own_of_block h.row (fun q hq => hb q (World.ownsRow.lt h.row q hq).2 (fun e => pul_ne_row h.row (h.each i hi hi').2 (by rw [hq, e]))), fun j hj hj' => ?_, h.up⟩
  have hj2 : j < ps.length := by simpa using hj'
  have := h.each j hj hj2
  refine ⟨this.1, ?_⟩
  by_cases e : i = j
  · subst e
    simpa using hp
  · rw [List.getElem_set_ne e]
    refine this.2.of (hb _ this.2.lt (fun e2 => e ?_))
    rcases Nat.lt_trichotomy i j with h1 | h1 | h1
    · have := List.pairwise_iff_getElem.1 h.up i j hi hj h1; omega
    · exact h1
    · have := List.pairwise_iff_getElem.1 h.up j i hj hi h1; omega
end Go.Proofs.Ytlpdilmdhfemdaa
