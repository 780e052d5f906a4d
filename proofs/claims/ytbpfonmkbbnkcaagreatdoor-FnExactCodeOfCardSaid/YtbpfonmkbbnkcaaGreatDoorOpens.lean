/- Arguments that came in, opened: texts and numbers. -/
import Derived.Test.YtbpfonmkbbnkcaaGreatDoorBunF
import Derived.Test.YtbpfonmkbbnkcaaGreatDoorStrWalks
import Derived.Deep.Strs
namespace Go.Proofs.YtbpfonmkbbnkcaaGreatDoor
open Go.ChangeShapes Go.WideShapes Go.ChangeAt Go.RowKit Go.Deep Go.PlainAid
set_option linter.unusedVariables false
set_option linter.unusedSimpArgs false

/-- texts that came in -/
theorem open_texts {H : Type} {enc : TypeId × Value → H} {W : World} {base : Nat} {spare : Nat → Bool} {held : Bool} {fuel : Nat} {a0 : Option Addr} {len0 cap0 : Nat} {x : DataW H × List MemPlace}
    (h : DataW.trod enc Tryz.prog W base spare held fuel 31 (Value.slice a0 len0 cap0).cells.toList = some x) :
    ∃ l, len0 ≤ maxLen ∧ IsStrs W.heap.size W a0 len0 l ∧ ∀ y ∈ l, y.size ≤ maxLen := by
  rcases open_strs Tryz.underlying31 Tryz.underlying9 (by kernel_rfl) h with ⟨hcs, _⟩ | ⟨a, len, cap, m, Sx, hcs, hb, hl, hm, hmm, _, hel⟩
  · simp [Value.cells] at hcs
    obtain ⟨rfl, rfl, rfl⟩ := hcs
    exact ⟨[], by simp, ⟨rfl, .inl rfl⟩, (fun _ h => by simp at h)⟩
  · simp [Value.cells] at hcs
    obtain ⟨rfl, rfl, rfl⟩ := hcs
    have hlm : len0 ≤ m := by rw [hmm]; split <;> omega
    refine ⟨(List.range len0).map Sx, Nat.le_trans hl hm, ⟨by simp, ?_⟩, ?_⟩
    · by_cases hz : len0 = 0
      · exact .inl hz
      obtain ⟨b, off, spot⟩ := a
      have hc := (hel 0 (by omega)).1
      have hspot : spot = none := by simpa [Addr.add] using World.cell?_spot hc
      subst hspot
      refine .inr ⟨b, off, rfl, World.block_lt_of_cell? _ _ hc, fun i hi => ?_⟩
      simp at hi
      have := (hel i (by omega)).1
      rw [add_plain] at this
      simpa using this
    · intro y hy
      obtain ⟨i, hi, rfl⟩ := List.mem_map.1 hy
      exact (hel i (by have := List.mem_range.1 hi; omega)).2
/-- numbers that came in -/
theorem open_nums {H : Type} {enc : TypeId × Value → H} {W : World} {base : Nat} {spare : Nat → Bool} {held : Bool} {fuel : Nat} {a0 : Option Addr} {len0 cap0 : Nat} {x : DataW H × List MemPlace}
    (h : DataW.trod enc Tryz.prog W base spare held fuel 32 (Value.slice a0 len0 cap0).cells.toList = some x) :
    ∃ l, len0 ≤ maxLen ∧ IsInts W.heap.size W a0 len0 l := by
  rcases open_ints Tryz.underlying32 Tryz.underlying3 (by kernel_rfl) h with ⟨hcs, _⟩ | ⟨x, l, c, zs, hcs, _, hl, hm, hz, _, hcell, hwz⟩
  · simp [Value.cells] at hcs
    obtain ⟨rfl, rfl, rfl⟩ := hcs
    exact ⟨[], by simp, rfl, .inl rfl⟩
  · simp [Value.cells] at hcs
    obtain ⟨rfl, rfl, rfl⟩ := hcs
    have hlz : len0 ≤ zs.length := by rw [hz]; split <;> omega
    refine ⟨zs.take len0, Nat.le_trans hl hm, by simp; omega, ?_⟩
    by_cases hz0 : len0 = 0
    · exact .inl hz0
    obtain ⟨b, off, spot⟩ := x
    have hc := hcell 0 (by omega)
    have hspot : spot = none := by simpa [Addr.add] using World.cell?_spot hc
    subst hspot
    refine .inr ⟨b, off, rfl, World.block_lt_of_cell? _ _ hc, fun i hi => ?_⟩
    have g := hcell i (by omega)
    rw [add_plain] at g
    rw [g]
    simp [hi, List.getElem?_take]
end Go.Proofs.YtbpfonmkbbnkcaaGreatDoor
