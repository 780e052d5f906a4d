/- Arguments that came in, opened: numbers, and the shapes of slices. -/
import Derived.OpenShut
import Derived.Test.YtjmgfpldjccilaaDoorIntMem
import Derived.Deep.Slices
import Derived.WideShapes
import Derived.ChangeAt
namespace Go.Proofs.YtjmgfpldjccilaaDoor
open Go Go.ChangeShapes Go.WideShapes Go.ChangeAt Go.RowKit Go.Deep Go.PlainAid
set_option linter.unusedVariables false
set_option linter.unusedSimpArgs false

/-- numbers that came in -/
theorem open_nums {H : Type} {enc : TypeId × Value → H} {W : World} {base : Nat} {spare : Nat → Bool} {held : Bool} {fuel : Nat} {a0 : Option Addr} {len0 cap0 : Nat} {x : DataW H × List MemPlace}
    (h : DataW.trod enc Tryd.prog W base spare held fuel 23 (Value.slice a0 len0 cap0).cells.toList = some x) :
    ∃ l, len0 ≤ maxLen ∧ IsInts W.heap.size W a0 len0 l := by
  rcases open_ints Tryd.underlying23 Tryd.underlying3 (by kernel_rfl) h with ⟨hcs, _⟩ | ⟨x, l, c, zs, hcs, _, hl, hm, hz, _, hcell, hwz⟩
  · simp [Value.cells] at hcs
    obtain ⟨rfl, rfl, rfl⟩ := hcs
    exact ⟨[], by simp, rfl, .inl rfl⟩
  · simp [Value.cells] at hcs
    obtain ⟨rfl, rfl, rfl⟩ := hcs
    have hlz : len0 ≤ zs.length := by rw [hz]; split <;> omega
    refine ⟨zs.take len0, Nat.le_trans hl hm, by simp; omega, ?_⟩
    by_cases hz0 : len0 = 0
    · exact .inl hz0
    obtain ⟨b, off, spot⟩ := x
    have hc := hcell 0 (by omega)
    have hspot : spot = none := by simpa [Addr.add] using World.cell?_spot hc
    subst hspot
    refine .inr ⟨b, off, rfl, World.block_lt_of_cell? _ _ hc, fun i hi => ?_⟩
    have g := hcell i (by omega)
    rw [add_plain] at g
    rw [g]
    simp [hi, List.getElem?_take]
section
variable {H : Type} {enc : TypeId × Value → H} {W : World} {base : Nat} {spare : Nat → Bool} {held : Bool}
theorem slice_shape {fuel : Nat} {tS tE : TypeId} {cs : List Value} {x : DataW H × List MemPlace} (hu : Tryd.prog.underlying tS = some (.slice tE))
    (h : DataW.trod enc Tryd.prog W base spare held fuel tS cs = some x) : ∃ a n c, cs = [.slice a n c] := by
  rcases open_slice hu h with ⟨hcs, _⟩ | ⟨a, len, cap, m, nn, D, Pl, hcs, _⟩
  · exact ⟨none, 0, 0, hcs⟩
  · exact ⟨some a, len, cap, hcs⟩
theorem slice_caps {fuel : Nat} {tS tE : TypeId} {a : Option Addr} {n c : Nat} {x : DataW H × List MemPlace} (hu : Tryd.prog.underlying tS = some (.slice tE))
    (h : DataW.trod enc Tryd.prog W base spare held fuel tS [.slice a n c] = some x) : n ≤ c ∧ c ≤ maxLen := by
  rcases open_slice hu h with ⟨hcs, _⟩ | ⟨a', len, cap, m, nn, D, Pl, hcs, hb, hl, hm, _⟩
  · simp at hcs
    obtain ⟨rfl, rfl, rfl⟩ := hcs
    exact ⟨Nat.le_refl _, by unfold maxLen; omega⟩
  · simp at hcs
    obtain ⟨rfl, rfl, rfl⟩ := hcs
    exact ⟨hl, hm⟩
theorem len2 {α : Type} {l : List α} (h : l.length = 2) : ∃ a b, l = [a, b] := by
  match l, h with
  | [a, b], _ => exact ⟨a, b, rfl⟩
theorem len3' {α : Type} {l : List α} (h : l.length = 3) : ∃ a b c, l = [a, b, c] := by
  match l, h with
  | [a, b, c], _ => exact ⟨a, b, c, rfl⟩
theorem len4 {α : Type} {l : List α} (h : l.length = 4) : ∃ a b c d, l = [a, b, c, d] := by
  match l, h with
  | [a, b, c, d], _ => exact ⟨a, b, c, d, rfl⟩
theorem len5 {α : Type} {l : List α} (h : l.length = 5) : ∃ a b c d e, l = [a, b, c, d, e] := by
  match l, h with
  | [a, b, c, d, e], _ => exact ⟨a, b, c, d, e, rfl⟩
theorem cI : Tryd.prog.cellsOf 3 = 1 := by kernel_rfl
end
end Go.Proofs.YtjmgfpldjccilaaDoor
