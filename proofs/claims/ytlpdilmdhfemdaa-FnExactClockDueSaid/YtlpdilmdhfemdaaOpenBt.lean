/- Beats that came in. -/
import Derived.OpenShut
import Derived.Test.YtlpdilmdhfemdaaBeatMem
import Derived.Deep.Slices
import Derived.WideShapes
import Derived.ChangeAt
namespace Go.Proofs.Ytlpdilmdhfemdaa
open Go Go.ChangeShapes Go.WideShapes Go.ChangeAt Go.RowKit Go.Deep Go.PlainAid
set_option linter.unusedVariables false
set_option linter.unusedSimpArgs false
section
variable {H : Type} {enc : TypeId × Value → H} {W : World} {base : Nat} {spare : Nat → Bool} {held : Bool}
theorem lenB3 {α : Type} {l : List α} (h : l.length = 3) : ∃ a b c, l = [a, b, c] := by
  match l, h with | [a, b, c], _ => exact ⟨a, b, c, rfl⟩
theorem cI : Try.prog.cellsOf 3 = 1 := by kernel_rfl
theorem open_Beat (fuel : Nat) (cs : List Value) (y : DataW H × List MemPlace) (hl : cs.length = 3) (h : DataW.trod enc Try.prog W base spare held fuel 64 cs = some y) :
    ∃ q : Bt, QBt W.heap.size W cs q ∧ (fun _ => True) q := by
  obtain ⟨v0, v1, v2, rfl⟩ := lenB3 hl
  obtain ⟨xs, k, hk, hxy, _, hxl, hf⟩ := DataW.trod_struct Try.underlying64 h
  obtain ⟨y0, y1, y2, rfl⟩ := lenB3 (show xs.length = 3 from hxl)
  have g0 := hf 0 _ rfl
  have g1 := hf 1 _ rfl
  have g2 := hf 2 _ rfl
  simp only [cI, List.getElem?_cons_zero, List.getElem?_cons_succ] at g0 g1 g2
  simp at g0 g1 g2
  obtain ⟨i0, e0, _, w0⟩ := DataW.trod_int Try.underlying3 g0
  have p0 : List.take (Try.prog.cellsOf 3) [v0, v1, v2] = [Value.int IntKind.i64 i0] := e0
  rw [cI] at p0 g1 g2
  simp at p0 g1
  obtain ⟨i1, e1, _, w1⟩ := DataW.trod_int Try.underlying3 g1
  simp [cI] at e1
  simp [cI] at g2
  obtain ⟨i2, e2, _, w2⟩ := DataW.trod_int Try.underlying3 g2
  simp at e2
  subst p0 e1 e2
  exact ⟨(i0, i1, i2), rfl, trivial⟩
theorem open_Beats {fuel : Nat} {a0 : Option Addr} {len0 cap0 : Nat} {x : DataW H × List MemPlace} (h : DataW.trod enc Try.prog W base spare held fuel 40 (Value.slice a0 len0 cap0).cells.toList = some x) :
    ∃ l, (len0 ≤ cap0 ∧ cap0 ≤ maxLen) ∧ IsBts W.heap.size W a0 len0 l := by
  obtain ⟨l, h1, h2, _⟩ := open_arr (Q := QBt) Try.underlying40 (by kernel_rfl) (by omega) (fun fuel cs y hl hh => open_Beat fuel cs y hl hh) h
  exact ⟨l, h1, h2⟩
end
end Go.Proofs.Ytlpdilmdhfemdaa
