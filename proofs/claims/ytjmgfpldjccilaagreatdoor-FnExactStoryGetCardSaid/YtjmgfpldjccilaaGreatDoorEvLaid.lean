/- What the rows' condition on package-level variables gives the walks of events: the words, the powers of ten; a start that meets it (the rows of what is written). -/
import Derived.Test.YtjmgfpldjccilaaGreatDoorTie
import Derived.Test.YtjmgfpldjccilaaGreatDoorCards
import Derived.Test.YtjmgfpldjccilaaGreatDoorEvTab
import Derived.Deep.Slices
import Derived.OpenShut
import Derived.LaidMore
import Derived.Lay
import Derived.OpenVars
import Derived.Stop.LaidErr
import Derived.Stop.Joined
import Derived.Lib.LaidTab
namespace Go.Proofs.YtjmgfpldjccilaaGreatDoor
open Go Go.RowKit Go.PlainAid Go.ChangeShapes Go.WideShapes Go.ChangeAt Go.Deep
set_option linter.unusedSimpArgs false
set_option linter.unusedVariables false

theorem own : ownKnob Tryz.prog.godebug = none := by kernel_rfl
theorem laidOut : laidOutB Tryz.prog = true := by kernel_rfl

def wordD (k : Nat) : DataW Unit := .lit (.string (wordsL.getD k []))
set_option maxRecDepth 100000 in
theorem words_eq : (Rows.laid_loop_example_telltale_impl_eventWords : DataW Unit) = .agg ((List.range 10).map wordD) := by kernel_rfl
theorem words_of {W : World} {rest : List (String × DataW Unit)} (h : laidMet Tryz.prog (("loop.example/telltale/impl.eventWords", Rows.laid_loop_example_telltale_impl_eventWords) :: rest) W) : ∀ k, k < 10 → W.cell? ⟨0, k, none⟩ = some (.string (bt8 (wordsL.getD k []))) := by
  obtain ⟨ps, ⟨g, t, cs, fuel, p, q, hg, ht, hv, hd, _, _⟩, _⟩ := h
  obtain rfl := Option.some.inj ((show Tryz.prog.globalNamed "loop.example/telltale/impl.eventWords" = some 0 by kernel_rfl).symm.trans hg)
  obtain rfl := Option.some.inj ((show (Tryz.prog.globals[0]?).map (·.type) = some 49 by kernel_rfl).symm.trans ht)
  rw [words_eq] at hd
  obtain ⟨xs, m, _, ex, hcl, hl, hel⟩ := DataW.trod_array Tryz.underlying49 hd
  have cE : Tryz.prog.cellsOf 9 = 1 := by kernel_rfl
  have e3 : xs.map (·.1) = (List.range 10).map wordD := (DataW.agg.inj (Prod.mk.inj ex).1).symm
  intro k hk
  have hE := hel k hk
  rw [cE, List.getElem?_eq_getElem (by omega)] at hE
  have e4 : (xs[k]'(by omega)).1 = wordD k := by
    have := congrArg (fun l : List (DataW Unit) => l[k]?) e3
    simpa [hk, show k < xs.length by omega] using this
  obtain ⟨s, u1, u2, _⟩ := DataW.trod_string Tryz.underlying9 hE
  rw [u2] at e4
  have e5 : s.data.toList = wordsL.getD k [] := Lit.string.inj (DataW.lit.inj e4)
  have es : s = bt8 (wordsL.getD k []) := by rw [← e5, bt8_of]
  rw [World.var?_cell hg hv]
  have h0 := congrArg (fun l : List Value => l[0]?) u1
  simp [List.getElem?_take, List.getElem?_drop] at h0
  rw [← es]
  simpa using h0

set_option maxRecDepth 100000 in
theorem tens_eq : (Rows.laid_internal_strconv_uint64pow10 : DataW Unit) = Lib.tabData .u64 Lib.pow10Tab := by kernel_rfl
set_option maxRecDepth 100000 in
theorem tens_of {W : World} {rest : List (String × DataW Unit)} (h : laidMet Tryz.prog (("internal/strconv.uint64pow10", Rows.laid_internal_strconv_uint64pow10) :: rest) W) : Lib.TabIs Tryz.prog W "internal/strconv.uint64pow10" .u64 Lib.pow10Tab := by
  rw [tens_eq] at h
  exact Lib.tabIs_of_head (g := 1) (t := 116) (e := 103) (n := 20) (by kernel_rfl) (by kernel_rfl) Tryz.underlying116 Tryz.underlying103 (by kernel_rfl) (by kernel_rfl) h
end Go.Proofs.YtjmgfpldjccilaaGreatDoor
