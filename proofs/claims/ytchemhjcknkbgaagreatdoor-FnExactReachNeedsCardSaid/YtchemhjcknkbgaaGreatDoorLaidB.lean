/- What the rows' condition on package-level variables gives the walks: the table of signs, the powers of ten; a start that meets it. -/
import Derived.Test.YtchemhjcknkbgaaGreatDoorTie
import Derived.Test.YtchemhjcknkbgaaGreatDoorCards
import Derived.Test.YtchemhjcknkbgaaGreatDoorBunY29
import Derived.Deep.Slices
import Derived.OpenShut
import Derived.LaidMore
import Derived.Lay
import Derived.OpenVars
import Derived.Stop.LaidErr
import Derived.Stop.Joined
import Derived.Lib.LaidTab
namespace Go.Proofs.YtchemhjcknkbgaaGreatDoor
open Go Go.RowKit Go.PlainAid Go.ChangeShapes Go.WideShapes Go.ChangeAt Go.Deep
set_option linter.unusedSimpArgs false
set_option linter.unusedVariables false

theorem own : ownKnob Tryz.prog.godebug = none := by kernel_rfl
theorem laidOut : laidOutB Tryz.prog = true := by kernel_rfl

def signD (k : Nat) : DataW Unit := .agg [.lit (.string (sgI k).data.toList), .lit (.int .i64 (tgI k))]
set_option maxRecDepth 100000 in
theorem signs_eq : (Rows.laid_loop_example_telltale_impl_signs : DataW Unit) = .agg ((List.range 14).map signD) := by kernel_rfl
theorem signs_of {W : World} {rest : List (String × DataW Unit)} (h : laidMet Tryz.prog (("loop.example/telltale/impl.signs", Rows.laid_loop_example_telltale_impl_signs) :: rest) W) : Signs W := by
  obtain ⟨ps, ⟨g, t, cs, fuel, p, q, hg, ht, hv, hd, _, _⟩, _⟩ := h
  obtain rfl := Option.some.inj ((show Tryz.prog.globalNamed "loop.example/telltale/impl.signs" = some 0 by kernel_rfl).symm.trans hg)
  obtain rfl := Option.some.inj ((show (Tryz.prog.globals[0]?).map (·.type) = some 237 by kernel_rfl).symm.trans ht)
  rw [signs_eq] at hd
  obtain ⟨xs, m, _, ex, hcl, hl, hel⟩ := DataW.trod_array Tryz.underlying237 hd
  have cE : Tryz.prog.cellsOf 236 = 2 := by kernel_rfl
  have e3 : xs.map (·.1) = (List.range 14).map signD := (DataW.agg.inj (Prod.mk.inj ex).1).symm
  intro k hk
  have hE := hel k hk
  rw [cE, List.getElem?_eq_getElem (by omega)] at hE
  have e4 : (xs[k]'(by omega)).1 = signD k := by
    have := congrArg (fun l : List (DataW Unit) => l[k]?) e3
    simpa [hk, show k < xs.length by omega] using this
  obtain ⟨ys, n', _, ey, hcl2, hyl, hf⟩ := DataW.trod_struct Tryz.underlying236 hE
  rw [ey] at e4
  have e5 : ys.map (·.1) = [.lit (.string (sgI k).data.toList), .lit (.int .i64 (tgI k))] := DataW.agg.inj e4
  match ys, hyl, e5, hf with
  | [y0, y1], _, e5, hf =>
    have g0 := hf 0 _ rfl
    have g1 := hf 1 _ rfl
    have c9 : Tryz.prog.cellsOf 9 = 1 := by kernel_rfl
    have c3 : Tryz.prog.cellsOf 3 = 1 := by kernel_rfl
    simp only [c9, c3, List.getElem?_cons_zero, List.getElem?_cons_succ] at g0 g1
    simp only [List.map_cons, List.map_nil, List.cons.injEq, and_true] at e5
    obtain ⟨s, u1, u2, _⟩ := DataW.trod_string Tryz.underlying9 g0
    obtain ⟨z, v1, v2, _⟩ := DataW.trod_int Tryz.underlying3 g1
    rw [u2] at e5
    rw [v2] at e5
    simp only [DataW.lit.injEq, Lit.string.injEq, Lit.int.injEq, true_and] at e5
    have es : s = sgI k := ByteArray.ext (Array.toList_inj.1 e5.1)
    have ez : z = tgI k := e5.2
    subst es
    subst ez
    refine ⟨?_, ?_⟩
    · rw [World.var?_cell hg hv]
      have h0 := congrArg (fun l : List Value => l[0]?) u1
      simp [List.getElem?_take, List.getElem?_drop] at h0
      simpa using h0.2
    · rw [World.var?_cell hg hv]
      have h0 := congrArg (fun l : List Value => l[0]?) v1
      simp [List.getElem?_take, List.getElem?_drop] at h0
      simpa using h0.2

set_option maxRecDepth 100000 in
theorem tens_eq : (Rows.laid_internal_strconv_uint64pow10 : DataW Unit) = Lib.tabData .u64 Lib.pow10Tab := by kernel_rfl
set_option maxRecDepth 100000 in
theorem tens_of {W : World} {rest : List (String × DataW Unit)} (h : laidMet Tryz.prog (("internal/strconv.uint64pow10", Rows.laid_internal_strconv_uint64pow10) :: rest) W) : Lib.TabIs Tryz.prog W "internal/strconv.uint64pow10" .u64 Lib.pow10Tab := by
  rw [tens_eq] at h
  exact Lib.tabIs_of_head (g := 6) (t := 361) (e := 343) (n := 20) (by kernel_rfl) (by kernel_rfl) Tryz.underlying361 Tryz.underlying343 (by kernel_rfl) (by kernel_rfl) h

/-- the list that all rows bear -/
def theLaid : List (String × DataW Unit) := Rows.fnExactReachNeedsRow.laid
theorem tabs_of {W : World} (h : laidMetH Tryz.prog theLaid W) : Tabs W := by
  rw [MakeChecks.laidMetH_plain _ _ _ (by kernel_rfl)] at h
  have h2 := h.tail.tail
  exact ⟨signs_of h2.tail.tail.tail.tail, tens_of h2⟩

set_option maxRecDepth 100000
theorem shapedL (os : Os) (args : Array Value) : ((World.laidAll Tryz.prog os theLaid).forCall (fun _ _ => 0) ⟨#[], args, []⟩).Shaped Tryz.checked.prog := World.shaped_of_ZipB (by kernel_rfl) (by kernel_rfl)
theorem metL (os : Os) (args : Array Value) : laidMetH Tryz.prog theLaid ((World.laidAll Tryz.prog os theLaid).forCall (fun _ _ => 0) ⟨#[], args, []⟩).memory := by
  rw [MakeChecks.laidMetH_plain _ _ _ (by kernel_rfl)]; exact laidMet_laidAll _ (by kernel_rfl) (by kernel_rfl)
end Go.Proofs.YtchemhjcknkbgaaGreatDoor
