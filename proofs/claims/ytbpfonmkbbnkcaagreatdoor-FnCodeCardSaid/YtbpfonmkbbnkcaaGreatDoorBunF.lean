/- What the rows' condition on package-level variables gives the walks: the table of signs, the powers of ten; a slice of nodes that came in, opened. -/
import Derived.Test.YtbpfonmkbbnkcaaGreatDoorTie
import Derived.Test.YtbpfonmkbbnkcaaGreatDoorCards
import Derived.Test.YtbpfonmkbbnkcaaGreatDoorBunE
import Derived.Deep.Slices
import Derived.OpenShut
import Derived.LaidMore
import Derived.Lay
import Derived.OpenVars
import Derived.Stop.LaidErr
import Derived.Stop.Joined
import Derived.Lib.LaidTab
namespace Go.Proofs.YtbpfonmkbbnkcaaGreatDoor
open Go Go.RowKit Go.PlainAid Go.ChangeShapes Go.WideShapes Go.ChangeAt Go.Deep
set_option linter.unusedSimpArgs false
set_option linter.unusedVariables false

theorem own : ownKnob Tryz.prog.godebug = none := by kernel_rfl
theorem laidOut : laidOutB Tryz.prog = true := by kernel_rfl

def signD (k : Nat) : DataW Unit := .agg [.lit (.string (sgI k).data.toList), .lit (.int .i64 (tgI k))]
set_option maxRecDepth 100000 in
theorem signs_eq : (Rows.laid_loop_example_telltale_impl_signs : DataW Unit) = .agg ((List.range 14).map signD) := by kernel_rfl
theorem signs_of {W : World} {rest : List (String × DataW Unit)} (h : laidMet Tryz.prog (("loop.example/telltale/impl.signs", Rows.laid_loop_example_telltale_impl_signs) :: rest) W) : Signs W := by
  obtain ⟨ps, ⟨g, t, cs, fuel, p, q, hg, ht, hv, hd, _, _⟩, _⟩ := h
  obtain rfl := Option.some.inj ((show Tryz.prog.globalNamed "loop.example/telltale/impl.signs" = some 0 by kernel_rfl).symm.trans hg)
  obtain rfl := Option.some.inj ((show (Tryz.prog.globals[0]?).map (·.type) = some 138 by kernel_rfl).symm.trans ht)
  rw [signs_eq] at hd
  obtain ⟨xs, m, _, ex, hcl, hl, hel⟩ := DataW.trod_array Tryz.underlying138 hd
  have cE : Tryz.prog.cellsOf 137 = 2 := by kernel_rfl
  have e3 : xs.map (·.1) = (List.range 14).map signD := (DataW.agg.inj (Prod.mk.inj ex).1).symm
  intro k hk
  have hE := hel k hk
  rw [cE, List.getElem?_eq_getElem (by omega)] at hE
  have e4 : (xs[k]'(by omega)).1 = signD k := by
    have := congrArg (fun l : List (DataW Unit) => l[k]?) e3
    simpa [hk, show k < xs.length by omega] using this
  obtain ⟨ys, n', _, ey, hcl2, hyl, hf⟩ := DataW.trod_struct Tryz.underlying137 hE
  rw [ey] at e4
  have e5 : ys.map (·.1) = [.lit (.string (sgI k).data.toList), .lit (.int .i64 (tgI k))] := DataW.agg.inj e4
  match ys, hyl, e5, hf with
  | [y0, y1], _, e5, hf =>
    have g0 := hf 0 _ rfl
    have g1 := hf 1 _ rfl
    have c9 : Tryz.prog.cellsOf 9 = 1 := by kernel_rfl
    have c3 : Tryz.prog.cellsOf 3 = 1 := by kernel_rfl
    simp only [c9, c3, List.getElem?_cons_zero, List.getElem?_cons_succ] at g0 g1
    simp only [List.map_cons, List.map_nil, List.cons.injEq, and_true] at e5
    obtain ⟨s, u1, u2, _⟩ := DataW.trod_string Tryz.underlying9 g0
    obtain ⟨z, v1, v2, _⟩ := DataW.trod_int Tryz.underlying3 g1
    rw [u2] at e5
    rw [v2] at e5
    simp only [DataW.lit.injEq, Lit.string.injEq, Lit.int.injEq, true_and] at e5
    have es : s = sgI k := ByteArray.ext (Array.toList_inj.1 e5.1)
    have ez : z = tgI k := e5.2
    subst es
    subst ez
    refine ⟨?_, ?_⟩
    · rw [World.var?_cell hg hv]
      have h0 := congrArg (fun l : List Value => l[0]?) u1
      simp [List.getElem?_take, List.getElem?_drop] at h0
      simpa using h0.2
    · rw [World.var?_cell hg hv]
      have h0 := congrArg (fun l : List Value => l[0]?) v1
      simp [List.getElem?_take, List.getElem?_drop] at h0
      simpa using h0.2

set_option maxRecDepth 100000 in
theorem tens_eq : (Rows.laid_internal_strconv_uint64pow10 : DataW Unit) = Lib.tabData .u64 Lib.pow10Tab := by kernel_rfl
set_option maxRecDepth 100000 in
theorem tens_of {W : World} {rest : List (String × DataW Unit)} (h : laidMet Tryz.prog (("internal/strconv.uint64pow10", Rows.laid_internal_strconv_uint64pow10) :: rest) W) : Lib.TabIs Tryz.prog W "internal/strconv.uint64pow10" .u64 Lib.pow10Tab := by
  rw [tens_eq] at h
  exact Lib.tabIs_of_head (g := 6) (t := 210) (e := 192) (n := 20) (by kernel_rfl) (by kernel_rfl) Tryz.underlying210 Tryz.underlying192 (by kernel_rfl) (by kernel_rfl) h

/-- the list that all rows bear -/
def theLaid : List (String × DataW Unit) := Rows.fnExactExprPutRow.laid
theorem tabs_of {W : World} (h : laidMetH Tryz.prog theLaid W) : Tabs W := by
  rw [MakeChecks.laidMetH_plain _ _ _ (by kernel_rfl)] at h
  have h2 := h.tail.tail
  exact ⟨signs_of h2.tail.tail.tail.tail, tens_of h2⟩

theorem len3 {α : Type} {l : List α} (h : l.length = 3) : ∃ a b c, l = [a, b, c] := by
  match l, h with
  | [a, b, c], _ => exact ⟨a, b, c, rfl⟩
/-- a slice of nodes that came in -/
theorem open_nodes {H : Type} {enc : TypeId × Value → H} {W : World} {base : Nat} {spare : Nat → Bool} {held : Bool} {fuel : Nat} {a0 : Option Addr} {len0 cap0 : Nat} {x : DataW H × List MemPlace}
    (h : DataW.trod enc Tryz.prog W base spare held fuel 50 (Value.slice a0 len0 cap0).cells.toList = some x) :
    ∃ l, len0 ≤ maxLen ∧ IsNds W.heap.size W a0 len0 l ∧ Nums64 l ∧ ∀ y ∈ l, y.2.2.size ≤ maxLen := by
  rcases open_slice Tryz.underlying50 h with ⟨hcs, _⟩ | ⟨a, len, cap, m, nn, D, Pl, hcs, hb, hl, hm, hmm, _, hel⟩
  · simp [Value.cells] at hcs
    obtain ⟨rfl, rfl, rfl⟩ := hcs
    exact ⟨[], by simp, ⟨rfl, .inl rfl⟩, (fun _ h => by simp at h), (fun _ h => by simp at h)⟩
  · simp [Value.cells] at hcs
    obtain ⟨rfl, rfl, rfl⟩ := hcs
    have cE : Tryz.prog.cellsOf 101 = 3 := by kernel_rfl
    have c9 : Tryz.prog.cellsOf 9 = 1 := by kernel_rfl
    have c3 : Tryz.prog.cellsOf 3 = 1 := by kernel_rfl
    rw [cE] at hel
    have each : ∀ i, i < len0 → ∃ q : Nd, (W.cell? (a.add (i * 3)) = some (.int .i64 q.1) ∧ W.cell? (a.add (i * 3 + 1)) = some (.int .i64 q.2.1) ∧ W.cell? (a.add (i * 3 + 1 + 1)) = some (.string q.2.2)) ∧ (-9223372036854775808 ≤ q.2.1 ∧ q.2.1 ≤ 9223372036854775807) ∧ q.2.2.size ≤ maxLen := by
      intro i hi
      have him : i < m := by rw [hmm]; split <;> omega
      obtain ⟨cs', h1, h2⟩ := hel i him
      obtain ⟨_, hlen, hcell⟩ := World.cells?_some h1
      obtain ⟨xs, k, hk, hxy, _, hxl, hf⟩ := DataW.trod_struct Tryz.underlying101 h2
      obtain ⟨y0, y1, y2, rfl⟩ := len3 (show xs.length = 3 from hxl)
      obtain ⟨v0, v1, v2, rfl⟩ := len3 hlen
      · have g0 := hf 0 _ rfl
        have g1 := hf 1 _ rfl
        have g2 := hf 2 _ rfl
        simp only [c9, c3, List.getElem?_cons_zero, List.getElem?_cons_succ] at g0 g1 g2
        simp at g0 g1 g2
        obtain ⟨n0, e0, _, w0⟩ := DataW.trod_int Tryz.underlying3 g0
        obtain ⟨n1, e1, _, w1⟩ := DataW.trod_int Tryz.underlying3 g1
        obtain ⟨s2, e2, _, w2⟩ := DataW.trod_string Tryz.underlying9 g2
        have f0 : List.take (Tryz.prog.cellsOf 3) [v0, v1, v2] = [Value.int IntKind.i64 n0] := e0
        have f1 : List.take (Tryz.prog.cellsOf 3) [v1, v2] = [Value.int IntKind.i64 n1] := e1
        have f2 : List.take (Tryz.prog.cellsOf 9) [v2] = [Value.string s2] := e2
        rw [c3] at f0 f1
        rw [c9] at f2
        simp at f0 f1 f2
        clear e0 e1 e2 g0 g1 g2
        have k0 := hcell 0 (by omega)
        have k1 := hcell 1 (by omega)
        have k2 := hcell 2 (by omega)
        rw [add_add] at k0 k1 k2
        simp at k0 k1 k2
        refine ⟨(n0, n1, s2), ⟨by rw [k0, f0], by rw [k1, f1], by rw [show i * 3 + 1 + 1 = i * 3 + 2 from rfl, k2, f2]⟩, ?_, w2⟩
        simp only [Lit.wf, Bool.and_eq_true, decide_eq_true_eq] at w1
        exact ⟨w1.1, w1.2⟩
    obtain ⟨q, hq⟩ := choose_lt each
    have hml : len0 ≤ maxLen := Nat.le_trans hl hm
    refine ⟨(List.range len0).map q, hml, ⟨by simp, ?_⟩, ?_, ?_⟩
    · by_cases hz : len0 = 0
      · exact .inl hz
      obtain ⟨b, off, spot⟩ := a
      have hc := (hq 0 (by omega)).1.1
      have hspot : spot = none := by simpa [Addr.add] using World.cell?_spot hc
      subst hspot
      refine .inr ⟨b, off, rfl, World.block_lt_of_cell? _ _ hc, fun i hi => ?_⟩
      simp at hi
      obtain ⟨⟨r0, r1, r2⟩, _⟩ := hq i hi
      rw [add_plain] at r0 r1 r2
      simp only [List.getElem_map, List.getElem_range]
      exact ⟨r0, by simpa [Nat.add_assoc] using r1, by simpa [Nat.add_assoc] using r2⟩
    · intro y hy
      obtain ⟨i, hi, rfl⟩ := List.mem_map.1 hy
      exact (hq i (List.mem_range.1 hi)).2.1
    · intro y hy
      obtain ⟨i, hi, rfl⟩ := List.mem_map.1 hy
      exact (hq i (List.mem_range.1 hi)).2.2
end Go.Proofs.YtbpfonmkbbnkcaaGreatDoor

/- A start that meets the rows' condition on package-level variables: for the witness of every row. -/
namespace Go.Proofs.YtbpfonmkbbnkcaaGreatDoor
open Go Go.RowKit Go.ChangeShapes Go.WideShapes Go.ChangeAt
set_option maxRecDepth 100000
theorem shapedL (os : Os) (args : Array Value) : ((World.laidAll Tryz.prog os theLaid).forCall (fun _ _ => 0) ⟨#[], args, []⟩).Shaped Tryz.checked.prog := World.shaped_of_ZipB (by kernel_rfl) (by kernel_rfl)
theorem metL (os : Os) (args : Array Value) : laidMetH Tryz.prog theLaid ((World.laidAll Tryz.prog os theLaid).forCall (fun _ _ => 0) ⟨#[], args, []⟩).memory := by
  rw [MakeChecks.laidMetH_plain _ _ _ (by kernel_rfl)]; exact laidMet_laidAll _ (by kernel_rfl) (by kernel_rfl)
end Go.Proofs.YtbpfonmkbbnkcaaGreatDoor
