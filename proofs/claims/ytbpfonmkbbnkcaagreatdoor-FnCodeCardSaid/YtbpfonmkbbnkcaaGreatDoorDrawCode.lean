/- Drawn nodes and names: DrawCodeOf. -/
import Derived.Test.YtbpfonmkbbnkcaaGreatDoorDrawCodeR
namespace Go.Proofs.YtbpfonmkbbnkcaaGreatDoor
open Go Go.RowKit Go.PlainAid
set_option linter.unusedSimpArgs false
set_option linter.unusedVariables false

theorem arr20 (x : Array Value) (h : x.size = 20) : x = #[x.getD 0 undef, x.getD 1 undef, x.getD 2 undef, x.getD 3 undef, x.getD 4 undef, x.getD 5 undef, x.getD 6 undef, x.getD 7 undef, x.getD 8 undef, x.getD 9 undef, x.getD 10 undef, x.getD 11 undef, x.getD 12 undef, x.getD 13 undef, x.getD 14 undef, x.getD 15 undef, x.getD 16 undef, x.getD 17 undef, x.getD 18 undef, x.getD 19 undef] := by
  apply Array.ext
  · simp [h]
  · intro i h1 h2
    have hi : i = 0 ∨ i = 1 ∨ i = 2 ∨ i = 3 ∨ i = 4 ∨ i = 5 ∨ i = 6 ∨ i = 7 ∨ i = 8 ∨ i = 9 ∨ i = 10 ∨ i = 11 ∨ i = 12 ∨ i = 13 ∨ i = 14 ∨ i = 15 ∨ i = 16 ∨ i = 17 ∨ i = 18 ∨ i = 19 := by omega
    rcases hi with rfl | rfl | rfl | rfl | rfl | rfl | rfl | rfl | rfl | rfl | rfl | rfl | rfl | rfl | rfl | rfl | rfl | rfl | rfl | rfl <;> simp [Array.getD_eq_getD_getElem?, h1]

set_option maxHeartbeats 1600000 in
set_option maxRecDepth 100000 in
theorem DrawCodeOf_any (a : Option Addr) (n cap : Nat) (bs : List Int) (w : World) (hc : n ≤ cap) (hn : n ≤ 1048576) (hz : IsBytes w.heap.size w a n bs) :
    Calls Tryz.prog 23 #[.slice a n cap] w fun e w' => ∃ (b : Option Addr) (m c : Nat) (l : List Nd) (a1 : Option Addr) (n1 c1 : Nat) (names : List ByteArray), e = .returned (.tuple #[.slice b m c, .slice a1 n1 c1]) ∧ NdFit l ∧ IsNds w'.heap.size w' b m l ∧ DrawnCode names ∧ IsStrs w'.heap.size w' a1 n1 names ∧ Below w.heap.size w w' := by
  have HO := hidOf (l11Open_any a n cap bs w hc hn hz)
  clear hz
  go_enter Tryz.func23, Tryz.ntmps23
  go_wp2_with fail
  refine HO.out.mono ?_
  rintro e w1 ⟨a1, n1, c1, bs1, rfl, hr1, hb1, hs1⟩
  have HB1 : Hid (Below w.heap.size w w1) := hb1
  have HA := hidOf (l11AnyNodes_any w.heap.size a1 n1 c1 bs1 0 w1 (by omega) hr1)
  clear hr1 hb1 HO
  go_wp2_with fail
  refine HA.out.mono ?_
  rintro e w2 ⟨b, m, c, l, k2, rfl, hf, hmc, hi2, hfar, hk2, hr2, hm2⟩
  have HF : Hid (NdFit l) := hf
  have HFar : Hid (∀ q o, b = some ⟨q, o, none⟩ → w1.heap.size ≤ q) := hfar
  have HI2 : Hid (IsNds w2.heap.size w2 b m l) := hi2
  have HR2 : Hid (RdAt w2 w.heap.size a1 n1 c1 bs1 k2) := hr2
  have HM2 : Hid (Mv w.heap.size w1 w2) := hm2
  clear hf hi2 hr2 hm2 HA hfar
  go_wp2_with fail
  refine regionD _ _ w2 w.heap.size (.slice b m c) a1 n1 c1 bs1 k2 rfl rfl rfl (by omega) HR2.out ?_
  intro ax w3 hz3 hdf e2 e3 hm3
  obtain ⟨aa, na, ca, names, ev, hdn, hstr, hfar3⟩ := e3
  have HI3 : Hid (IsNds w3.heap.size w3 b m l) := IsNds.mv (B := w.heap.size + 1) HI2.out (fun q o e => by have := HFar.out q o e; omega) (by omega) hm3
  have HB3 : Hid (Below w.heap.size w w3) := Mv.fresh HB1.out (HM2.out.trans hm3)
  have HDN := hidOf hdn
  have HST := hidOf hstr
  have hax : ax = ⟨ax.tmps, ax.defers⟩ := rfl
  rw [hdf, arr20 ax.tmps hz3, e2, ev] at hax
  rw [hax]
  clear hax hz3 hdf e2 ev hm3 hdn hstr
  generalize ax.tmps.getD 0 undef = y0
  generalize ax.tmps.getD 1 undef = y1
  go_wp2_with fail
  go_ret2
  exact ⟨b, m, c, l, aa, na, ca, names, rfl, HF.out, HI3.out, HDN.out, HST.out, HB3.out⟩
end Go.Proofs.YtbpfonmkbbnkcaaGreatDoor
