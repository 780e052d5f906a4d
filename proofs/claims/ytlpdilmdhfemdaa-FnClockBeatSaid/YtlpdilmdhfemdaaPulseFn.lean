/- The small functions of a clock's pulses. -/
import Derived.Test.YtlpdilmdhfemdaaBeatOk
import Derived.Deep.RegionHeld3
import Derived.Deep.RegionWith
import Derived.BigQuiet
namespace Go.Proofs.Ytlpdilmdhfemdaa
open Go Go.RowKit Go.PlainAid
set_option linter.unusedSimpArgs false
set_option linter.unusedVariables false

/-- when it comes next, its source, and how far apart -/
abbrev Pu := Int × Int × Int
/-- one pulse in a block of its own -/
def PulAt (W : World) (b : Nat) (x : Pu) : Prop := W.heap[b]? = some (.cells #[.int .i64 x.1, .int .i64 x.2.1, .int .i64 x.2.2] 81 (0, 0))
theorem PulAt.lt {W : World} {b : Nat} {x : Pu} (h : PulAt W b x) : b < W.heap.size := (Array.getElem?_eq_some_iff.1 h).1
theorem PulAt.cell0 {W : World} {b : Nat} {x : Pu} (h : PulAt W b x) : W.cell? ⟨b, 0, none⟩ = some (.int .i64 x.1) := by simp [World.cell?, show W.heap[b]? = _ from h]
theorem PulAt.cell1 {W : World} {b : Nat} {x : Pu} (h : PulAt W b x) : W.cell? ⟨b, 1, none⟩ = some (.int .i64 x.2.1) := by simp [World.cell?, show W.heap[b]? = _ from h]
theorem PulAt.cell2 {W : World} {b : Nat} {x : Pu} (h : PulAt W b x) : W.cell? ⟨b, 2, none⟩ = some (.int .i64 x.2.2) := by simp [World.cell?, show W.heap[b]? = _ from h]
theorem PulAt.frozen {W : World} {b : Nat} {x : Pu} (h : PulAt W b x) (j : Nat) : W.frozen? ⟨b, j, none⟩ = false := by simp [World.frozen?, show W.heap[b]? = _ from h]
theorem PulAt.of {W W' : World} {b : Nat} {x : Pu} (h : PulAt W b x) (hb : W'.heap[b]? = W.heap[b]?) : PulAt W' b x := hb.trans h
theorem PulAt.below {W W' : World} {b : Nat} {x : Pu} (h : PulAt W b x) (hb : Below W.heap.size W W') : PulAt W' b x := (hb.block b h.lt).trans h
theorem PulAt.new (W : World) (x y z : Int) : PulAt (W.alloc (.cells #[.int .i64 x, .int .i64 y, .int .i64 z] 81)) W.heap.size (x, y, z) := by
  show (W.heap.push _)[W.heap.size]? = _
  simp
/-- its time becomes another one -/
theorem PulAt.set {W : World} {b : Nat} {x : Pu} (h : PulAt W b x) (t : Int) : PulAt (W.setCell ⟨b, 0, none⟩ (.int .i64 t)) b (t, x.2) := by
  obtain ⟨hlt, hk⟩ := Array.getElem?_eq_some_iff.1 h
  show (W.heap.modify b _)[b]? = _
  rw [Array.getElem?_eq_getElem (by rw [Array.size_modify]; exact hlt), Array.getElem_modify_self, hk]
  rfl

theorem isNaN_any (x : Int) (w : World) : Calls Try.prog 51 #[.int .i64 x] w fun e w' => e = .returned (.bool false) ∧ w' = w := by
  go_enter Try.func51, Try.ntmps51
  go_wp2
  go_ret
  exact ⟨ret_bool (by simp), rfl⟩
theorem compare_any (x y : Int) (w : World) : Calls Try.prog 50 #[.int .i64 x, .int .i64 y] w fun e w' => ∃ r : Int, e = .returned (.int .i64 r) ∧ (r < 0 ↔ x < y) ∧ w' = w := by
  by_cases h1 : x < y
  · go_enter Try.func50, Try.ntmps50
    go_wp2_with (go_at_call 51; refine (isNaN_any _ _).mono ?_; rintro e w' ⟨rfl, rfl⟩)
    go_ret
    exact ⟨_, rfl, by omega, rfl⟩
  · by_cases h2 : y < x
    · go_enter Try.func50, Try.ntmps50
      go_wp2_with (go_at_call 51; refine (isNaN_any _ _).mono ?_; rintro e w' ⟨rfl, rfl⟩)
      go_ret
      exact ⟨_, rfl, by omega, rfl⟩
    · obtain rfl : x = y := by omega
      go_enter Try.func50, Try.ntmps50
      go_wp2_with (go_at_call 51; refine (isNaN_any _ _).mono ?_; rintro e w' ⟨rfl, rfl⟩)
      go_ret
      exact ⟨_, rfl, by omega, rfl⟩
set_option maxHeartbeats 800000 in
theorem byTime_any (b b' : Nat) (x y : Int) (w : World) (hb : b < w.heap.size) (hb' : b' < w.heap.size) (h1 : w.cell? ⟨b, 0, none⟩ = some (.int .i64 x)) (h2 : w.cell? ⟨b', 0, none⟩ = some (.int .i64 y)) :
    Calls Try.prog 46 #[.pointer (some ⟨b, 0, none⟩), .pointer (some ⟨b', 0, none⟩)] w fun e w' => ∃ r : Int, e = .returned (.int .i64 r) ∧ (r < 0 ↔ x < y) ∧ Below w.heap.size w w' := by
  go_enter Try.func46, Try.ntmps46
  go_wp2
  go_region_held3 (fun w' => w'.cell? ⟨b, 0, none⟩ = some (.int .i64 x) ∧ w'.cell? ⟨b', 0, none⟩ = some (.int .i64 y)) (simp [go_sem, *])
    (first | (go_at_call 50; refine (compare_any _ _ _).mono ?_; rintro e w' ⟨r, rfl, hr, rfl⟩))
  go_wp2
  go_ret
  exact ⟨_, rfl, hr, drewN (Below.refl _ _) _⟩
end Go.Proofs.Ytlpdilmdhfemdaa
