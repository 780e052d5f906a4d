/- A drawn text of a sum: l11Expr. -/
import Derived.Test.YtmdaiejflolpmaaDraw2
namespace Go.Proofs.Ytmdaiejflolpmaa
open Go Go.RowKit Go.PlainAid
set_option linter.unusedSimpArgs false
set_option linter.unusedVariables false

theorem row_new (w : World) (p : Nat) (hp : p < w.heap.size) (l : List ByteArray) (t : TypeId) : RowS (w.alloc (.cells (l.map Value.string).toArray t)) p (some ⟨w.heap.size, 0, none⟩) l := by
  refine ⟨w.heap.size, 0, rfl, by omega, fun i hi => ?_⟩
  simp [go_sem, hi]
theorem of_new (w : World) (p : Nat) (a : Option Addr) (n cap : Nat) (bs : List Int) (k : Nat) (l : List ByteArray) (t : TypeId) (m : Nat) (hk : k ≤ 1000000) (hr : RdAt w p a n cap bs k) (hm : l.length = m) (h1 : 1 ≤ m) (h2 : m ≤ 1000) :
    Calls Try.prog 55 #[.pointer (some ⟨p, 0, none⟩), .slice (some ⟨w.heap.size, 0, none⟩) m m] (w.alloc (.cells (l.map Value.string).toArray t)) fun e w' => ∃ y, e = .returned (.string y) ∧ y ∈ l ∧ RdAt w' p a n cap bs (k + 1) ∧ Mv p w w' := by
  have hb : Below w.heap.size w (w.alloc (.cells (l.map Value.string).toArray t)) := (Below.refl _ _).alloc (Nat.le_refl _) _
  refine (of_any p a n cap bs k _ m m l _ hk (hr.below hb) hm h1 h2 (row_new w p hr.lt l t)).mono ?_
  rintro e w' ⟨y, hy, rfl, d, rfl⟩
  exact ⟨y, rfl, hy, (hr.below hb).step d, (Mv.of_below hb).trans (Mv.step _ _ _ _)⟩
def exS : Nat → Nat | 0 => 6 | d + 1 => 2 * exS d + 3
def exK : Nat → Nat | 0 => 1 | d + 1 => 2 * exK d + 2

theorem exS_le : ∀ {d : Nat}, d ≤ 3 → exS d ≤ 69 := by
  intro d h
  have : d = 0 ∨ d = 1 ∨ d = 2 ∨ d = 3 := by omega
  rcases this with rfl | rfl | rfl | rfl <;> decide
theorem exK_le : ∀ {d : Nat}, d ≤ 3 → exK d ≤ 22 := by
  intro d h
  have : d = 0 ∨ d = 1 ∨ d = 2 ∨ d = 3 := by omega
  rcases this with rfl | rfl | rfl | rfl <;> decide
set_option maxHeartbeats 800000 in
set_option maxRecDepth 100000 in
theorem l11Expr_any : ∀ (d : Nat), d ≤ 3 → ∀ (p : Nat) (a : Option Addr) (n cap : Nat) (bs : List Int) (k : Nat) (w : World), k + exK d ≤ 100000 → RdAt w p a n cap bs k →
    Calls Try.prog 54 #[.pointer (some ⟨p, 0, none⟩), .int .i64 d] w fun e w' => ∃ s k', e = .returned (.string s) ∧ s.size ≤ exS d ∧ k' ≤ k + exK d ∧ RdAt w' p a n cap bs k' ∧ Mv p w w' := by
  intro d
  induction d with
  | zero =>
    intro _ p a n cap bs k w hk hr
    simp only [exK] at hk
    have HR : Hid (RdAt w p a n cap bs k) := hr
    have hp := hr.lt
    clear hr
    go_enter Try.func54, Try.ntmps54
    go_wp2_with fail
    refine (of_new w p a n cap bs k [⟨#[48]⟩, ⟨#[49]⟩, ⟨#[50]⟩, ⟨#[55]⟩, ⟨#[57, 57, 57, 57, 57, 57]⟩, ⟨#[120]⟩, ⟨#[121]⟩, ⟨#[99]⟩, ⟨#[110]⟩, ⟨#[120]⟩, ⟨#[49, 48]⟩] 9 11 (by omega) HR.out rfl (by decide) (by decide)).mono ?_
    rintro e w1 ⟨y, rfl, hy, hr1, hm1⟩
    have HY : Hid (y.size ≤ 6) := by
      show y.size ≤ 6
      simp only [List.mem_cons, List.not_mem_nil, or_false] at hy
      rcases hy with rfl | rfl | rfl | rfl | rfl | rfl | rfl | rfl | rfl | rfl | rfl <;> decide
    have HR1 : Hid (RdAt w1 p a n cap bs (k + 1)) := hr1
    have HM1 : Hid (Mv p w w1) := hm1
    clear hy hr1 hm1
    go_wp2_with fail
    go_ret
    exact ⟨y, k + 1, rfl, HY.out, Nat.le_refl _, HR1.out, HM1.out⟩
  | succ d ih =>
    intro hd p a n cap bs k w hk hr
    simp only [exK] at hk
    have hsx : exS (d + 1) = 2 * exS d + 3 := rfl
    have hkx : exK (d + 1) = 2 * exK d + 2 := rfl
    have hex := exS_le (by omega : d ≤ 3)
    have HE : Hid (exS (d + 1) = 2 * exS d + 3 ∧ exK (d + 1) = 2 * exK d + 2) := ⟨hsx, hkx⟩
    clear hsx hkx
    have HR : Hid (RdAt w p a n cap bs k) := hr
    have IH : Hid (d ≤ 3 → ∀ (p : Nat) (a : Option Addr) (n cap : Nat) (bs : List Int) (k : Nat) (w : World), k + exK d ≤ 100000 → RdAt w p a n cap bs k →
      Calls Try.prog 54 #[.pointer (some ⟨p, 0, none⟩), .int .i64 d] w fun e w' => ∃ s k', e = .returned (.string s) ∧ s.size ≤ exS d ∧ k' ≤ k + exK d ∧ RdAt w' p a n cap bs k' ∧ Mv p w w') := ih
    clear ih
    have hp := hr.lt
    clear hr
    have hd0 : (((d + 1 : Nat) : Int) == 0) = false := by simp; omega
    have hd1 : ((d + 1 : Nat) : Int) - 1 = d := by omega
    have hd2 : IntKind.i64.wrap (d : Int) = d := IntWalk.i64_in _ ⟨by omega, by omega⟩
    obtain ⟨D, hD⟩ : ∃ D : Int, ((d + 1 : Nat) : Int) = D := ⟨_, rfl⟩
    rw [hD] at hd0 hd1 
    rw [hD]
    clear hD
    go_enter Try.func54, Try.ntmps54
    go_wp2_with fail
    refine (pick_any p a n cap bs k 6 _ (by omega) (by decide) HR.out).mono ?_
    rintro e w1 ⟨v, rfl, v0, v1, dd, hw1⟩
    have v2 := v1 (by decide)
    have HR1 : Hid (RdAt w1 p a n cap bs (k + 1)) := by rw [hw1]; exact HR.out.step dd
    have HM1 : Hid (Mv p w w1) := by rw [hw1]; exact Mv.step _ _ _ _
    clear hw1 v1
    by_cases h0 : v = 0
    · subst h0
      go_wp2_with fail
      refine (IH.out (by omega) p a n cap bs (k + 1) w1 (by omega) HR1.out).mono ?_
      rintro e w2 ⟨s, k2, rfl, hs2, hk2, hr2, hm2⟩
      have HR2 : Hid (RdAt w2 p a n cap bs k2) := hr2
      have HM2 : Hid (Mv p w w2) := HM1.out.trans hm2
      clear hr2 hm2
      have y1 : (⟨#[40]⟩ : ByteArray).size + s.size ≤ 9223372036854775807 := by have : (⟨#[40]⟩ : ByteArray).size = 1 := rfl; omega
      go_wp2_with fail
      go_ret
      refine ⟨_, k2, rfl, ?_, by have := HE.out; omega, HR2.out, HM2.out⟩
      have h40 : (⟨#[40]⟩ : ByteArray).size = 1 := rfl
      have h41 : (⟨#[41]⟩ : ByteArray).size = 1 := rfl
      have h3 := HE.out
      rw [ByteArray.size_append, ByteArray.size_append]
      omega
    · by_cases h1 : v = 1
      · subst h1
        go_wp2_with fail
        refine (of_new w1 p a n cap bs (k + 1) [⟨#[45]⟩, ⟨#[33]⟩] 9 2 (by omega) HR1.out rfl (by decide) (by decide)).mono ?_
        rintro e w2 ⟨y, rfl, hy, hr2, hm2⟩
        have HY : Hid (y.size = 1) := by
          show y.size = 1
          simp only [List.mem_cons, List.not_mem_nil, or_false] at hy
          rcases hy with rfl | rfl <;> rfl
        have HR2 : Hid (RdAt w2 p a n cap bs (k + 1 + 1)) := hr2
        have HM2 : Hid (Mv p w w2) := HM1.out.trans hm2
        clear hy hr2 hm2
        go_wp2_with fail
        refine (IH.out (by omega) p a n cap bs (k + 1 + 1) w2 (by omega) HR2.out).mono ?_
        rintro e w3 ⟨s, k3, rfl, hs3, hk3, hr3, hm3⟩
        have HR3 : Hid (RdAt w3 p a n cap bs k3) := hr3
        have HM3 : Hid (Mv p w w3) := HM2.out.trans hm3
        clear hr3 hm3
        have y1 : y.size + s.size ≤ 9223372036854775807 := by have := HY.out; omega
        go_wp2_with fail
        go_ret
        refine ⟨_, k3, rfl, ?_, by have := HE.out; omega, HR3.out, HM3.out⟩
        have h3 := HE.out
        have h4 := HY.out
        rw [ByteArray.size_append]
        omega
      · have e0 : (v == 0) = false := by simp [h0]
        have e1 : (v == 1) = false := by simp [h1]
        go_wp2_with fail
        refine (IH.out (by omega) p a n cap bs (k + 1) w1 (by omega) HR1.out).mono ?_
        rintro e w2 ⟨s, k2, rfl, hs2, hk2, hr2, hm2⟩
        have HR2 : Hid (RdAt w2 p a n cap bs k2) := hr2
        have HM2 : Hid (Mv p w w2) := HM1.out.trans hm2
        clear hr2 hm2
        go_wp2_with fail
        refine (of_new w2 p a n cap bs k2 [⟨#[43]⟩, ⟨#[45]⟩, ⟨#[42]⟩, ⟨#[47]⟩, ⟨#[37]⟩, ⟨#[60]⟩, ⟨#[61, 61]⟩, ⟨#[38]⟩, ⟨#[124]⟩, ⟨#[32, 43, 32]⟩] 9 10 (by omega) HR2.out rfl (by decide) (by decide)).mono ?_
        rintro e w3 ⟨y, rfl, hy, hr3, hm3⟩
        have HY : Hid (y.size ≤ 3) := by
          show y.size ≤ 3
          simp only [List.mem_cons, List.not_mem_nil, or_false] at hy
          rcases hy with rfl | rfl | rfl | rfl | rfl | rfl | rfl | rfl | rfl | rfl <;> decide
        have HR3 : Hid (RdAt w3 p a n cap bs (k2 + 1)) := hr3
        have HM3 : Hid (Mv p w w3) := HM2.out.trans hm3
        clear hy hr3 hm3
        have y1 : s.size + y.size ≤ 9223372036854775807 := by have := HY.out; omega
        go_wp2_with fail
        refine (IH.out (by omega) p a n cap bs (k2 + 1) w3 (by omega) HR3.out).mono ?_
        rintro e w4 ⟨s', k4, rfl, hs4, hk4, hr4, hm4⟩
        have HR4 : Hid (RdAt w4 p a n cap bs k4) := hr4
        have HM4 : Hid (Mv p w w4) := HM3.out.trans hm4
        clear hr4 hm4
        have y2 : s.size + y.size + s'.size ≤ 9223372036854775807 := by have := HY.out; omega
        go_wp2_with fail
        go_ret
        refine ⟨_, k4, rfl, ?_, by have := HE.out; omega, HR4.out, HM4.out⟩
        have h3 := HE.out
        have h4 := HY.out
        rw [ByteArray.size_append, ByteArray.size_append]
        omega
end Go.Proofs.Ytmdaiejflolpmaa
