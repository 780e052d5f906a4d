/- A drawn text that is bent: l11Bent. -/
import Derived.Test.YtjmgfpldjccilaaGreatDoorDrawOpen
import Derived.Deep.RegionWith
namespace Go.Proofs.YtjmgfpldjccilaaGreatDoor
open Go Go.RowKit Go.PlainAid
set_option linter.unusedSimpArgs false
set_option linter.unusedVariables false

def tenS : List ByteArray := [⟨#[48]⟩, ⟨#[57]⟩, ⟨#[45]⟩, ⟨#[44]⟩, ⟨#[32]⟩, ⟨#[120]⟩, ⟨#[40]⟩, ⟨#[41]⟩, ⟨#[10]⟩, ⟨#[46]⟩]
def sevenS : List ByteArray := [⟨#[48]⟩, ⟨#[45]⟩, ⟨#[44]⟩, ⟨#[32]⟩, ⟨#[10]⟩, ⟨#[33]⟩, ⟨#[120]⟩]
theorem RdAt.drew {w : World} {p : Nat} {a : Option Addr} {n cap : Nat} {bs : List Int} {k : Nat} (h : RdAt w p a n cap bs k) : RdAt w.drew p a n cap bs k := h.old (fun _ _ => rfl)
theorem of_newD (w : World) (p : Nat) (a : Option Addr) (n cap : Nat) (bs : List Int) (k : Nat) (l : List ByteArray) (t : TypeId) (m : Nat) (hk : k ≤ 1000000) (hr : RdAt w p a n cap bs k) (hm : l.length = m) (h1 : 1 ≤ m) (h2 : m ≤ 1000) :
    Calls Tryz.prog 47 #[.pointer (some ⟨p, 0, none⟩), .slice (some ⟨w.heap.size, 0, none⟩) m m] (w.alloc (.cells (l.map Value.string).toArray t)).drew fun e w' => ∃ y, e = .returned (.string y) ∧ y ∈ l ∧ RdAt w' p a n cap bs (k + 1) ∧ Mv p w w' := by
  have hb : Below w.heap.size w (w.alloc (.cells (l.map Value.string).toArray t)) := (Below.refl _ _).alloc (Nat.le_refl _) _
  have hb2 : Below w.heap.size w (w.alloc (.cells (l.map Value.string).toArray t)).drew := ⟨hb.os, hb.tape, hb.output, hb.size, hb.block⟩
  have hrow : RowS (w.alloc (.cells (l.map Value.string).toArray t)).drew p (some ⟨w.heap.size, 0, none⟩) l := row_new w p hr.lt l t
  refine (of_any p a n cap bs k _ m m l _ hk (hr.below hb2) hm h1 h2 hrow).mono ?_
  rintro e w' ⟨y, hy, rfl, d, rfl⟩
  exact ⟨y, rfl, hy, (hr.below hb2).step d, (Mv.of_below hb2).trans (Mv.step _ _ _ _)⟩
/-- what bending leaves -/
def BentPost (p : Nat) (w : World) (a : Option Addr) (n cap : Nat) (bs : List Int) (k m : Nat) (e : Ending) (w' : World) : Prop :=
  ∃ s k', e = .returned (.string s) ∧ s.size ≤ m ∧ k' ≤ k ∧ RdAt w' p a n cap bs k' ∧ Mv p w w'

set_option maxHeartbeats 1600000 in
set_option maxRecDepth 100000 in
theorem l11Bent_any (p : Nat) (a : Option Addr) (n cap : Nat) (bs : List Int) (k : Nat) (s : ByteArray) (w : World) (hk : k ≤ 10000) (hs : s.size ≤ 100000) (hr : RdAt w p a n cap bs k) :
    Calls Tryz.prog 27 #[.pointer (some ⟨p, 0, none⟩), .string s] w fun e w' => BentPost p w a n cap bs (k + 3) (s.size + 3) e w' := by
  have HR : Hid (RdAt w p a n cap bs k) := hr
  have hp := hr.lt
  clear hr
  go_enter Tryz.func27, Tryz.ntmps27
  go_wp2_with fail
  refine (pick_any p a n cap bs k ((s.size : Int) + 1) _ (by omega) (by omega) HR.out).mono ?_
  rintro e w1 ⟨v, rfl, v0, v1, d1, hw1⟩
  have v2 := v1 (by omega)
  have HR1 : Hid (RdAt w1 p a n cap bs (k + 1)) := by rw [hw1]; exact HR.out.step d1
  have HM1 : Hid (Mv p w w1) := by rw [hw1]; exact Mv.step _ _ _ _
  clear hw1 v1
  obtain ⟨V, rfl⟩ : ∃ V : Nat, v = V := ⟨v.toNat, by omega⟩
  have hV : V ≤ s.size := by omega
  go_wp2_with fail
  refine (pick_any p a n cap bs (k + 1) 6 _ (by omega) (by decide) HR1.out).mono ?_
  rintro e w2 ⟨q, rfl, q0, q1, d2, hw2⟩
  have q2 := q1 (by decide)
  have HR2 : Hid (RdAt w2 p a n cap bs (k + 1 + 1)) := by rw [hw2]; exact HR1.out.step d2
  have HM2 : Hid (Mv p w w2) := by rw [hw2]; exact HM1.out.trans (Mv.step _ _ _ _)
  clear hw2 q1 HR1 HM1
  have hp2 := HR2.out.lt
  by_cases c0 : q = 0
  · subst c0
    by_cases hVs : V < s.size
    · have hVI : (V : Int) < s.size := by omega
      have g1 : (s.extract 0 V).size = V := by rw [ByteArray.size_extract]; omega
      have g2 : (s.extract (V + 1) s.size).size = s.size - (V + 1) := by rw [ByteArray.size_extract]; omega
      have pw : IntKind.i64.wrap ((V : Int) + 1) = (V : Int) + 1 := IntWalk.i64_in _ ⟨by omega, by omega⟩
      have HOF : Hid (Calls Tryz.prog 47 #[.pointer (some ⟨p, 0, none⟩), .slice (some ⟨w2.heap.size, 0, none⟩) 10 10] (w2.alloc (.cells #[.string ⟨#[48]⟩, .string ⟨#[57]⟩, .string ⟨#[45]⟩, .string ⟨#[44]⟩, .string ⟨#[32]⟩, .string ⟨#[120]⟩, .string ⟨#[40]⟩, .string ⟨#[41]⟩, .string ⟨#[10]⟩, .string ⟨#[46]⟩] 9)).drew fun e w' => ∃ y, e = .returned (.string y) ∧ y.size = 1 ∧ RdAt w' p a n cap bs (k + 1 + 1 + 1) ∧ Mv p w2 w') := by
        refine (of_newD w2 p a n cap bs (k + 1 + 1) tenS 9 10 (by omega) HR2.out rfl (by decide) (by decide)).mono ?_
        rintro e w' ⟨y, rfl, hy, hr', hm'⟩
        refine ⟨y, rfl, ?_, hr', hm'⟩
        unfold tenS at hy
        simp only [List.mem_cons, List.not_mem_nil, or_false] at hy
        rcases hy with rfl | rfl | rfl | rfl | rfl | rfl | rfl | rfl | rfl | rfl <;> rfl
      go_wp2_with fail
      go_region_with (go_at_call 47; refine HOF.out.mono ?_; rintro e w3 ⟨y, rfl, hy, hr3, hm3⟩; have HR3 : Hid (RdAt w3 p a n cap bs (k + 1 + 1 + 1)) := hr3; have HM3 : Hid (Mv p w w3) := HM2.out.trans hm3; have hc1 : ¬ 9223372036854775807 < (s.extract 0 V).size + y.size := (by omega); have hc2 : ¬ 9223372036854775807 < (s.extract 0 V).size + y.size + (s.extract (V + 1) s.size).size := (by omega); clear hr3 hm3)
      all_goals
        go_wp2_with fail
        go_ret
        refine ⟨_, k + 1 + 1 + 1, rfl, ?_, Nat.le_refl _, HR3.out, HM3.out⟩
        rw [ByteArray.size_append, ByteArray.size_append]
        omega
    · have hVI : ¬ (V : Int) < s.size := by omega
      go_wp2_with fail
      go_ret
      exact ⟨s, k + 1 + 1, rfl, by omega, by omega, HR2.out, HM2.out⟩
  by_cases c1 : q = 1
  · subst c1
    have hVI : (V : Int) ≤ s.size := by omega
    have g1 : (s.extract 0 V).size = V := by rw [ByteArray.size_extract]; omega
    go_wp2_with fail
    go_ret
    exact ⟨_, k + 1 + 1, rfl, by rw [g1]; omega, by omega, HR2.out, HM2.out⟩
  by_cases c2 : q = 2
  · subst c2
    go_wp2_with fail
    refine (of_new w2 p a n cap bs (k + 1 + 1) [⟨#[120]⟩, ⟨#[48]⟩, ⟨#[32]⟩, ⟨#[10]⟩] 9 4 (by omega) HR2.out rfl (by decide) (by decide)).mono ?_
    rintro e w3 ⟨y, rfl, hy, hr3, hm3⟩
    have hy1 : y.size = 1 := by
      simp only [List.mem_cons, List.not_mem_nil, or_false] at hy
      rcases hy with rfl | rfl | rfl | rfl <;> rfl
    have HR3 : Hid (RdAt w3 p a n cap bs (k + 1 + 1 + 1)) := hr3
    have HM3 : Hid (Mv p w w3) := HM2.out.trans hm3
    have hc1 : s.size + y.size ≤ 9223372036854775807 := by omega
    clear hy hr3 hm3
    go_wp2_with fail
    go_ret
    exact ⟨_, k + 1 + 1 + 1, rfl, by rw [ByteArray.size_append]; omega, by omega, HR3.out, HM3.out⟩
  by_cases c3 : q = 3
  · subst c3
    have hVI : (V : Int) ≤ s.size := by omega
    have g1 : (s.extract 0 V).size = V := by rw [ByteArray.size_extract]; omega
    have g2 : (s.extract V s.size).size = s.size - V := by rw [ByteArray.size_extract]; omega
    have HOF : Hid (Calls Tryz.prog 47 #[.pointer (some ⟨p, 0, none⟩), .slice (some ⟨w2.heap.size, 0, none⟩) 7 7] (w2.alloc (.cells #[.string ⟨#[48]⟩, .string ⟨#[45]⟩, .string ⟨#[44]⟩, .string ⟨#[32]⟩, .string ⟨#[10]⟩, .string ⟨#[33]⟩, .string ⟨#[120]⟩] 9)).drew fun e w' => ∃ y, e = .returned (.string y) ∧ y.size = 1 ∧ RdAt w' p a n cap bs (k + 1 + 1 + 1) ∧ Mv p w2 w') := by
      refine (of_newD w2 p a n cap bs (k + 1 + 1) sevenS 9 7 (by omega) HR2.out rfl (by decide) (by decide)).mono ?_
      rintro e w' ⟨y, rfl, hy, hr', hm'⟩
      refine ⟨y, rfl, ?_, hr', hm'⟩
      unfold sevenS at hy
      simp only [List.mem_cons, List.not_mem_nil, or_false] at hy
      rcases hy with rfl | rfl | rfl | rfl | rfl | rfl | rfl <;> rfl
    go_wp2_with fail
    go_region_with (go_at_call 47; refine HOF.out.mono ?_; rintro e w3 ⟨y, rfl, hy, hr3, hm3⟩; have HR3 : Hid (RdAt w3 p a n cap bs (k + 1 + 1 + 1)) := hr3; have HM3 : Hid (Mv p w w3) := HM2.out.trans hm3; have hc1 : ¬ 9223372036854775807 < (s.extract 0 V).size + y.size := (by omega); have hc2 : ¬ 9223372036854775807 < (s.extract 0 V).size + y.size + (s.extract V s.size).size := (by omega); clear hr3 hm3)
    all_goals
      go_wp2_with fail
      go_ret
      refine ⟨_, k + 1 + 1 + 1, rfl, ?_, Nat.le_refl _, HR3.out, HM3.out⟩
      rw [ByteArray.size_append, ByteArray.size_append]
      omega
  have e0 : (q == 0) = false := by simp [c0]
  have e1 : (q == 1) = false := by simp [c1]
  have e2 : (q == 2) = false := by simp [c2]
  have e3 : (q == 3) = false := by simp [c3]
  go_wp2_with fail
  go_ret
  exact ⟨s, k + 1 + 1, rfl, by omega, by omega, HR2.out, HM2.out⟩
end Go.Proofs.YtjmgfpldjccilaaGreatDoor
