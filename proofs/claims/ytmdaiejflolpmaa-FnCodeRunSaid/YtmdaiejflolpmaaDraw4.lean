/- Drawn nodes: l11Nodes. -/
import Derived.Test.YtmdaiejflolpmaaDraw3
namespace Go.Proofs.Ytmdaiejflolpmaa
open Go Go.RowKit Go.PlainAid
set_option linter.unusedSimpArgs false
set_option linter.unusedVariables false

set_option maxRecDepth 100000 in
theorem some1 : (exprM ⟨#[120, 43, 49]⟩).isSome = true := by kernel_rfl
set_option maxRecDepth 100000 in
theorem some2 : (exprM ⟨#[99]⟩).isSome = true := by kernel_rfl
set_option maxRecDepth 100000 in
theorem some3 : (exprM ⟨#[45, 40, 120, 42, 50, 41]⟩).isSome = true := by kernel_rfl
set_option maxRecDepth 100000 in
theorem some4 : (exprM ⟨#[33, 40, 120, 60, 121, 41, 38, 99]⟩).isSome = true := by kernel_rfl

/-- nodes that were read, and can be written -/
def Good (l : List Nd) : Prop := ∃ s, exprM s = some l

set_option maxHeartbeats 800000 in
set_option maxRecDepth 100000 in
theorem l11Nodes_any (p : Nat) (a : Option Addr) (n cap : Nat) (bs : List Int) (k : Nat) (w : World) (hk : k ≤ 1000) (hr : RdAt w p a n cap bs k) :
    Calls Try.prog 36 #[.pointer (some ⟨p, 0, none⟩)] w fun e w' => ∃ v l k', e = .returned v ∧ Good l ∧ OwnNd w.heap.size w' v l ∧ k' ≤ k + 30 ∧ RdAt w' p a n cap bs k' ∧ Mv p w w' := by
  have HR : Hid (RdAt w p a n cap bs k) := hr
  have hp := hr.lt
  clear hr
  go_enter Try.func36, Try.ntmps36
  go_wp2_with fail
  refine (pick_any p a n cap bs k 4 _ (by omega) (by decide) HR.out).mono ?_
  rintro e w1 ⟨v, rfl, v0, v1, dd, hw1⟩
  have v2 := v1 (by decide)
  have HR1 : Hid (RdAt w1 p a n cap bs (k + 1)) := by rw [hw1]; exact HR.out.step dd
  have HM1 : Hid (Mv p w w1) := by rw [hw1]; exact Mv.step _ _ _ _
  clear hw1 v1
  obtain ⟨d, rfl⟩ : ∃ d : Nat, v = d := ⟨v.toNat, by omega⟩
  have hd3 : d ≤ 3 := by omega
  have hex := exS_le hd3
  have hek := exK_le hd3
  go_wp2_with fail
  refine (l11Expr_any d hd3 p a n cap bs (k + 1) w1 (by omega) HR1.out).mono ?_
  rintro e w2 ⟨s, k2, rfl, hs2, hk2, hr2, hm2⟩
  have HR2 : Hid (RdAt w2 p a n cap bs k2) := hr2
  have HM2 : Hid (Mv p w w2) := HM1.out.trans hm2
  clear hr2 hm2
  go_wp2_with fail
  refine (ExprGet_any s w2 (by omega)).mono ?_
  rintro e w3 ⟨u, b, rfl, hno, hyes, hb3⟩
  have HR3 : Hid (RdAt w3 p a n cap bs k2) := HR2.out.below hb3
  have HM3 : Hid (Mv p w w3) := HM2.out.trans (Mv.of_below hb3)
  cases hg : exprM s with
  | some l =>
    obtain ⟨rfl, ho⟩ := hyes l hg
    have HO : Hid (OwnNd w.heap.size w3 u l) := ownsRow_mono ho HM2.out.size
    have HG : Hid (Good l) := ⟨s, hg⟩
    clear hno hyes hb3 hg ho
    go_wp2_with fail
    go_ret
    exact ⟨_, l, k2, rfl, HG.out, HO.out, by omega, HR3.out, HM3.out⟩
  | none =>
    obtain ⟨rfl, rfl⟩ := hno hg
    clear hno hyes hb3 hg
    go_wp2_with fail
    refine (of_new w3 p a n cap bs k2 [⟨#[120, 43, 49]⟩, ⟨#[99]⟩, ⟨#[45, 40, 120, 42, 50, 41]⟩, ⟨#[33, 40, 120, 60, 121, 41, 38, 99]⟩] 9 4 (by omega) HR3.out rfl (by decide) (by decide)).mono ?_
    rintro e w4 ⟨y, rfl, hy, hr4, hm4⟩
    have HY : Hid ((exprM y).isSome = true ∧ y.size ≤ 8) := by
      show _ ∧ _
      simp only [List.mem_cons, List.not_mem_nil, or_false] at hy
      rcases hy with rfl | rfl | rfl | rfl
      · exact ⟨some1, by decide⟩
      · exact ⟨some2, by decide⟩
      · exact ⟨some3, by decide⟩
      · exact ⟨some4, by decide⟩
    have HR4 : Hid (RdAt w4 p a n cap bs (k2 + 1)) := hr4
    have HM4 : Hid (Mv p w w4) := HM3.out.trans hm4
    clear hy hr4 hm4
    go_wp2_with fail
    refine (ExprGet_any y w4 (by have := HY.out.2; omega)).mono ?_
    rintro e w5 ⟨u, b, rfl, hno, hyes, hb5⟩
    have HR5 : Hid (RdAt w5 p a n cap bs (k2 + 1)) := HR4.out.below hb5
    have HM5 : Hid (Mv p w w5) := HM4.out.trans (Mv.of_below hb5)
    obtain ⟨l, hl⟩ := Option.isSome_iff_exists.1 HY.out.1
    obtain ⟨rfl, ho⟩ := hyes l hl
    have HO : Hid (OwnNd w.heap.size w5 u l) := ownsRow_mono ho HM4.out.size
    have HG : Hid (Good l) := ⟨y, hl⟩
    clear hno hyes hb5 hl ho
    go_wp2_with fail
    go_ret
    exact ⟨_, l, k2 + 1, rfl, HG.out, HO.out, by omega, HR5.out, HM5.out⟩
end Go.Proofs.Ytmdaiejflolpmaa
