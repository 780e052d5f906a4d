/- Drawn nodes that may be bent: l11AnyNodes. -/
import Derived.Test.YtbpfonmkbbnkcaaGreatDoorClean
import Derived.Test.YtbpfonmkbbnkcaaGreatDoorMarks
import Derived.Deep.AppendLies
namespace Go.Proofs.YtbpfonmkbbnkcaaGreatDoor
open Go Go.RowKit Go.PlainAid
set_option linter.unusedSimpArgs false
set_option linter.unusedVariables false

theorem OwnNd.mv {B p : Nat} {w w' : World} {v : Value} {l : List Nd} (h : OwnNd B w v l) (hp : p < B) (hm : Mv p w w') : OwnNd B w' v l :=
  own_of_block h (fun g hg => hm.block g (World.ownsRow.lt h g hg).2 (by have := (World.ownsRow.lt h g hg).1; omega))
theorem Mv.put {p : Nat} {w w' : World} (h : Mv p w w') {g : Nat} (hg : w.heap.size ≤ g) (j : Nat) (v : Value) : Mv p w (w'.setCell ⟨g, j, none⟩ v) := by
  have hb := (Below.refl w.heap.size w').setCell (p := ⟨g, j, none⟩) hg v
  exact ⟨hb.os.trans h.os, hb.tape.trans h.tape, hb.output.trans h.output, Nat.le_trans h.size hb.size, fun q h1 h2 => (hb.block q h1).trans (h.block q h1 h2)⟩
theorem RdAt.put {w : World} {p : Nat} {a : Option Addr} {n cap : Nat} {bs : List Int} {k : Nat} (h : RdAt w p a n cap bs k) {g : Nat} (hg : p < g) (j : Nat) (v : Value) : RdAt (w.setCell ⟨g, j, none⟩ v) p a n cap bs k :=
  h.old (fun q hq => ((Below.refl (p + 1) w).setCell (p := ⟨g, j, none⟩) (by show p + 1 ≤ g; omega) v).block q (by omega))
/-- what drawing nodes leaves -/
def AnyPost (p : Nat) (w : World) (a : Option Addr) (n cap : Nat) (bs : List Int) (k : Nat) (e : Ending) (w' : World) : Prop :=
  ∃ (b : Option Addr) (m c : Nat) (l : List Nd) (k' : Nat), e = .returned (.slice b m c) ∧ NdFit l ∧ m ≤ c ∧ IsNds w'.heap.size w' b m l ∧ (∀ q o, b = some ⟨q, o, none⟩ → w.heap.size ≤ q) ∧ k' ≤ k ∧ RdAt w' p a n cap bs k' ∧ Mv p w w'
theorem any_of {p : Nat} {w w' : World} {a : Option Addr} {n cap : Nat} {bs : List Int} {k k' : Nat} {v : Value} {l : List Nd} (ho : OwnNd w.heap.size w' v l) (hf : NdFit l) (hk : k' ≤ k) (hr : RdAt w' p a n cap bs k') (hm : Mv p w w') : AnyPost p w a n cap bs k (.returned v) w' := by
  obtain ⟨b, c, rfl, hi⟩ := ho.is
  obtain ⟨b', c', e, hc⟩ := ho.form
  cases e
  refine ⟨b, l.length, c, l, k', rfl, hf, hc, hi, fun q o e => ?_, hk, hr, hm⟩
  subst e
  exact (World.ownsRow.lt ho q rfl).1

set_option maxHeartbeats 1600000 in
set_option maxRecDepth 100000 in
theorem l11AnyNodes_any (p : Nat) (a : Option Addr) (n cap : Nat) (bs : List Int) (k : Nat) (w : World) (hk : k ≤ 900) (hr : RdAt w p a n cap bs k) :
    Calls Tryz.prog 43 #[.pointer (some ⟨p, 0, none⟩)] w fun e w' => AnyPost p w a n cap bs (k + 40) e w' := by
  have HN : Hid (Calls Tryz.prog 67 #[.pointer (some ⟨p, 0, none⟩)] w fun e w' => ∃ v l k', e = .returned v ∧ Good l ∧ OwnNd w.heap.size w' v l ∧ k' ≤ k + 30 ∧ RdAt w' p a n cap bs k' ∧ Mv p w w') := l11Nodes_any p a n cap bs k w (by omega) hr
  have hp := hr.lt
  clear hr
  go_enter Tryz.func43, Tryz.ntmps43
  go_wp2_with fail
  refine HN.out.mono ?_
  rintro e w1 ⟨v, l, k1, rfl, hg, ho1, hk1, hr1, hm1⟩
  obtain ⟨g1, g2, hfit⟩ := good_fit hg
  have HF : Hid (NdFit l) := hfit
  have HO1 : Hid (OwnNd w.heap.size w1 v l) := ho1
  obtain ⟨b, c, rfl, hcl⟩ := ho1.form
  obtain ⟨N, hN⟩ : ∃ N, l.length = N := ⟨_, rfl⟩
  have HNN : Hid (l.length = N) := hN
  have HR1 : Hid (RdAt w1 p a n cap bs k1) := hr1
  have HM1 : Hid (Mv p w w1) := hm1
  rw [hN] at g1 g2 hcl HO1 ⊢
  clear HN hg ho1 hr1 hm1 hN hfit
  go_wp2_with fail
  refine (pick_any p a n cap bs k1 N _ (by omega) (by omega) HR1.out).mono ?_
  rintro e w2 ⟨i, rfl, i0, i1, d2, hw2⟩
  have i2 := i1 (by omega)
  have HR2 : Hid (RdAt w2 p a n cap bs (k1 + 1)) := by rw [hw2]; exact HR1.out.step d2
  have HM2' : Hid (Mv p w1 w2) := by rw [hw2]; exact Mv.step _ _ _ _
  have HM2 : Hid (Mv p w w2) := HM1.out.trans HM2'.out
  clear hw2 i1
  obtain ⟨I, rfl⟩ : ∃ I : Nat, i = I := ⟨i.toNat, by omega⟩
  go_wp2_with fail
  refine (pick_any p a n cap bs (k1 + 1) 12 _ (by omega) (by decide) HR2.out).mono ?_
  rintro e w3 ⟨q, rfl, q0, q1, d3, hw3⟩
  have q2 := q1 (by decide)
  have HR3 : Hid (RdAt w3 p a n cap bs (k1 + 1 + 1)) := by rw [hw3]; exact HR2.out.step d3
  have HM3' : Hid (Mv p w1 w3) := by rw [hw3]; exact HM2'.out.trans (Mv.step _ _ _ _)
  have HM3 : Hid (Mv p w w3) := HM1.out.trans HM3'.out
  clear hw3 q1 HR1 HR2 HM2 HM2'
  have HO3 : Hid (OwnNd w.heap.size w3 (.slice b N c) l) := HO1.out.mv hp HM3'.out
  clear HO1 HM3'
  by_cases c0 : q = 0
  · subst c0
    go_wp2_with fail
    refine (pick_any p a n cap bs (k1 + 1 + 1) 15 _ (by omega) (by decide) HR3.out).mono ?_
    rintro e w4 ⟨y, rfl, y0, y1, d4, hw4⟩
    have HR4 : Hid (RdAt w4 p a n cap bs (k1 + 1 + 1 + 1)) := by rw [hw4]; exact HR3.out.step d4
    have HM4' : Hid (Mv p w3 w4) := by rw [hw4]; exact Mv.step _ _ _ _
    have HM4 : Hid (Mv p w w4) := HM3.out.trans HM4'.out
    have HO4 : Hid (OwnNd w.heap.size w4 (.slice b N c) l) := HO3.out.mv hp HM4'.out
    clear hw4 y1 HR3 HM3 HM4' HO3
    have hIl : I < l.length := by have := HNN.out; omega
    obtain ⟨g, c', hv, gB, gW, _, hfz, x0, x1, x2⟩ := own_at HO4.out hIl
    have hb : b = some ⟨g, 0, none⟩ := by cases hv; rfl
    subst hb
    have hS := (show w4.ownsRow w.heap.size 38 3 (.slice (some ⟨g, 0, none⟩) N c) N (ndCells l) by have := HO4.out; unfold OwnNd at this; rw [HNN.out] at this; exact this).stored (I * 3) (.int .i64 y)
    have HS : Hid (OwnNd w.heap.size (w4.setCell ⟨g, I * 3, none⟩ (.int .i64 y)) (.slice (some ⟨g, 0, none⟩) N c) (l.set I (y, l[I].2.1, l[I].2.2))) := by
      show OwnNd _ _ _ _
      unfold OwnNd
      rw [← nd_set0 l I y hIl, List.length_set, HNN.out]; exact hS.1
    have hlI := HF.out.2 l[I] (List.getElem_mem hIl)
    have HFS : Hid (NdFit (l.set I (y, l[I].2.1, l[I].2.2))) := HF.out.set I ⟨hlI.1, hlI.2.1, hlI.2.2⟩
    have hfI := hfz (I * 3)
    generalize l[I].1 = z0 at x0
    clear hv hS x1 x2 hlI hfz
    go_wp2_with fail
    go_ret
    exact any_of HS.out HFS.out (by omega) (HR4.out.put (by omega) _ _) (HM4.out.put gB _ _)
  by_cases c1 : q = 1
  · subst c1
    go_wp2_with fail
    refine (one_newI w3 p a n cap bs (k1 + 1 + 1) [-1, 0, 1, 1000000] 3 4 (by omega) HR3.out rfl (by decide) (by decide)).mono ?_
    rintro e w4 ⟨y, rfl, hy, hr4, hm4⟩
    have HY : Hid (-1 ≤ y ∧ y ≤ 1000000) := by
      show _ ∧ _
      simp only [List.mem_cons, List.not_mem_nil, or_false] at hy
      rcases hy with rfl | rfl | rfl | rfl <;> decide
    have HR4 : Hid (RdAt w4 p a n cap bs (k1 + 1 + 1 + 1)) := hr4
    have HM4 : Hid (Mv p w w4) := HM3.out.trans hm4
    have HO4 : Hid (OwnNd w.heap.size w4 (.slice b N c) l) := HO3.out.mv hp hm4
    clear hy hr4 hm4 HR3 HM3 HO3
    have hIl : I < l.length := by have := HNN.out; omega
    obtain ⟨g, c', hv, gB, gW, _, hfz, x0, x1, x2⟩ := own_at HO4.out hIl
    have hb : b = some ⟨g, 0, none⟩ := by cases hv; rfl
    subst hb
    have hS := (show w4.ownsRow w.heap.size 38 3 (.slice (some ⟨g, 0, none⟩) N c) N (ndCells l) by have := HO4.out; unfold OwnNd at this; rw [HNN.out] at this; exact this).stored (I * 3 + 1) (.int .i64 y)
    have HS : Hid (OwnNd w.heap.size (w4.setCell ⟨g, I * 3 + 1, none⟩ (.int .i64 y)) (.slice (some ⟨g, 0, none⟩) N c) (l.set I (l[I].1, y, l[I].2.2))) := by
      show OwnNd _ _ _ _
      unfold OwnNd
      rw [← nd_set1 l I y hIl, List.length_set, HNN.out]; exact hS.1
    have hlI := HF.out.2 l[I] (List.getElem_mem hIl)
    have HFS : Hid (NdFit (l.set I (l[I].1, y, l[I].2.2))) := HF.out.set I ⟨hlI.1, by have := HY.out; constructor <;> (simp only; omega), hlI.2.2⟩
    have hfI := hfz (I * 3 + 1)
    generalize l[I].2.1 = z0 at x1
    clear hv hS x0 x2 hlI hfz
    go_wp2_with fail
    go_ret
    exact any_of HS.out HFS.out (by omega) (HR4.out.put (by omega) _ _) (HM4.out.put gB _ _)
  by_cases c2 : q = 2
  · subst c2
    go_wp2_with fail
    refine (of_new w3 p a n cap bs (k1 + 1 + 1) [⟨#[]⟩, ⟨#[120]⟩, ⟨#[49, 120]⟩] 9 3 (by omega) HR3.out rfl (by decide) (by decide)).mono ?_
    rintro e w4 ⟨y, rfl, hy, hr4, hm4⟩
    have HY : Hid (y.size ≤ 60 ∧ NoZ y) := by
      show _ ∧ _
      simp only [List.mem_cons, List.not_mem_nil, or_false] at hy
      rcases hy with rfl | rfl | rfl <;> decide
    have HR4 : Hid (RdAt w4 p a n cap bs (k1 + 1 + 1 + 1)) := hr4
    have HM4 : Hid (Mv p w w4) := HM3.out.trans hm4
    have HO4 : Hid (OwnNd w.heap.size w4 (.slice b N c) l) := HO3.out.mv hp hm4
    clear hy hr4 hm4 HR3 HM3 HO3
    have hIl : I < l.length := by have := HNN.out; omega
    obtain ⟨g, c', hv, gB, gW, _, hfz, x0, x1, x2⟩ := own_at HO4.out hIl
    have hb : b = some ⟨g, 0, none⟩ := by cases hv; rfl
    subst hb
    have hS := (show w4.ownsRow w.heap.size 38 3 (.slice (some ⟨g, 0, none⟩) N c) N (ndCells l) by have := HO4.out; unfold OwnNd at this; rw [HNN.out] at this; exact this).stored (I * 3 + 1 + 1) (.string y)
    have HS : Hid (OwnNd w.heap.size (w4.setCell ⟨g, I * 3 + 1 + 1, none⟩ (.string y)) (.slice (some ⟨g, 0, none⟩) N c) (l.set I (l[I].1, l[I].2.1, y))) := by
      show OwnNd _ _ _ _
      unfold OwnNd
      rw [← nd_set2 l I y hIl, List.length_set, HNN.out]; exact hS.1
    have hlI := HF.out.2 l[I] (List.getElem_mem hIl)
    have HFS : Hid (NdFit (l.set I (l[I].1, l[I].2.1, y))) := HF.out.set I ⟨HY.out.1, hlI.2.1, HY.out.2⟩
    have hfI := hfz (I * 3 + 1 + 1)
    generalize l[I].2.2 = z0 at x2
    clear hv hS x0 x1 hlI hfz
    go_wp2_with fail
    go_ret
    exact any_of HS.out HFS.out (by omega) (HR4.out.put (by omega) _ _) (HM4.out.put gB _ _)
  by_cases c3 : q = 3
  · subst c3
    have hIl : 0 < l.length := by have := HNN.out; omega
    obtain ⟨g, c', hv, gB, gW, _, hfz, x0, x1, x2⟩ := own_at HO3.out hIl
    have hb : b = some ⟨g, 0, none⟩ := by cases hv; rfl
    subst hb
    have HI3 : Hid (IsNds w3.heap.size w3 (some ⟨g, 3, none⟩) (N - 1) (l.drop 1)) := by
      obtain ⟨a', cp', e', hi'⟩ := HO3.out.is
      cases e'
      refine ⟨by simp [HNN.out], ?_⟩
      rcases hi'.2 with h0 | ⟨b', off', e2, hlt, hcc⟩
      · have := HNN.out; omega
      · cases e2
        refine .inr ⟨g, 3, rfl, hlt, fun j hj => ?_⟩
        simp at hj
        have := hcc (j + 1) (by omega)
        rw [List.getElem_drop]
        rw [show 0 + (j + 1) * 3 = 3 + j * 3 from by omega] at this
        simpa [Nat.add_comm 1 j] using this
    clear hv hfz x0 x1 x2
    by_cases hc1 : c = 1
    · subst hc1
      go_wp2_with fail
      go_ret
      exact ⟨some ⟨g, 0, none⟩, 0, 0, [], k1 + 1 + 1, rfl, ⟨by simp, by simp⟩, Nat.le_refl _, ⟨rfl, .inl rfl⟩, (fun q o e => by cases e; exact gB), by omega, HR3.out, HM3.out⟩
    · go_wp2_with fail
      go_ret
      exact ⟨some ⟨g, 3, none⟩, N - 1, c - 1, l.drop 1, k1 + 1 + 1, rfl, HF.out.drop 1, by omega, HI3.out, (fun q o e => by cases e; exact gB), by omega, HR3.out, HM3.out⟩
  by_cases c4 : q = 4
  · subst c4
    obtain ⟨i0', hi, hz0, hz1, hz2⟩ := info_parts infoNode
    go_wp2_with fail
    refine (pick_any p a n cap bs (k1 + 1 + 1) 13 _ (by omega) (by decide) HR3.out).mono ?_
    rintro e w4 ⟨y, rfl, y0, y1, d4, hw4⟩
    have y2 := y1 (by decide)
    have HR4 : Hid (RdAt w4 p a n cap bs (k1 + 1 + 1 + 1)) := by rw [hw4]; exact HR3.out.step d4
    have HM4' : Hid (Mv p w3 w4) := by rw [hw4]; exact Mv.step _ _ _ _
    have HM4 : Hid (Mv p w w4) := HM3.out.trans HM4'.out
    have HO4 : Hid (w4.ownsRow w.heap.size 38 3 (.slice b N c) N (ndCells l)) := by
      have := HO3.out.mv hp HM4'.out
      unfold OwnNd at this
      rw [HNN.out] at this; exact this
    have hw1 : IntKind.i64.wrap (1 + y) = 1 + y := IntWalk.i64_in _ ⟨by omega, by omega⟩
    have hsz4 := HM4.out.size
    clear hw4 y1 HR3 HM3 HM4' HO3
    go_wp2_with (at_builtin; (refine wpList_append_lies _ rfl (.tmp 45) (.tmp 50) 23 rfl w.heap.size 38 i0' (.agg #[.int .i64 0, .int .i64 0, .string ByteArray.empty]) 3 32 Tryz.underlying23 hi hz0 hz1 hz2 rfl (by decide) _ N (ndCells l) rfl (by exact (HO4.out.alloc _)) ⟨w4.heap.size, 0, none⟩ 1 1 [.int .i64 (1 + y), .int .i64 0, .string noName] rfl rfl (by exact three_newN _ _ _ _ _ _ (by simp)) (by intro u hu; simp at hu; rcases hu with rfl | rfl | rfl <;> rfl) (by decide) ?e1 ?e2 ?e3 _ rfl ?_))
    case e1 => unfold maxLen; omega
    case e2 => omega
    case e3 => first | omega | (simp; omega)
    intro g cap' w5 hown' hgrow hat hlt
    have hgr : Gr (.slice b N c) w4 w5 (.slice (some ⟨g, 0, none⟩) (N + 1) cap') := Gr.alloc0 (Gr.of hgrow (by simpa using hat))
    have hbl : Below w.heap.size w4 w5 := hgr.below HM4.out.size (fun q hq => (World.ownsRow.lt HO4.out q hq).1)
    have HO5 : Hid (OwnNd w.heap.size w5 (.slice (some ⟨g, 0, none⟩) (N + 1) cap') (l ++ [(1 + y, 0, noName)])) := OwnNd.grow (by rw [HNN.out]; exact hown')
    have HFS : Hid (NdFit (l ++ [(1 + y, 0, noName)])) := HF.out.snoc (by have := HNN.out; omega) ⟨(by decide : noName.size ≤ 60), ⟨(by decide : (-9223372036854775808 : Int) ≤ 0), (by decide : (0 : Int) ≤ 9223372036854775807)⟩, noZ_none⟩
    have HR5 : Hid (RdAt w5 p a n cap bs (k1 + 1 + 1 + 1)) := HR4.out.old (fun q hq => hbl.block q (by omega))
    have HM5 : Hid (Mv p w w5) := ⟨hbl.os.trans HM4.out.os, hbl.tape.trans HM4.out.tape, hbl.output.trans HM4.out.output, Nat.le_trans HM4.out.size hbl.size, fun q h1 h2 => (hbl.block q h1).trans (HM4.out.block q h1 h2)⟩
    clear hown' hgrow hat hgr hbl
    go_wp2_with fail
    go_ret
    exact any_of HO5.out HFS.out (by omega) HR5.out HM5.out
  have e0 : (q == 0) = false := by simp [c0]
  have e1 : (q == 1) = false := by simp [c1]
  have e2 : (q == 2) = false := by simp [c2]
  have e3 : (q == 3) = false := by simp [c3]
  have e4 : (q == 4) = false := by simp [c4]
  go_wp2_with fail
  go_ret
  exact any_of HO3.out HF.out (by omega) HR3.out HM3.out
end Go.Proofs.YtbpfonmkbbnkcaaGreatDoor
