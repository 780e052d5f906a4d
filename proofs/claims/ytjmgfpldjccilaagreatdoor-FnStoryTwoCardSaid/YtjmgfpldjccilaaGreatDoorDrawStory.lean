/- Drawn stories: l31Story. -/
import Derived.Test.YtjmgfpldjccilaaGreatDoorRowsG
import Derived.Test.YtjmgfpldjccilaaGreatDoorDrawEv
import Derived.Test.YtjmgfpldjccilaaGreatDoorEvOkM
import Derived.Test.YtjmgfpldjccilaaGreatDoorStoryGetM
import Derived.Test.YtjmgfpldjccilaaGreatDoorOneAt
import Derived.Deep.AppendLies
namespace Go.Proofs.YtjmgfpldjccilaaGreatDoor
open Go Go.RowKit Go.PlainAid Go.Deep
set_option linter.unusedSimpArgs false
set_option linter.unusedVariables false

/-- one more at the end: its parts lie behind the row's bound -/
theorem OwnR.pushB {α : Type} {T : TypeId} {k : Nat} {P : Nat → Nat → World → List Value → α → Prop} (hP : Local P) {M B : Nat} {w w2 : World} {u : Value} {xs : List α} {cs : List (List Value)} {c : List Value} {x : α} {g cap Mi Bi : Nat} (h : OwnR T k P M B w u xs cs) (hg : w.grownBy w2 u.ownBlock)
    (hgb : u.ownBlock = some g ∨ (w.heap.size ≤ g ∧ Bi ≤ g)) (hMi : B ≤ Mi) (hMw : M ≤ B) (hBi : Bi ≤ w2.heap.size) (hx : P Mi Bi w2 c x) (hc : c.length = k)
    (hown : w2.ownsRow M T k (.slice (some ⟨g, 0, none⟩) (xs.length + 1) cap) (xs.length + 1) (cs.flatten ++ c)) : OwnR T k P M w2.heap.size w2 (.slice (some ⟨g, 0, none⟩) (xs.length + 1) cap) (xs ++ [x]) (cs ++ [c]) := by
  have hlen := h.len
  have hbd := h.bound
  refine ⟨by simp [hlen], by simpa using hown, fun q hq => (World.ownsRow.lt hown q hq).2, Nat.le_refl _, fun i hi => ?_⟩
  have hsz := hg.size
  by_cases hil : i < xs.length
  · have e1 : (cs ++ [c]).getD i [] = cs.getD i [] := by simp [List.getD_eq_getElem?_getD, List.getElem?_append_left (show i < cs.length by omega)]
    have e2 : (xs ++ [x])[i] = xs[i] := by rw [List.getElem_append_left hil]
    rw [e1, e2]
    obtain ⟨h1, M1, B1, h2, h3, h4, h5⟩ := h.each i hil
    refine ⟨h1, M1, B1, h2, by omega, hP _ _ _ _ _ _ (fun b k1 k2 => hg.block b (by omega) (fun e => ?_)) (by omega) (by omega) h4, fun q hq => ?_⟩
    · rcases h5 b e.symm with h | h <;> omega
    · have hq' : g = q := by simpa [Value.ownBlock] using hq
      subst hq'
      rcases hgb with e | e
      · exact h5 g e
      · exact .inr (by omega)
  · have hie : i = xs.length := by rw [List.length_append] at hi; simp at hi; omega
    subst hie
    have e1 : (cs ++ [c]).getD xs.length [] = c := by simp [List.getD_eq_getElem?_getD, ← hlen]
    have e2 : (xs ++ [x])[xs.length] = x := by simp
    rw [e1, e2]
    refine ⟨hc, Mi, Bi, by omega, hBi, hx, fun q hq => ?_⟩
    have hq' : g = q := by simpa [Value.ownBlock] using hq
    subst hq'
    rcases hgb with e | e
    · have := h.rowB g e; exact .inl (by omega)
    · exact .inr e.2
theorem OwnEv.mv {p M B : Nat} {w w' : World} {v : Value} {l : List Ev} {cs : List (List Value)} (h : OwnEv M B w v l cs) (hm : Mv p w w') (hp : p < M) : OwnEv M B w' v l cs :=
  h.stay1 PEv.loc (hm.stay hp h.bound) (Nat.le_trans h.bound hm.size)
theorem FreeR.mv {p M B : Nat} {w w' : World} {a : Option Addr} {l : List Int} (h : FreeR M B w a l) (hm : Mv p w w') (hp : p < M) (hB : B ≤ w.heap.size) : FreeR M B w' a l :=
  h.stays (hm.stay hp hB) (Nat.le_trans hB hm.size)

set_option maxHeartbeats 6400000 in
set_option maxRecDepth 100000 in
theorem l31Story_any (p : Nat) (a : Option Addr) (n cap : Nat) (bs : List Int) (k : Nat) (w : World) (hk : k ≤ 2000) (hr : RdAt w p a n cap bs k) :
    Calls Tryz.prog 34 #[.pointer (some ⟨p, 0, none⟩)] w fun e w' => ∃ ao co D cs k', e = .returned (.slice ao D.length co) ∧ D.length ≤ 30 ∧ (∀ x ∈ D, x.2.2.2.length ≤ 3) ∧ OwnEv w.heap.size w'.heap.size w' (.slice ao D.length co) D cs ∧ k' ≤ k + 400 ∧ RdAt w' p a n cap bs k' ∧ Mv p w w' := by
  have hp := hr.lt
  obtain ⟨i0, hi, hz0, hz1, hz2⟩ := info_parts infoEvS
  have hb0 : Below w.heap.size w (w.alloc (.cells #[] 26)) := (Below.refl _ _).alloc (Nat.le_refl _) _
  have HR0 := hidOf (hr.below hb0)
  have HM0 : Hid (Mv p w (w.alloc (.cells #[] 26))) := Mv.of_below hb0
  have HO0 := hidOf (own_made_ev w)
  clear hr hb0
  go_enter Tryz.func34, Tryz.ntmps34
  go_wp2_with fail
  refine (one_at [0, 1, 4, 9, 30] 3 5 _ _ p a n cap bs k _ (by omega) HR0.out rfl (by omega) (by omega) (by simp) rfl).mono ?_
  rintro e w1 ⟨y, rfl, hy, hr1, hm1⟩
  have hy4 : 0 ≤ y ∧ y ≤ 30 := by simp at hy; omega
  have HR1 := hidOf hr1
  have HM1 := hidOf (HM0.out.trans hm1)
  have HO1 : Hid (OwnEv w.heap.size w1.heap.size w1 (.slice (some ⟨w.heap.size, 0, none⟩) 0 0) [] []) := (HO0.out.mv hm1 hp).mono (Nat.le_refl _) hm1.size (Nat.le_refl _)
  clear hy hr1 hm1
  go_wp2_with fail
  go_loopw [3, 4] (fun u i wr => ∃ (m j : Nat) (D : List Ev) (cs : List (List Value)), m ≤ 30 ∧ D.length + m ≤ 30 ∧ j ≤ k + 1 + 11 * (30 - m) ∧ i = .int .i64 m ∧ Hid (OwnEv w.heap.size wr.heap.size wr u D cs) ∧ Hid (∀ x ∈ D, x.2.2.2.length ≤ 3) ∧ Hid (RdAt wr p a n cap bs j) ∧ Hid (Mv p w wr)) (fun _ i _ => (intOf i).toNat)
  case atStart => exact ⟨y.toNat, k + 1, [], [], by omega, by simp; omega, by omega, by rw [show ((y.toNat : Nat) : Int) = y by omega], HO1.out, fun x hx => by simp at hx, HR1.out, HM1.out⟩
  case round =>
    obtain ⟨m0, j, D, cs, hm, hl, hj, rfl, HO, HD, HRJ, HMJ⟩ := hrel
    obtain ⟨ao, co, hu⟩ := HO.out.form
    subst hu
    by_cases hm0 : m0 = 0
    · subst hm0
      go_wp2_with fail
      go_ret
      exact ⟨ao, co, D, cs, j, rfl, by omega, HD.out, HO.out, by omega, HRJ.out, HMJ.out⟩
    obtain ⟨m, rfl⟩ : ∃ m, m0 = m + 1 := ⟨m0 - 1, by omega⟩
    have hlp : (0 : Int) < ((m + 1 : Nat) : Int) := by omega
    have pw : IntKind.i64.wrap (((m + 1 : Nat) : Int) - 1) = (m : Int) := by rw [IntWalk.i64_in _ ⟨by omega, by omega⟩]; omega
    obtain ⟨Z, hZ⟩ : ∃ Z : Int, ((m + 1 : Nat) : Int) = Z := ⟨_, rfl⟩
    rw [hZ] at hlp pw ⊢
    have hws := HMJ.out.size
    have HE := hidOf (l31Event_any p a n cap bs j wr (by omega) HRJ.out)
    have HZ := hidOf hZ
    clear hZ hm0
    go_wp2_with fail
    refine HE.out.mono ?_
    rintro e w2 ⟨K, T, M, a2, n2, c2, l, k2, rfl, hf, hcc, hnn, hr2, hk2, hm2⟩
    have hln : l.length = n2 := hf.1.1
    subst hln
    have hs2 := hm2.size
    obtain ⟨W3, hW3⟩ : ∃ W3, w2.alloc (.cells #[.int .i64 K, .int .i64 T, .int .i64 M, .slice a2 l.length c2] 26) = W3 := ⟨_, rfl⟩
    have hb3 : Below w2.heap.size w2 W3 := by rw [← hW3]; exact (Below.refl _ _).alloc (Nat.le_refl _) _
    have hs3 : W3.heap.size = w2.heap.size + 1 := by rw [← hW3]; simp
    have BQ3 : Hid (BoxAt w2.heap.size [.int .i64 K, .int .i64 T, .int .i64 M, .slice a2 l.length c2] W3) := by show BoxAt _ _ _; rw [← hW3]; exact boxAt_new w2 _ _
    have HW3 := hidOf hW3
    have HOK := hidOf (l26Ok_any W3.heap.size K T M a2 l.length c2 l W3 (Nat.le_refl _) (by omega) (hf.1.up hb3))
    have HR3 := hidOf (hr2.below hb3)
    have hm23 : Mv p wr W3 := hm2.trans (Mv.of_below hb3)
    have HM3 := hidOf (HMJ.out.trans hm23)
    have HOA3 : Hid (OwnEv w.heap.size wr.heap.size W3 (.slice ao D.length co) D cs) := HO.out.mv hm23 hp
    have HFA3 : Hid (FreeR wr.heap.size w2.heap.size W3 a2 l) := (FreeR.of hf).stays (Stay.of hb3) hb3.size
    obtain ⟨ok, hok⟩ : ∃ ok, okE (K, T, M, l) = ok := ⟨_, rfl⟩
    rw [hok] at HOK
    clear hW3 hb3 hok hf hr2 hm2 hm23
    have hp3 : p < W3.heap.size := by have := HM3.out.size; omega
    cases ok with
    | true =>
      go_wp2_with fail
      rw [HW3.out]
      refine HOK.out.mono ?_
      rintro e w4 ⟨rfl, hb4⟩
      have hs4 := hb4.size
      have BQ4 := BQ3.out.below hb4
      have HR4 := hidOf (HR3.out.below hb4)
      have HM4 := hidOf (HM3.out.trans (Mv.of_below hb4))
      have HOA : Hid (OwnEv w.heap.size wr.heap.size w4 (.slice ao D.length co) D cs) := HOA3.out.mv (Mv.of_below (p := p) hb4) hp
      have HFA : Hid (FreeR wr.heap.size w2.heap.size w4 a2 l) := HFA3.out.stays ((Stay.of hb4).sub (Nat.le_refl _) (by omega)) (by omega)
      have x0 : w4.cell? ⟨w2.heap.size, 0, none⟩ = some _ := (BQ4.2 0 _ rfl).1
      have x1 : w4.cell? ⟨w2.heap.size, 1, none⟩ = some _ := (BQ4.2 1 _ rfl).1
      have x2 : w4.cell? ⟨w2.heap.size, 2, none⟩ = some _ := (BQ4.2 2 _ rfl).1
      have x3 : w4.cell? ⟨w2.heap.size, 3, none⟩ = some _ := (BQ4.2 3 _ rfl).1
      have hx := BQ4.1
      clear hb4 BQ4
      have HROW : Hid ((w4.alloc (.cells #[.int .i64 K, .int .i64 T, .int .i64 M, .slice a2 l.length c2] 26)).ownsRow w.heap.size 26 4 (.slice ao D.length co) D.length cs.flatten) := own_of_block HOA.out.row (fun q hq => (((Below.refl w4.heap.size w4).alloc (Nat.le_refl _) _).block q (World.ownsRow.lt HOA.out.row q hq).2))
      go_wp2_with (at_builtin; (refine wpList_append_lies _ rfl (.tmp 23) (.tmp 25) 32 rfl w.heap.size 26 i0 (.agg #[.int .i64 0, .int .i64 0, .int .i64 0, .slice none 0 0]) 4 48 Tryz.underlying32 hi hz0 hz1 hz2 rfl (by decide) _ D.length cs.flatten rfl HROW.out _ 1 1 [.int .i64 K, .int .i64 T, .int .i64 M, .slice a2 l.length c2] rfl rfl ?hnews (by intro u hu; simp at hu; rcases hu with rfl | rfl | rfl | rfl <;> rfl) (by decide) (by unfold maxLen; omega) (by omega) (by simp; omega) _ rfl ?_))
      case hnews =>
        intro j u hu
        match j, hu with
        | 0, hu => cases hu; simp [Addr.add, go_sem]
        | 1, hu => cases hu; simp [Addr.add, go_sem]
        | 2, hu => cases hu; simp [Addr.add, go_sem]
        | 3, hu => cases hu; simp [Addr.add, go_sem]
      intro g gc w6 j1 j2 j3 _
      have hal : Below w4.heap.size w4 (w4.alloc (.cells #[.int .i64 K, .int .i64 T, .int .i64 M, .slice a2 l.length c2] 26)) := (Below.refl _ _).alloc (Nat.le_refl _) _
      have hg : w4.grownBy w6 (Value.slice ao D.length co).ownBlock := ⟨j2.os.trans hal.os, j2.tape.trans hal.tape, j2.output.trans hal.output, Nat.le_trans hal.size j2.size, fun q hq hne => (j2.block q (Nat.lt_of_lt_of_le hq hal.size) hne).trans (hal.block q hq)⟩
      have hs6 := hg.size
      have hs7 := j2.size
      simp at hs7
      have hrb : ∀ q, (Value.slice ao D.length co).ownBlock = some q → w.heap.size ≤ q ∧ q < wr.heap.size := fun q hq => ⟨(World.ownsRow.lt HO.out.row q hq).1, HO.out.rowB q hq⟩
      have HFR6 : FreeR wr.heap.size w2.heap.size w6 a2 l := HFA.out.stays (fun q q1 q2 => hg.block q (by omega) (fun e => by have := hrb q e.symm; omega)) (by omega)
      have hpush := OwnR.pushB (c := [.int .i64 K, .int .i64 T, .int .i64 M, .slice a2 l.length c2]) (x := ((K, T, M, l) : Ev)) PEv.loc HOA.out hg (g := g) (cap := gc) (Mi := wr.heap.size) (Bi := w2.heap.size) (j3.imp id (fun e => by first | (constructor <;> omega) | (simp at e; constructor <;> omega))) (Nat.le_refl _) (by omega) (by omega) ⟨a2, c2, rfl, hcc, (show l.length ≤ maxLen by unfold maxLen; omega), HFR6⟩ rfl j1
      obtain ⟨cs', hcs'⟩ : ∃ cs', cs ++ [[.int .i64 K, .int .i64 T, .int .i64 M, .slice a2 l.length c2]] = cs' := ⟨_, rfl⟩
      rw [hcs'] at hpush
      have HPU := hidOf hpush
      have hne : ∀ q, q < w.heap.size → some q ≠ (Value.slice ao D.length co).ownBlock := fun q hq e => by have := hrb q e.symm; omega
      have HR6 : Hid (RdAt w6 p a n cap bs (k2)) := HR4.out.old (fun q hq => hg.block q (by have := HM4.out.size; omega) (hne q (by omega)))
      have HM6 : Hid (Mv p w w6) := ⟨hg.os.trans HM4.out.os, hg.tape.trans HM4.out.tape, hg.output.trans HM4.out.output, Nat.le_trans HM4.out.size hg.size, fun q q1 q2 => (hg.block q (by have := HM4.out.size; omega) (hne q q1)).trans (HM4.out.block q q1 q2)⟩
      clear hcs' j1 j2 j3 hg hs6 hs7 HFR6 hpush hal hrb hne
      go_wp2_with fail
      go_roundw
      case rel => exact ⟨m, k2, D ++ [(K, T, M, l)], cs', by omega, by simp; omega, by omega, by go_num, HPU.out, by
          show ∀ x ∈ D ++ [((K, T, M, l) : Ev)], x.2.2.2.length ≤ 3
          intro z hz
          rcases List.mem_append.1 hz with hz | hz
          · exact HD.out z hz
          · rw [List.mem_singleton.1 hz]; exact hnn, HR6.out, HM6.out⟩
      case measure => simp [intOf]; have := HZ.out; omega
    | false =>
      go_wp2_with fail
      rw [HW3.out]
      refine HOK.out.mono ?_
      rintro e w4 ⟨rfl, hb4⟩
      have hs4 := hb4.size
      have BQ4 := hidOf (BQ3.out.below hb4)
      have HR4 := hidOf (HR3.out.below hb4)
      have HM4 := hidOf (HM3.out.trans (Mv.of_below hb4))
      have HOA4 : Hid (OwnEv w.heap.size wr.heap.size w4 (.slice ao D.length co) D cs) := HOA3.out.mv (Mv.of_below (p := p) hb4) hp
      have HFA4 : Hid (FreeR wr.heap.size w2.heap.size w4 a2 l) := HFA3.out.stays ((Stay.of hb4).sub (Nat.le_refl _) (by omega)) (by omega)
      clear hb4
      go_wp2_with fail
      refine (pick_mv p a n cap bs k2 12 w4 (by omega) (by omega) HR4.out).mono ?_
      rintro e w5 ⟨z, rfl, _, _, hr5, hm5⟩
      have hs5 := hm5.size
      have HR5 := hidOf hr5
      have HM5 := hidOf (HM4.out.trans hm5)
      have HOA : Hid (OwnEv w.heap.size wr.heap.size w5 (.slice ao D.length co) D cs) := HOA4.out.mv hm5 hp
      have HFA : Hid (FreeR wr.heap.size w2.heap.size w5 a2 l) := HFA4.out.mv hm5 (by omega) (by omega)
      have BQ5 := BQ4.out.mv hm5 (by omega)
      by_cases z0 : z = 0
      · subst z0
        have x0 : w5.cell? ⟨w2.heap.size, 0, none⟩ = some _ := (BQ5.2 0 _ rfl).1
        have x1 : w5.cell? ⟨w2.heap.size, 1, none⟩ = some _ := (BQ5.2 1 _ rfl).1
        have x2 : w5.cell? ⟨w2.heap.size, 2, none⟩ = some _ := (BQ5.2 2 _ rfl).1
        have x3 : w5.cell? ⟨w2.heap.size, 3, none⟩ = some _ := (BQ5.2 3 _ rfl).1
        have hx := BQ5.1
        clear hr5 hm5 BQ5
        have HROW : Hid ((w5.alloc (.cells #[.int .i64 K, .int .i64 T, .int .i64 M, .slice a2 l.length c2] 26)).ownsRow w.heap.size 26 4 (.slice ao D.length co) D.length cs.flatten) := own_of_block HOA.out.row (fun q hq => (((Below.refl w5.heap.size w5).alloc (Nat.le_refl _) _).block q (World.ownsRow.lt HOA.out.row q hq).2))
        go_wp2_with (at_builtin; (refine wpList_append_lies _ rfl (.tmp 23) (.tmp 25) 32 rfl w.heap.size 26 i0 (.agg #[.int .i64 0, .int .i64 0, .int .i64 0, .slice none 0 0]) 4 48 Tryz.underlying32 hi hz0 hz1 hz2 rfl (by decide) _ D.length cs.flatten rfl HROW.out _ 1 1 [.int .i64 K, .int .i64 T, .int .i64 M, .slice a2 l.length c2] rfl rfl ?hnews (by intro u hu; simp at hu; rcases hu with rfl | rfl | rfl | rfl <;> rfl) (by decide) (by unfold maxLen; omega) (by omega) (by simp; omega) _ rfl ?_))
        case hnews =>
          intro j u hu
          match j, hu with
          | 0, hu => cases hu; simp [Addr.add, go_sem]
          | 1, hu => cases hu; simp [Addr.add, go_sem]
          | 2, hu => cases hu; simp [Addr.add, go_sem]
          | 3, hu => cases hu; simp [Addr.add, go_sem]
        intro g gc w6 j1 j2 j3 _
        have hal : Below w5.heap.size w5 (w5.alloc (.cells #[.int .i64 K, .int .i64 T, .int .i64 M, .slice a2 l.length c2] 26)) := (Below.refl _ _).alloc (Nat.le_refl _) _
        have hg : w5.grownBy w6 (Value.slice ao D.length co).ownBlock := ⟨j2.os.trans hal.os, j2.tape.trans hal.tape, j2.output.trans hal.output, Nat.le_trans hal.size j2.size, fun q hq hne => (j2.block q (Nat.lt_of_lt_of_le hq hal.size) hne).trans (hal.block q hq)⟩
        have hs6 := hg.size
        have hs7 := j2.size
        simp at hs7
        have hrb : ∀ q, (Value.slice ao D.length co).ownBlock = some q → w.heap.size ≤ q ∧ q < wr.heap.size := fun q hq => ⟨(World.ownsRow.lt HO.out.row q hq).1, HO.out.rowB q hq⟩
        have HFR6 : FreeR wr.heap.size w2.heap.size w6 a2 l := HFA.out.stays (fun q q1 q2 => hg.block q (by omega) (fun e => by have := hrb q e.symm; omega)) (by omega)
        have hpush := OwnR.pushB (c := [.int .i64 K, .int .i64 T, .int .i64 M, .slice a2 l.length c2]) (x := ((K, T, M, l) : Ev)) PEv.loc HOA.out hg (g := g) (cap := gc) (Mi := wr.heap.size) (Bi := w2.heap.size) (j3.imp id (fun e => by first | (constructor <;> omega) | (simp at e; constructor <;> omega))) (Nat.le_refl _) (by omega) (by omega) ⟨a2, c2, rfl, hcc, (show l.length ≤ maxLen by unfold maxLen; omega), HFR6⟩ rfl j1
        obtain ⟨cs', hcs'⟩ : ∃ cs', cs ++ [[.int .i64 K, .int .i64 T, .int .i64 M, .slice a2 l.length c2]] = cs' := ⟨_, rfl⟩
        rw [hcs'] at hpush
        have HPU := hidOf hpush
        have hne : ∀ q, q < w.heap.size → some q ≠ (Value.slice ao D.length co).ownBlock := fun q hq e => by have := hrb q e.symm; omega
        have HR6 : Hid (RdAt w6 p a n cap bs (k2 + 1)) := HR5.out.old (fun q hq => hg.block q (by have := HM5.out.size; omega) (hne q (by omega)))
        have HM6 : Hid (Mv p w w6) := ⟨hg.os.trans HM5.out.os, hg.tape.trans HM5.out.tape, hg.output.trans HM5.out.output, Nat.le_trans HM5.out.size hg.size, fun q q1 q2 => (hg.block q (by have := HM5.out.size; omega) (hne q q1)).trans (HM5.out.block q q1 q2)⟩
        clear hcs' j1 j2 j3 hg hs6 hs7 HFR6 hpush hal hrb hne
        go_wp2_with fail
        go_roundw
        case rel => exact ⟨m, k2 + 1, D ++ [(K, T, M, l)], cs', by omega, by simp; omega, by omega, by go_num, HPU.out, by
            show ∀ x ∈ D ++ [((K, T, M, l) : Ev)], x.2.2.2.length ≤ 3
            intro z hz
            rcases List.mem_append.1 hz with hz | hz
            · exact HD.out z hz
            · rw [List.mem_singleton.1 hz]; exact hnn, HR6.out, HM6.out⟩
        case measure => simp [intOf]; have := HZ.out; omega
      · have z0b : (z == 0) = false := by simp [z0]
        have HOB : Hid (OwnEv w.heap.size w5.heap.size w5 (.slice ao D.length co) D cs) := HOA.out.mono (Nat.le_refl _) (by omega) (Nat.le_refl _)
        clear hr5 hm5 BQ5 z0
        go_wp2_with fail
        go_roundw
        case rel => exact ⟨m, k2 + 1, D, cs, by omega, by omega, by omega, by go_num, HOB.out, HD.out, HR5.out, HM5.out⟩
        case measure => simp [intOf]; have := HZ.out; omega
end Go.Proofs.YtjmgfpldjccilaaGreatDoor
