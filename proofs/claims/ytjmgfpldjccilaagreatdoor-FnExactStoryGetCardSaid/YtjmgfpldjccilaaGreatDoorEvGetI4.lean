/- EventGet of the program. -/
import Derived.Test.YtjmgfpldjccilaaGreatDoorEvGetI3
import Derived.Test.YtjmgfpldjccilaaGreatDoorEvPutI2
import Derived.Test.YtjmgfpldjccilaaGreatDoorEvGot
namespace Go.Proofs.YtjmgfpldjccilaaGreatDoor
open Go Go.RowKit Go.PlainAid
set_option linter.unusedSimpArgs false
set_option linter.unusedVariables false

theorem gotE_of {s : ByteArray} {e : Ev} (hr : ∀ f : Ev, OkE f → s = bt8 (evT f) → e = f) :
    (s ≠ ⟨#[]⟩ → bt8 (putE e) = s → GotE s e true) ∧ (s = ⟨#[]⟩ ∨ bt8 (putE e) ≠ s → GotE s (0, 0, 0, []) false) := by
  refine ⟨fun h0 h1 => ?_, fun h => .inr ⟨rfl, rfl, fun f hf hs => ?_⟩⟩
  · unfold putE at h1
    cases hk : okE e with
    | true => rw [hk, if_pos rfl] at h1; exact .inl ⟨rfl, okE_iff.1 hk, h1.symm⟩
    | false => rw [hk, if_neg (by simp)] at h1; exact absurd h1.symm h0
  · rcases h with h | h
    · rw [h] at hs
      exact evT_ne f (bt8_inj (a := []) hs).symm
    · have e1 := hr f hf hs
      subst e1
      refine h ?_
      unfold putE
      rw [if_pos (okE_iff.2 hf)]
      exact hs.symm
set_option maxHeartbeats 3200000 in
set_option maxRecDepth 100000 in
theorem implEventGet_any (s : ByteArray) (w : World) (hT : TbG w) (hs : s.size ≤ 1048576) :
    Calls Tryz.prog 9 #[.string s] w (EvGot s w.heap.size w) := by
  obtain ⟨W0, hW0⟩ : ∃ W0, w.alloc (.cells #[.int .i64 0, .int .i64 0, .int .i64 0, .slice none 0 0] 26) = W0 := ⟨_, rfl⟩
  have hb0 : Below w.heap.size w W0 := by rw [← hW0]; exact (Below.refl _ _).alloc (Nat.le_refl _) _
  have hs0 : W0.heap.size = w.heap.size + 1 := by rw [← hW0]; simp
  have BX0 := hidOf (show BoxAt w.heap.size [.int .i64 0, .int .i64 0, .int .i64 0, .slice none 0 0] W0 by rw [← hW0]; exact boxAt_new w _ _)
  have HW0 := hidOf hW0
  have HTW : Hid (∀ W, Below w.heap.size w W → TbG W) := fun W hb => hT.up hb
  have HRD := hidOf (readEvent_any s W0 (hT.up hb0) hs)
  have HB0 := hidOf hb0
  clear hW0 hT hb0
  go_enter Tryz.func9, Tryz.ntmps9
  go_wp2_with fail
  rw [HW0.out]
  refine HRD.out.mono ?_
  rintro e w1 ⟨k, t, m, a, n, c, l, rfl, hfr, hc, hn, hrd, hb1⟩
  have hlen := hfr.1.1
  have HFR := hidOf (hfr.low (show w.heap.size + 1 ≤ _ by omega))
  have HGT := hidOf (gotE_of hrd)
  have HB1 := hidOf (HB0.out.trans (hb1.mono HB0.out.size))
  have BX1 := hidOf (BX0.out.below hb1)
  have hs1 : w.heap.size + 1 ≤ w1.heap.size := by have := hb1.size; omega
  clear hb1 hfr hrd HRD
  obtain ⟨W2, hW2⟩ : ∃ W2, w1.alloc (.cells #[.int .i64 k, .int .i64 t, .int .i64 m, .slice a n c] 26) = W2 := ⟨_, rfl⟩
  have hb2 : Below w1.heap.size w1 W2 := by rw [← hW2]; exact (Below.refl _ _).alloc (Nat.le_refl _) _
  have hs2 : W2.heap.size = w1.heap.size + 1 := by rw [← hW2]; simp
  have BQ2 := hidOf (show BoxAt w1.heap.size [.int .i64 k, .int .i64 t, .int .i64 m, .slice a n c] W2 by rw [← hW2]; exact boxAt_new w1 _ _)
  have HW2 := hidOf hW2
  have HB2 := hidOf (HB1.out.trans (hb2.mono HB1.out.size))
  have BX2 := hidOf (BX1.out.below hb2)
  have HFR2 := hidOf (HFR.out.below hb2)
  have HPUT := hidOf (implEventPut_any W2.heap.size k t m a n c l W2 (HTW.out W2 HB2.out).put (Nat.le_refl _) hn HFR2.out.1)
  have r0 : w1.cell? ⟨w.heap.size, 0, none⟩ = some (.int .i64 0) := (BX1.out.2 0 _ rfl).1
  have r1 : w1.cell? ⟨w.heap.size, 1, none⟩ = some (.int .i64 0) := (BX1.out.2 1 _ rfl).1
  have r2 : w1.cell? ⟨w.heap.size, 2, none⟩ = some (.int .i64 0) := (BX1.out.2 2 _ rfl).1
  have r3 : w1.cell? ⟨w.heap.size, 3, none⟩ = some (.slice none 0 0) := (BX1.out.2 3 _ rfl).1
  have f0 := (BX1.out.2 0 _ rfl).2
  have f1 := (BX1.out.2 1 _ rfl).2
  have f2 := (BX1.out.2 2 _ rfl).2
  have f3 := (BX1.out.2 3 _ rfl).2
  have s3 := BX1.out.1
  clear hW2 hb2
  -- ENDS
  by_cases h0 : s = ⟨#[]⟩
  · have HG := hidOf (HGT.out.2 (.inl h0))
    have h0b : s.toList.isEmpty = true := by rw [h0, Lib.toList_data]; rfl
    clear h0
    have e0 := (BX1.out.2 0 _ rfl).1
    have e1 := ((BX1.out.set 0 (.int .i64 0)).2 1 _ rfl).1
    have e2 := (((BX1.out.set 0 (.int .i64 0)).set 1 (.int .i64 0)).2 2 _ rfl).1
    have e3 := ((((BX1.out.set 0 (.int .i64 0)).set 1 (.int .i64 0)).set 2 (.int .i64 0)).2 3 _ rfl).1
    have k0 := (((((BX1.out.set 0 (.int .i64 0)).set 1 (.int .i64 0)).set 2 (.int .i64 0)).set 3 (.slice none 0 0)).2 0 _ rfl).1
    have k1 := (((((BX1.out.set 0 (.int .i64 0)).set 1 (.int .i64 0)).set 2 (.int .i64 0)).set 3 (.slice none 0 0)).2 1 _ rfl).1
    have k2 := (((((BX1.out.set 0 (.int .i64 0)).set 1 (.int .i64 0)).set 2 (.int .i64 0)).set 3 (.slice none 0 0)).2 2 _ rfl).1
    have k3 := (((((BX1.out.set 0 (.int .i64 0)).set 1 (.int .i64 0)).set 2 (.int .i64 0)).set 3 (.slice none 0 0)).2 3 _ rfl).1
    go_wp2_with fail
    refine bodyPost_ret (by simp [results, Tryz.results9, go_sem, k0, k1, k2, k3, s3]; try rfl) rfl ?_
    exact ⟨0, 0, 0, none, 0, 0, [], false, rfl, ⟨⟨rfl, .inl rfl⟩, .inl rfl⟩, Nat.le_refl _, HG.out, (((((HB1.out.setCell (by simp) _).setCell (by simp) _).setCell (by simp) _).setCell (by simp) _).alloc (by simp [World.setCell]; omega) _)⟩
  · have hxb : s.toList.isEmpty = false := by
      rw [Lib.toList_data]
      cases h : s.data.toList with
      | nil => exact absurd (by rw [← bt8_of s, h]; rfl) h0
      | cons _ _ => rfl
    have H0 := hidOf h0
    clear h0 r0 r1 r2 r3 f0 f1 f2 f3
    by_cases hp : bt8 (putE (k, t, m, l)) = s
    · have HG := hidOf (HGT.out.1 H0.out hp)
      rw [hp] at HPUT
      clear hp
      go_wp2_with fail
      rw [HW2.out]
      refine HPUT.out.mono ?_
      rintro e w3 ⟨rfl, hb3⟩
      have HB3 := hidOf (HB2.out.trans (hb3.mono HB2.out.size))
      have BX3 := hidOf (BX2.out.below hb3)
      have BQ3 := hidOf (BQ2.out.below hb3)
      have HF3 := hidOf (HFR2.out.below hb3)
      clear hb3
      have q0 : w3.cell? ⟨w1.heap.size, 0, none⟩ = some (.int .i64 k) := (BQ3.out.2 0 _ rfl).1
      have q1 : w3.cell? ⟨w1.heap.size, 1, none⟩ = some (.int .i64 t) := (BQ3.out.2 1 _ rfl).1
      have q2 : w3.cell? ⟨w1.heap.size, 2, none⟩ = some (.int .i64 m) := (BQ3.out.2 2 _ rfl).1
      have q3 : w3.cell? ⟨w1.heap.size, 3, none⟩ = some (.slice a n c) := (BQ3.out.2 3 _ rfl).1
      have r0 : w3.cell? ⟨w.heap.size, 0, none⟩ = some (.int .i64 0) := (BX3.out.2 0 _ rfl).1
      have r1 : w3.cell? ⟨w.heap.size, 1, none⟩ = some (.int .i64 0) := (BX3.out.2 1 _ rfl).1
      have r2 : w3.cell? ⟨w.heap.size, 2, none⟩ = some (.int .i64 0) := (BX3.out.2 2 _ rfl).1
      have r3 : w3.cell? ⟨w.heap.size, 3, none⟩ = some (.slice none 0 0) := (BX3.out.2 3 _ rfl).1
      have f0 := (BX3.out.2 0 _ rfl).2
      have f1 := (BX3.out.2 1 _ rfl).2
      have f2 := (BX3.out.2 2 _ rfl).2
      have f3 := (BX3.out.2 3 _ rfl).2
      have s6 := BX3.out.1
      have s7 := BQ3.out.1
      have e0 := (BX3.out.2 0 _ rfl).1
      have e1 := ((BX3.out.set 0 (.int .i64 k)).2 1 _ rfl).1
      have e2 := (((BX3.out.set 0 (.int .i64 k)).set 1 (.int .i64 t)).2 2 _ rfl).1
      have e3 := ((((BX3.out.set 0 (.int .i64 k)).set 1 (.int .i64 t)).set 2 (.int .i64 m)).2 3 _ rfl).1
      have k0 := (((((BX3.out.set 0 (.int .i64 k)).set 1 (.int .i64 t)).set 2 (.int .i64 m)).set 3 (.slice a n c)).2 0 _ rfl).1
      have k1 := (((((BX3.out.set 0 (.int .i64 k)).set 1 (.int .i64 t)).set 2 (.int .i64 m)).set 3 (.slice a n c)).2 1 _ rfl).1
      have k2 := (((((BX3.out.set 0 (.int .i64 k)).set 1 (.int .i64 t)).set 2 (.int .i64 m)).set 3 (.slice a n c)).2 2 _ rfl).1
      have k3 := (((((BX3.out.set 0 (.int .i64 k)).set 1 (.int .i64 t)).set 2 (.int .i64 m)).set 3 (.slice a n c)).2 3 _ rfl).1
      have HM : Hid (MvR w.heap.size (w.heap.size + 1) w3 ((((w3.setCell ⟨w.heap.size, 0, none⟩ (.int .i64 k)).setCell ⟨w.heap.size, 1, none⟩ (.int .i64 t)).setCell ⟨w.heap.size, 2, none⟩ (.int .i64 m)).setCell ⟨w.heap.size, 3, none⟩ (.slice a n c))) :=
        ((((((Mv.refl w.heap.size _).cell 0 _).cell 1 _).cell 2 _).cell 3 _).range (Nat.le_refl _) (by omega))
      go_wp2_with fail
      refine bodyPost_ret (by simp [results, Tryz.results9, go_sem, k0, k1, k2, k3]; try rfl) rfl ?_
      exact ⟨k, t, m, a, n, c, l, true, rfl, (HF3.out.mvR HM.out (Nat.le_refl _)).low (by omega), hc, HG.out, ((((HB3.out.setCell (by simp) _).setCell (by simp) _).setCell (by simp) _).setCell (by simp) _)⟩
    · have HG := hidOf (HGT.out.2 (.inr hp))
      have hpb := txt_ne hp
      obtain ⟨P, hP⟩ : ∃ P, bt8 (putE (k, t, m, l)) = P := ⟨_, rfl⟩
      rw [hP] at HPUT hpb
      clear hp hP
      go_wp2_with fail
      rw [HW2.out]
      refine HPUT.out.mono ?_
      rintro e w3 ⟨rfl, hb3⟩
      have HB3 := hidOf (HB2.out.trans (hb3.mono HB2.out.size))
      have BX3 := hidOf (BX2.out.below hb3)
      clear hb3
      have r0 : w3.cell? ⟨w.heap.size, 0, none⟩ = some (.int .i64 0) := (BX3.out.2 0 _ rfl).1
      have r1 : w3.cell? ⟨w.heap.size, 1, none⟩ = some (.int .i64 0) := (BX3.out.2 1 _ rfl).1
      have r2 : w3.cell? ⟨w.heap.size, 2, none⟩ = some (.int .i64 0) := (BX3.out.2 2 _ rfl).1
      have r3 : w3.cell? ⟨w.heap.size, 3, none⟩ = some (.slice none 0 0) := (BX3.out.2 3 _ rfl).1
      have f0 := (BX3.out.2 0 _ rfl).2
      have f1 := (BX3.out.2 1 _ rfl).2
      have f2 := (BX3.out.2 2 _ rfl).2
      have f3 := (BX3.out.2 3 _ rfl).2
      have s6 := BX3.out.1
      have e0 := (BX3.out.2 0 _ rfl).1
      have e1 := ((BX3.out.set 0 (.int .i64 0)).2 1 _ rfl).1
      have e2 := (((BX3.out.set 0 (.int .i64 0)).set 1 (.int .i64 0)).2 2 _ rfl).1
      have e3 := ((((BX3.out.set 0 (.int .i64 0)).set 1 (.int .i64 0)).set 2 (.int .i64 0)).2 3 _ rfl).1
      have k0 := (((((BX3.out.set 0 (.int .i64 0)).set 1 (.int .i64 0)).set 2 (.int .i64 0)).set 3 (.slice none 0 0)).2 0 _ rfl).1
      have k1 := (((((BX3.out.set 0 (.int .i64 0)).set 1 (.int .i64 0)).set 2 (.int .i64 0)).set 3 (.slice none 0 0)).2 1 _ rfl).1
      have k2 := (((((BX3.out.set 0 (.int .i64 0)).set 1 (.int .i64 0)).set 2 (.int .i64 0)).set 3 (.slice none 0 0)).2 2 _ rfl).1
      have k3 := (((((BX3.out.set 0 (.int .i64 0)).set 1 (.int .i64 0)).set 2 (.int .i64 0)).set 3 (.slice none 0 0)).2 3 _ rfl).1
      go_wp2_with fail
      refine bodyPost_ret (by simp [results, Tryz.results9, go_sem, k0, k1, k2, k3]; try rfl) rfl ?_
      exact ⟨0, 0, 0, none, 0, 0, [], false, rfl, ⟨⟨rfl, .inl rfl⟩, .inl rfl⟩, Nat.le_refl _, HG.out, ((((HB3.out.setCell (by simp) _).setCell (by simp) _).setCell (by simp) _).setCell (by simp) _)⟩
end Go.Proofs.YtjmgfpldjccilaaGreatDoor
