/- putFolded at a sign of numbers alone. -/
import Derived.Test.YtbpfonmkbbnkcaaGreatDoorPutFold2
import Derived.Deep.RegionWith
namespace Go.Proofs.YtbpfonmkbbnkcaaGreatDoor
open Go Go.RowKit Go.PlainAid
set_option linter.unusedSimpArgs false
set_option linter.unusedVariables false

set_option maxHeartbeats 1600000 in
set_option maxRecDepth 100000 in
theorem putFolded_fold (p R : Nat) (t : Nat) (k n : Int) (zt r : List (Int × Int)) (w : World) (ht12 : t = 1 ∨ t = 2) (hs : StkO p w (zt.reverse ++ r)) (hr : r.length = R) (hzt : zt.length = t) (hl : R ≤ 100) (hk : tk k = t) (hnn : notNum zt = false) :
    Calls Tryz.prog 57 #[.pointer (some ⟨p, 0, none⟩), .agg #[.int .i64 k, .int .i64 n]] w fun e w' => e = .returned (.tuple #[]) ∧ StkO p w' ((1, codeVal [] (zt ++ [(k, n)])) :: r) ∧ Below p w w' := by
  have hlt := hs.lt
  have HS : Hid (StkO p w (zt.reverse ++ r)) := hs
  have hlen : (zt.reverse ++ r).length = R + t := by simp; omega
  clear hs
  have HB0 : Hid (Below w.heap.size w (w.alloc (.cells #[.int .i64 k, .int .i64 n] 82))) := (Below.refl _ _).alloc (Nat.le_refl _) _
  have HT := hidOf (opTakes_any k n 16 (w.alloc (.cells #[.int .i64 k, .int .i64 n] 82)))
  rw [hk] at HT
  clear hk
  go_enter Tryz.func57, Tryz.ntmps57
  go_wp2_with fail
  refine HT.out.mono ?_
  rintro e w1 ⟨rfl, hb1⟩
  have HB1 : Hid (Below w.heap.size w w1) := HB0.out.trans (hb1.mono HB0.out.size)
  have HS1 : Hid (StkO p w1 (zt.reverse ++ r)) := HS.out.keep HB1.out
  have c0 := hb1.cell (p := ⟨w.heap.size, 0, none⟩) (by simp)
  have c1 := hb1.cell (p := ⟨w.heap.size, 1, none⟩) (by simp)
  have hs1 := HB1.out.size
  have hw1 : w.heap.size < w1.heap.size := by have := hb1.size; simp at this; omega
  simp at c0 c1
  obtain ⟨v, hc, hf, hown⟩ := HS1.out
  obtain ⟨g, cap, rfl, hgp, hgw, hcap⟩ : ∃ g cap, v = .slice (some ⟨g, 0, none⟩) (R + t) cap ∧ p < g ∧ g < w1.heap.size ∧ R + t ≤ cap := by
    rcases hown.2 with ⟨_, h⟩ | ⟨g, cap, cur, h, h3, _, h5, _⟩
    · rw [hlen] at h; omega
    · refine ⟨g, cap, by rw [h, hlen], by omega, ?_, by rw [← hlen]; exact h5⟩
      subst h
      exact (World.ownsRow.lt hown g rfl).2
  have HCT := hidOf (contains_any (some ⟨g, R * 2, none⟩) t (cap - R) zt w1 (by omega) (OwnOp.last hown hr hzt))
  rw [hnn] at HCT
  obtain ⟨N, hN⟩ : ∃ N, R + t = N := ⟨_, rfl⟩
  have HKP : Hid (∀ w2, Below w1.heap.size w1 w2 → StkO p w2 (zt.reverse ++ r)) := fun w2 hb => HS1.out.keep hb
  obtain ⟨Y, hY⟩ : ∃ Y, codeVal [] (zt ++ [(k, n)]) = Y := ⟨_, rfl⟩
  have HY := hidOf hY
  clear hY
  have HFI : Hid (∀ w2, Below w1.heap.size w1 w2 → OwnOp (p + 1) w2 (.slice (some ⟨g, 0, none⟩) R cap) r) := fun w2 hb => OwnOp.first (own_same hown hb) hr
  have HLA : Hid (∀ w2, Below w1.heap.size w1 w2 → IsOps w2 (some ⟨g, R * 2, none⟩) t zt) := fun w2 hb => OwnOp.last (own_same hown hb) hr hzt
  have HF1 : Hid (w1.frozen? ⟨p, 0, none⟩ = false) := hf
  rw [hN] at hc hcap
  have qI : (N : Int) - t = R := by omega
  have qN : N - R = t := by omega
  have q1 : R < cap := by omega
  have q2 : R ≤ N := by omega
  have q3 : ¬ cap - R = 0 := by omega
  have q4 : (R : Int) ≤ N := by omega
  have q5 : (N : Int) ≤ cap := by omega
  have qw : IntKind.i64.wrap (R : Int) = R := IntWalk.i64_in _ ⟨by omega, by omega⟩
  have qt : ((t : Int) == 0) = false := by simp; omega
  clear hown hf hb1 HT hN hlen
  have hpw1 : p < w1.heap.size := by omega
  go_wp2_with (go_at_call 79; refine HCT.out.mono ?_; rintro e w2 ⟨rfl, hb2⟩; have HB2 : Hid (Below w1.heap.size w1 w2) := hb2; have d0 := (hb2.cell (p := ⟨w.heap.size, 0, none⟩) (by simp; omega)).trans c0; have d1 := (hb2.cell (p := ⟨w.heap.size, 1, none⟩) (by simp; omega)).trans c1; have dp := (hb2.cell (p := ⟨p, 0, none⟩) hpw1).trans hc; have hs2 := hb2.size; clear hb2)
  have hp2 : p < w2.heap.size := by omega
  have hw2 : w.heap.size < w2.heap.size := by omega
  have HCC : Hid (Calls Tryz.prog 82 #[.slice (some ⟨w2.heap.size + 1, 0, none⟩) 2 2] ((w2.alloc (.cells #[.int .i64 k, .int .i64 n] 82)).alloc (.cells #[.slice (some ⟨g, R * 2, none⟩) t (cap - R), .slice (some ⟨w2.heap.size, 0, none⟩) 1 1] 41)).drew fun e w' => ∃ a3 c3, e = .returned (.slice a3 (t + 1) c3) ∧ IsOps w' a3 (t + 1) (zt ++ [(k, n)]) ∧ Below w2.heap.size w2 w') := by
    obtain ⟨W, hW⟩ : ∃ W, W = ((w2.alloc (.cells #[.int .i64 k, .int .i64 n] 82)).alloc (.cells #[.slice (some ⟨g, R * 2, none⟩) t (cap - R), .slice (some ⟨w2.heap.size, 0, none⟩) 1 1] 41)).drew := ⟨_, rfl⟩
    have hbW : Below w2.heap.size w2 W := by
      rw [hW]
      have hb := ((Below.refl w2.heap.size w2).alloc (Nat.le_refl _) (.cells #[.int .i64 k, .int .i64 n] 82)).alloc (by simp) (.cells #[.slice (some ⟨g, R * 2, none⟩) t (cap - R), .slice (some ⟨w2.heap.size, 0, none⟩) 1 1] 41)
      exact ⟨hb.os, hb.tape, hb.output, hb.size, hb.block⟩
    have hbW1 : Below w1.heap.size w1 W := HB2.out.trans (hbW.mono (by omega))
    have i1 : IsOps W (some ⟨g, R * 2, none⟩) t zt := HLA.out W hbW1
    have x0 : W.cell? ⟨w2.heap.size + 1, 0, none⟩ = some (.slice (some ⟨g, R * 2, none⟩) t (cap - R)) := by rw [hW]; simp [go_sem]
    have x1 : W.cell? ⟨w2.heap.size + 1, 1, none⟩ = some (.slice (some ⟨w2.heap.size, 0, none⟩) 1 1) := by rw [hW]; simp [go_sem]
    have i2 : IsOps W (some ⟨w2.heap.size, 0, none⟩) 1 [(k, n)] := by
      refine ⟨rfl, .inr ⟨w2.heap.size, 0, rfl, by rw [hW]; simp; omega, fun i hi => ?_⟩⟩
      have : i = 0 := by omega
      subst this
      rw [hW]
      exact ⟨by simp [go_sem], by simp [go_sem]⟩
    have hWs : W.heap.size = w2.heap.size + 2 := by rw [hW]; simp
    rw [← hW]
    refine (concatO_any (w2.heap.size + 1) g (R * 2) t (cap - R) w2.heap.size 0 1 1 zt [(k, n)] W (by omega) (by omega) (by decide) (by omega) (by decide) x0 x1 i1 i2).mono ?_
    rintro e w' ⟨v', rfl, ho, hb⟩
    obtain ⟨g3, c3, hv3⟩ : ∃ g3 c3, v' = .slice (some ⟨g3, 0, none⟩) (0 + (t + 1)) c3 := by
      rcases ho.2 with ⟨_, h⟩ | ⟨g3, c3, cur, h, _⟩
      · simp at h
      · exact ⟨g3, c3, by rw [h]; simp; omega⟩
    subst hv3
    have hio := OwnOp.last (R := 0) (t := t + 1) (zt := zt ++ [(k, n)]) (r := []) (by rw [List.append_nil]; exact ho) rfl (by simp; omega)
    refine ⟨some ⟨g3, 0, none⟩, c3, by rw [Nat.zero_add], by simpa using hio, hbW.trans (hb.mono (by omega))⟩
  have HCR : Hid (∀ w4 a3 c3, IsOps w4 a3 (t + 1) (zt ++ [(k, n)]) → Calls Tryz.prog 28 #[.slice a3 (t + 1) c3, .slice none 0 0] w4 fun e w' => e = .returned (.int .i64 Y) ∧ Below w4.heap.size w4 w') := fun w4 a3 c3 h => by
    rw [← HY.out]
    exact implRun_any a3 (t + 1) c3 none 0 0 (zt ++ [(k, n)]) [] w4 (by omega) (by decide) h ⟨rfl, .inl rfl⟩
  go_wp2_with fail
  go_region_with (first
    | (go_at_call 82; refine HCC.out.mono ?_; rintro e w3 ⟨a3, c3, rfl, hi3, hb3⟩; have HI3 : Hid (IsOps w3 a3 (t + 1) (zt ++ [(k, n)])) := hi3; have HB3 : Hid (Below w2.heap.size w2 w3) := hb3; clear hi3 hb3)
    | (go_at_call 28; refine (HCR.out w3 a3 c3 HI3.out).mono ?_; rintro e w4 ⟨rfl, hb4⟩; have HB4 : Hid (Below w2.heap.size w2 w4) := HB3.out.trans (hb4.mono HB3.out.size); clear hb4))
  all_goals
    have hC4 : Below w1.heap.size w1 w4 := HB2.out.trans (HB4.out.mono (by omega))
    have HC4 := hidOf hC4
    have dp4 := (HB4.out.cell (p := ⟨p, 0, none⟩) hp2).trans dp
    have df4 : w4.frozen? ⟨p, 0, none⟩ = false := (hC4.frozen (p := ⟨p, 0, none⟩) hpw1).trans HF1.out
    have HPU := hidOf (pushO_any p 1 Y r (w4.setCell ⟨p, 0, none⟩ (.slice (some ⟨g, 0, none⟩) R cap)) ⟨_, World.cell?_setCell_same _ _ _ dp4, by simpa using df4, ownsRow_setCell_below (HFI.out w4 hC4) (by simp) _⟩ (by omega))
    have hB4 : Below p w w4 := (HB1.out.mono (by omega)).trans (hC4.mono (by omega))
    have HB5 : Hid (Below p w (w4.setCell ⟨p, 0, none⟩ (.slice (some ⟨g, 0, none⟩) R cap))) := hB4.setCell (by simp) _
    have q6 : (R : Int) ≤ cap := by omega
    have q7 : (0 : Int) ≤ R := by omega
    have hsz4 : p < w4.heap.size := by have := HB4.out.size; omega
    clear hC4 hB4 d0 d1 dp c0 c1 hc
    go_wp2_with (go_at_call 81; refine HPU.out.mono ?_; rintro e w5 ⟨rfl, hs5, hb5⟩; have HS5 : Hid (StkO p w5 ((1, Y) :: r)) := hs5; have HB6 : Hid (Below p w w5) := HB5.out.trans hb5; clear hs5 hb5)
    go_end0
    exact ⟨rfl, by rw [HY.out]; exact HS5.out, HB6.out⟩
end Go.Proofs.YtbpfonmkbbnkcaaGreatDoor
