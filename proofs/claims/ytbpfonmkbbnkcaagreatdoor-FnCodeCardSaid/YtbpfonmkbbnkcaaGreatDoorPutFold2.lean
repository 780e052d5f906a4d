/- putFolded at a sign. -/
import Derived.Test.YtbpfonmkbbnkcaaGreatDoorPutFold
namespace Go.Proofs.YtbpfonmkbbnkcaaGreatDoor
open Go Go.RowKit Go.PlainAid
set_option linter.unusedSimpArgs false
set_option linter.unusedVariables false

theorem opRow_split (zt r : List (Int × Int)) : opRow (zt.reverse ++ r) = opFlat r.reverse ++ opFlat zt := by
  rw [← opFlat_app, ← opRow_flat, List.reverse_append, List.reverse_reverse]
/-- the ops that a sign takes stand last -/
theorem OwnOp.last {B g R t cap : Nat} {w : World} {zt r : List (Int × Int)} (h : OwnOp B w (.slice (some ⟨g, 0, none⟩) (R + t) cap) (zt.reverse ++ r)) (hr : r.length = R) (ht : zt.length = t) : IsOps w (some ⟨g, R * 2, none⟩) t zt := by
  have hlt := (World.ownsRow.lt h g rfl).2
  refine ⟨ht, .inr ⟨g, R * 2, rfl, hlt, fun i hi => ?_⟩⟩
  unfold OwnOp at h
  rw [opRow_split, show (zt.reverse ++ r).length = R + t from by simp; omega] at h
  have hl : (opFlat r.reverse).length = R * 2 := by rw [opFlat_len, List.length_reverse, hr]
  have hl2 : (opFlat zt).length = t * 2 := by rw [opFlat_len, ht]
  obtain ⟨e1, e2⟩ := opFlat_at zt i (by omega)
  refine ⟨?_, ?_⟩
  · rw [World.ownsRow.cellAt h (R * 2 + i * 2) (by omega), List.getElem?_append_right (by omega), hl, Nat.add_sub_cancel_left, e1]
  · rw [World.ownsRow.cellAt h (R * 2 + i * 2 + 1) (by omega), List.getElem?_append_right (by omega), hl, show R * 2 + i * 2 + 1 - R * 2 = i * 2 + 1 from by omega, e2]
theorem OwnOp.first {B g R t cap : Nat} {w : World} {zt r : List (Int × Int)} (h : OwnOp B w (.slice (some ⟨g, 0, none⟩) (R + t) cap) (zt.reverse ++ r)) (hr : r.length = R) : OwnOp B w (.slice (some ⟨g, 0, none⟩) R cap) r := by
  obtain ⟨h1, h2⟩ := h
  rcases h2 with ⟨h2, _⟩ | ⟨g', cap', cur, e, h3, h4, h5, h6, h7, h8⟩
  · cases h2
  · obtain ⟨rfl, -, rfl⟩ : g' = g ∧ True ∧ cap' = cap := by
      injection e with e1 e2 e3
      injection e1 with e1
      injection e1 with e1
      exact ⟨e1.symm, trivial, e3.symm⟩
    refine ⟨by rw [opRow_len], .inr ⟨g', cap', cur, by rw [hr], h3, h4, by simp at h5; omega, h6, h7, ?_⟩⟩
    have hl : (opFlat r.reverse).length = r.length * 2 := by rw [opFlat_len, List.length_reverse]
    have e1 : opRow r = opFlat r.reverse := by rw [← opRow_flat, List.reverse_reverse]
    rw [e1]
    have e2 : cur.toList.take (r.length * 2) = (cur.toList.take ((zt.reverse ++ r).length * 2)).take (r.length * 2) := by
      rw [List.take_take, Nat.min_eq_left (by simp; omega)]
    rw [e2, h8, opRow_split, List.take_append_of_le_length (by omega), ← hl, List.take_length]

set_option maxHeartbeats 1600000 in
set_option maxRecDepth 100000 in
theorem putFolded_keep (p R : Nat) (t : Nat) (k n : Int) (zt r : List (Int × Int)) (w : World) (ht12 : t = 1 ∨ t = 2) (hs : StkO p w (zt.reverse ++ r)) (hr : r.length = R) (hzt : zt.length = t) (hl : R ≤ 100) (hk : tk k = t) (hnn : notNum zt = true) :
    Calls Tryz.prog 57 #[.pointer (some ⟨p, 0, none⟩), .agg #[.int .i64 k, .int .i64 n]] w fun e w' => e = .returned (.tuple #[]) ∧ StkO p w' ((k, n) :: (zt.reverse ++ r)) ∧ Below p w w' := by
  have hlt := hs.lt
  have HS : Hid (StkO p w (zt.reverse ++ r)) := hs
  have hlen : (zt.reverse ++ r).length = R + t := by simp; omega
  clear hs
  have HB0 : Hid (Below w.heap.size w (w.alloc (.cells #[.int .i64 k, .int .i64 n] 82))) := (Below.refl _ _).alloc (Nat.le_refl _) _
  have HT := hidOf (opTakes_any k n 16 (w.alloc (.cells #[.int .i64 k, .int .i64 n] 82)))
  rw [hk] at HT
  clear hk
  go_enter Tryz.func57, Tryz.ntmps57
  go_wp2_with fail
  refine HT.out.mono ?_
  rintro e w1 ⟨rfl, hb1⟩
  have HB1 : Hid (Below w.heap.size w w1) := HB0.out.trans (hb1.mono HB0.out.size)
  have HS1 : Hid (StkO p w1 (zt.reverse ++ r)) := HS.out.keep HB1.out
  have c0 := hb1.cell (p := ⟨w.heap.size, 0, none⟩) (by simp)
  have c1 := hb1.cell (p := ⟨w.heap.size, 1, none⟩) (by simp)
  have hs1 := HB1.out.size
  have hw1 : w.heap.size < w1.heap.size := by have := hb1.size; simp at this; omega
  simp at c0 c1
  obtain ⟨v, hc, hf, hown⟩ := HS1.out
  obtain ⟨g, cap, rfl, hgp, hgw, hcap⟩ : ∃ g cap, v = .slice (some ⟨g, 0, none⟩) (R + t) cap ∧ p < g ∧ g < w1.heap.size ∧ R + t ≤ cap := by
    rcases hown.2 with ⟨_, h⟩ | ⟨g, cap, cur, h, h3, _, h5, _⟩
    · rw [hlen] at h; omega
    · refine ⟨g, cap, by rw [h, hlen], by omega, ?_, by rw [← hlen]; exact h5⟩
      subst h
      exact (World.ownsRow.lt hown g rfl).2
  have HCT := hidOf (contains_any (some ⟨g, R * 2, none⟩) t (cap - R) zt w1 (by omega) (OwnOp.last hown hr hzt))
  rw [hnn] at HCT
  obtain ⟨N, hN⟩ : ∃ N, R + t = N := ⟨_, rfl⟩
  have HKP : Hid (∀ w2, Below w1.heap.size w1 w2 → StkO p w2 (zt.reverse ++ r)) := fun w2 hb => HS1.out.keep hb
  have HPU : Hid (∀ w2, Below w1.heap.size w1 w2 → Calls Tryz.prog 81 #[.pointer (some ⟨p, 0, none⟩), .agg #[.int .i64 k, .int .i64 n]] w2 fun e w' => e = .returned (.tuple #[]) ∧ StkO p w' ((k, n) :: (zt.reverse ++ r)) ∧ Below p w2 w') := fun w2 hb => pushO_any p k n _ w2 (HS1.out.keep hb) (by rw [hlen]; omega)
  rw [hN] at hc hcap
  have qI : (N : Int) - t = R := by omega
  have qN : N - R = t := by omega
  have q1 : R < cap := by omega
  have q2 : R ≤ N := by omega
  have q3 : ¬ cap - R = 0 := by omega
  have q4 : (R : Int) ≤ N := by omega
  have q5 : (N : Int) ≤ cap := by omega
  have qw : IntKind.i64.wrap (R : Int) = R := IntWalk.i64_in _ ⟨by omega, by omega⟩
  have qt : ((t : Int) == 0) = false := by simp; omega
  clear hown hf hb1 HT hN hlen
  go_wp2_with (first
    | (go_at_call 79; refine HCT.out.mono ?_; rintro e w2 ⟨rfl, hb2⟩; have HB2 : Hid (Below w1.heap.size w1 w2) := hb2; have d0 := (hb2.cell (p := ⟨w.heap.size, 0, none⟩) (by simp; omega)).trans c0; have d1 := (hb2.cell (p := ⟨w.heap.size, 1, none⟩) (by simp; omega)).trans c1; clear hb2)
    | (go_at_call 81; refine (HPU.out w2 HB2.out).mono ?_; rintro e w3 ⟨rfl, hs3, hb3⟩; have HS3 : Hid (StkO p w3 ((k, n) :: (zt.reverse ++ r))) := hs3; have HB3 : Hid (Below p w w3) := ((HB1.out.mono (by omega)).trans (HB2.out.mono (by omega))).trans hb3; clear hs3 hb3))
  go_returns
  exact ⟨rfl, HS3.out, HB3.out⟩
end Go.Proofs.YtbpfonmkbbnkcaaGreatDoor
