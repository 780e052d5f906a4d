/- A drawn event: l31Event. -/
import Derived.Test.YtjmgfpldjccilaaGreatDoorDrawVals
import Derived.Test.YtjmgfpldjccilaaGreatDoorCpMem
import Derived.Test.YtjmgfpldjccilaaGreatDoorMvR
import Derived.Test.YtjmgfpldjccilaaGreatDoorBoxNew
namespace Go.Proofs.YtjmgfpldjccilaaGreatDoor
open Go Go.RowKit Go.PlainAid
set_option linter.unusedSimpArgs false
set_option linter.unusedVariables false

theorem Mv.put {p : Nat} {w W : World} (h : Mv p w W) {b : Nat} (hb : w.heap.size ≤ b) (i : Nat) (v : Value) : Mv p w (W.setCell ⟨b, i, none⟩ v) :=
  ⟨h.os, h.tape, h.output, by simpa [World.setCell] using h.size, fun g h1 h2 => (((Mv.refl b W).cell i v).block g (Nat.lt_of_lt_of_le h1 h.size) (by omega)).trans (h.block g h1 h2)⟩
theorem RdAt.put {W : World} {p : Nat} {a : Option Addr} {n cap : Nat} {bs : List Int} {k : Nat} (h : RdAt W p a n cap bs k) {b : Nat} (hb : p < b) (i : Nat) (v : Value) : RdAt (W.setCell ⟨b, i, none⟩ v) p a n cap bs k :=
  h.old (fun g hg => ((Mv.refl b W).cell i v).block g (by have := h.lt; omega) (by omega))
theorem FreeI.mv {B p : Nat} {w w' : World} {a : Option Addr} {n : Nat} {l : List Int} (h : FreeI B w a n l) (hm : Mv p w w') (hp : p < B) : FreeI B w' a n l := h.mvR (hm.range (Nat.le_refl _) (Nat.lt_succ_self _)) hp
/-- a drawn event -/
def DrawnE (p : Nat) (a : Option Addr) (n cap : Nat) (bs : List Int) (k : Nat) (w : World) (e : Ending) (w' : World) : Prop :=
  ∃ (K T M : Int) (a2 : Option Addr) (n2 c2 : Nat) (l : List Int) (k2 : Nat), e = .returned (.agg #[.int .i64 K, .int .i64 T, .int .i64 M, .slice a2 n2 c2]) ∧ FreeI w.heap.size w' a2 n2 l ∧ n2 ≤ c2 ∧ n2 ≤ 3 ∧ RdAt w' p a n cap bs k2 ∧ k2 ≤ k + 10 ∧ Mv p w w'

set_option maxHeartbeats 12800000 in
set_option maxRecDepth 100000 in
theorem l31Event_any (p : Nat) (a : Option Addr) (n cap : Nat) (bs : List Int) (k : Nat) (w : World) (hk : k ≤ 10000) (hr : RdAt w p a n cap bs k) :
    Calls Tryz.prog 25 #[.pointer (some ⟨p, 0, none⟩)] w (DrawnE p a n cap bs k w) := by
  have hp := hr.lt
  have hb0 : Below w.heap.size w (w.alloc (.cells #[.int .i64 0, .int .i64 0, .int .i64 0, .slice none 0 0] 26)) := (Below.refl _ _).alloc (Nat.le_refl _) _
  have BX0 := hidOf (boxAt_new w [.int .i64 0, .int .i64 0, .int .i64 0, .slice none 0 0] 26)
  have HR0 := hidOf (hr.below hb0)
  have HM0 := hidOf (Mv.of_below (p := p) hb0)
  have hr0 : p ≠ w.heap.size := by omega
  have hr0' : w.heap.size ≠ p := by omega
  clear hr hb0
  go_enter Tryz.func25, Tryz.ntmps25
  go_wp2_with fail
  refine (pick_mv p a n cap bs k 9 _ (by omega) (by omega) HR0.out).mono ?_
  rintro e w1 ⟨v, rfl, hv0, hv1, hr1, hm1⟩
  have hv9 : v < 9 := hv1 (by decide)
  have HR1 := hidOf hr1
  have HM1 := hidOf (HM0.out.trans hm1)
  have BX1 := hidOf (BX0.out.mv hm1 hr0')
  have p1 : IntKind.i64.wrap (1 + v) = 1 + v := IntWalk.i64_in _ ⟨by omega, by omega⟩
  clear hr1 hm1 hv1
  go_wp2_with fail
  refine (one_at [0, 1, 2, 7, 999999] 3 5 w1 _ p a n cap bs (k + 1) _ (by omega) HR1.out rfl (by omega) (by omega) rfl rfl).mono ?_
  rintro e w2 ⟨T, rfl, hT, hr2, hm2⟩
  have HM2 := hidOf (HM1.out.trans hm2)
  have BX2 := hidOf (BX1.out.mv hm2 hr0')
  have hs2 : w.heap.size + 1 ≤ w2.heap.size := by have := BX2.out.1; omega
  obtain ⟨K, hK⟩ : ∃ K, 1 + v = K := ⟨_, rfl⟩
  have hK1 : 1 ≤ K ∧ K ≤ 9 := by omega
  rw [hK] at p1 ⊢
  obtain ⟨W3, hW3⟩ : ∃ W3, w2.alloc (.cells #[.int .i64 K, .int .i64 T, .int .i64 0, .slice none 0 0] 26) = W3 := ⟨_, rfl⟩
  have hb3 : Below w2.heap.size w2 W3 := by rw [← hW3]; exact (Below.refl _ _).alloc (Nat.le_refl _) _
  have hs3 : W3.heap.size = w2.heap.size + 1 := by rw [← hW3]; simp
  have BQ3 := hidOf (show BoxAt w2.heap.size [.int .i64 K, .int .i64 T, .int .i64 0, .slice none 0 0] W3 by rw [← hW3]; exact boxAt_new w2 _ _)
  have HW3 := hidOf hW3
  have HR3 := hidOf (hr2.below hb3)
  have HM3 := hidOf (HM2.out.trans (Mv.of_below hb3))
  have BX3 := hidOf (BX2.out.below hb3)
  have hq : w2.heap.size ≠ p := by omega
  have hqr : w.heap.size ≠ w2.heap.size := by omega
  have hpq : p < w2.heap.size := by omega
  clear hr2 hm2 hW3 hb3 hT hK hv0 hv9
  by_cases h1 : K = 1
  · subst h1
    go_wp2_with fail
    rw [HW3.out]
    refine (pick_mv p a n cap bs (k + 1 + 1) 4 _ (by omega) (by omega) HR3.out).mono ?_
    rintro e w4 ⟨v4, rfl, hv40, hv41, hr4, hm4⟩
    have hv4 := hv41 (by decide)
    obtain ⟨m4, rfl⟩ : ∃ m4 : Nat, v4 = m4 := ⟨v4.toNat, by omega⟩
    have HR4 := hidOf hr4
    have HM4 := hidOf (HM3.out.trans hm4)
    have BX4 := hidOf (BX3.out.mv hm4 hr0')
    have BQ4 := hidOf (BQ3.out.mv hm4 hq)
    clear hr4 hm4 hv41
    go_wp2_with fail
    refine (l11Vals_any p a n cap bs (k + 1 + 1 + 1) m4 w4 (by omega) (by omega) HR4.out).mono ?_
    rintro e w5 ⟨u, l, rfl, hl, ho, hr5, hm5⟩
    obtain ⟨a2, c, rfl, hc, hfr⟩ := ho.free
    rw [hl] at hc hfr ⊢
    have hs4 : W3.heap.size ≤ w4.heap.size := by have := BQ4.out.1; have := HM4.out.size; have := BX4.out.1; omega
    have HF5 := hidOf (hfr.low hs4)
    have hl3 : m4 ≤ 3 := by omega
    have BX5 := BX4.out.mv hm5 hr0'
    have BQ5 := BQ4.out.mv hm5 hq
    have BXA := hidOf (BX5.mv ((Mv.refl w2.heap.size w5).cell 3 (.slice a2 m4 c)) hqr)
    have BQA := hidOf (BQ5.set 3 (.slice a2 m4 c))
    have HMA := hidOf ((HM4.out.trans hm5).put (b := w2.heap.size) (by omega) 3 (.slice a2 m4 c))
    have HRA := hidOf (hr5.put hpq 3 (.slice a2 m4 c))
    have HFA := hidOf (HF5.out.mvR (((Mv.refl w2.heap.size w5).cell 3 (.slice a2 m4 c)).range (L := w.heap.size) (H := w2.heap.size + 1) (by omega) (by omega)) (by omega))
    have u0 : w5.cell? ⟨w2.heap.size, 0, none⟩ = some _ := (BQ5.2 0 _ rfl).1
    have u1 : w5.cell? ⟨w2.heap.size, 1, none⟩ = some _ := (BQ5.2 1 _ rfl).1
    have u2 : w5.cell? ⟨w2.heap.size, 2, none⟩ = some _ := (BQ5.2 2 _ rfl).1
    have u3 : w5.cell? ⟨w2.heap.size, 3, none⟩ = some _ := (BQ5.2 3 _ rfl).1
    have h0 := (BQ5.2 0 _ rfl).2
    have h1 := (BQ5.2 1 _ rfl).2
    have h2 := (BQ5.2 2 _ rfl).2
    have h3 := (BQ5.2 3 _ rfl).2
    have s5 := BQ5.1
    have t0 := (BQA.out.2 0 _ rfl).1
    have t1 := (BQA.out.2 1 _ rfl).1
    have t2 := (BQA.out.2 2 _ rfl).1
    have t3 := (BQA.out.2 3 _ rfl).1
    clear ho hfr hr5 hm5 BX5 BQ5 hl
    go_wp2_with fail
    skip
    refine (pick_mv p a n cap bs (k + 1 + 1 + 1 + m4) 10 _ (by omega) (by omega) HRA.out).mono ?_
    rintro e w7 ⟨z, rfl, hz0, _, hr7, hm7⟩
    have HR7 := hidOf hr7
    have HM7 := hidOf (HMA.out.trans hm7)
    have BX7 := hidOf (BXA.out.mv hm7 hr0')
    have BQ7 := hidOf (BQA.out.mv hm7 hq)
    have HF7 := hidOf (HFA.out.mv hm7 (by omega))
    clear hr7 hm7
    by_cases z0 : z = 0
    · subst z0
      have q0 : w7.cell? ⟨w2.heap.size, 0, none⟩ = some _ := (BQ7.out.2 0 _ rfl).1
      have q1 : w7.cell? ⟨w2.heap.size, 1, none⟩ = some _ := (BQ7.out.2 1 _ rfl).1
      have q2 : w7.cell? ⟨w2.heap.size, 2, none⟩ = some _ := (BQ7.out.2 2 _ rfl).1
      have q3 : w7.cell? ⟨w2.heap.size, 3, none⟩ = some _ := (BQ7.out.2 3 _ rfl).1
      have s7 := BQ7.out.1
      go_wp2_with fail
      refine (pick_mv p a n cap bs (k + 1 + 1 + 1 + m4 + 1) 12 _ (by omega) (by omega) HR7.out).mono ?_
      rintro e w8 ⟨y, rfl, hy0, hy1, hr8, hm8⟩
      have HR8 := hidOf hr8
      have HM8 := hidOf (HM7.out.trans hm8)
      have BX8 := BX7.out.mv hm8 hr0'
      have BQ8 := BQ7.out.mv hm8 hq
      have hy2 := hy1 (by decide)
      have p2 : IntKind.i64.wrap (y - 1) = y - 1 := IntWalk.i64_in _ ⟨by omega, by omega⟩
      clear hy1
      have BX9 := BX8.mv ((Mv.refl w2.heap.size w8).cell 0 (.int .i64 (y - 1))) hqr
      have BQ9 := BQ8.set 0 (.int .i64 (y - 1))
      have HM9 := hidOf (HM8.out.put (b := w2.heap.size) (by omega) 0 (.int .i64 (y - 1)))
      have HR9 := hidOf (HR8.out.put hpq 0 (.int .i64 (y - 1)))
      have HF9 := ((HF7.out.mv hm8 (by omega)).mvR (((Mv.refl w2.heap.size w8).cell 0 (.int .i64 (y - 1))).range (L := w.heap.size) (H := w2.heap.size + 1) (by omega) (by omega)) (by omega))
      have x0 : w8.cell? ⟨w.heap.size, 0, none⟩ = some _ := (BX8.2 0 _ rfl).1
      have x1 : w8.cell? ⟨w.heap.size, 1, none⟩ = some _ := (BX8.2 1 _ rfl).1
      have x2 : w8.cell? ⟨w.heap.size, 2, none⟩ = some _ := (BX8.2 2 _ rfl).1
      have x3 : w8.cell? ⟨w.heap.size, 3, none⟩ = some _ := (BX8.2 3 _ rfl).1
      have g0 := (BX8.2 0 _ rfl).2
      have g1 := (BX8.2 1 _ rfl).2
      have g2 := (BX8.2 2 _ rfl).2
      have g3 := (BX8.2 3 _ rfl).2
      have u0 : w8.cell? ⟨w2.heap.size, 0, none⟩ = some _ := (BQ8.2 0 _ rfl).1
      have u1 : w8.cell? ⟨w2.heap.size, 1, none⟩ = some _ := (BQ8.2 1 _ rfl).1
      have u2 : w8.cell? ⟨w2.heap.size, 2, none⟩ = some _ := (BQ8.2 2 _ rfl).1
      have u3 : w8.cell? ⟨w2.heap.size, 3, none⟩ = some _ := (BQ8.2 3 _ rfl).1
      have h0 := (BQ8.2 0 _ rfl).2
      have h1 := (BQ8.2 1 _ rfl).2
      have h2 := (BQ8.2 2 _ rfl).2
      have h3 := (BQ8.2 3 _ rfl).2
      have t0 := (BQ9.2 0 _ rfl).1
      have t1 := (BQ9.2 1 _ rfl).1
      have t2 := (BQ9.2 2 _ rfl).1
      have t3 := (BQ9.2 3 _ rfl).1
      have s8 := BX8.1
      have s9 := BQ8.1
      clear q0 q1 q2 q3
      have e0 := (BX9.2 0 _ rfl).1
      have e1 := ((BX9.set 0 (.int .i64 (y - 1))).2 1 _ rfl).1
      have e2 := (((BX9.set 0 (.int .i64 (y - 1))).set 1 (.int .i64 T)).2 2 _ rfl).1
      have e3 := ((((BX9.set 0 (.int .i64 (y - 1))).set 1 (.int .i64 T)).set 2 (.int .i64 0)).2 3 _ rfl).1
      have k0 := (((((BX9.set 0 (.int .i64 (y - 1))).set 1 (.int .i64 T)).set 2 (.int .i64 0)).set 3 (.slice a2 m4 c)).2 0 _ rfl).1
      have k1 := (((((BX9.set 0 (.int .i64 (y - 1))).set 1 (.int .i64 T)).set 2 (.int .i64 0)).set 3 (.slice a2 m4 c)).2 1 _ rfl).1
      have k2 := (((((BX9.set 0 (.int .i64 (y - 1))).set 1 (.int .i64 T)).set 2 (.int .i64 0)).set 3 (.slice a2 m4 c)).2 2 _ rfl).1
      have k3 := (((((BX9.set 0 (.int .i64 (y - 1))).set 1 (.int .i64 T)).set 2 (.int .i64 0)).set 3 (.slice a2 m4 c)).2 3 _ rfl).1
      go_wp2_with fail
      refine bodyPost_ret (by simp [results, Tryz.results25, go_sem, k0, k1, k2, k3]; try rfl) rfl ?_
      exact ⟨_, _, _, a2, m4, c, l, k + 1 + 1 + 1 + m4 + 1 + 1, rfl, (((HF9).mvR ((((((Mv.refl w.heap.size _).cell 0 (.int .i64 (y - 1))).cell 1 (.int .i64 T)).cell 2 (.int .i64 0)).cell 3 (.slice a2 m4 c)).range (L := w.heap.size) (H := w.heap.size + 1) (Nat.le_refl _) (by omega)) (by omega)).low (by omega)), (by first | exact Nat.le_refl _ | exact hc), (by first | exact Nat.zero_le _ | omega), ((((HR9.out.put hp 0 (.int .i64 (y - 1))).put hp 1 (.int .i64 T)).put hp 2 (.int .i64 0)).put hp 3 (.slice a2 m4 c)), by omega, ((((HM9.out.put (Nat.le_refl _) 0 (.int .i64 (y - 1))).put (Nat.le_refl _) 1 (.int .i64 T)).put (Nat.le_refl _) 2 (.int .i64 0)).put (Nat.le_refl _) 3 (.slice a2 m4 c))⟩
    by_cases z1 : z = 1
    · subst z1
      have q0 : w7.cell? ⟨w2.heap.size, 0, none⟩ = some _ := (BQ7.out.2 0 _ rfl).1
      have q1 : w7.cell? ⟨w2.heap.size, 1, none⟩ = some _ := (BQ7.out.2 1 _ rfl).1
      have q2 : w7.cell? ⟨w2.heap.size, 2, none⟩ = some _ := (BQ7.out.2 2 _ rfl).1
      have q3 : w7.cell? ⟨w2.heap.size, 3, none⟩ = some _ := (BQ7.out.2 3 _ rfl).1
      have s7 := BQ7.out.1
      go_wp2_with fail
      refine (one_at [-1, 1000000] 3 2 w7 _ p a n cap bs (k + 1 + 1 + 1 + m4 + 1) _ (by omega) HR7.out rfl (by omega) (by omega) rfl rfl).mono ?_
      rintro e w8 ⟨y, rfl, hy0, hr8, hm8⟩
      have HR8 := hidOf hr8
      have HM8 := hidOf (HM7.out.trans hm8)
      have BX8 := BX7.out.mv hm8 hr0'
      have BQ8 := BQ7.out.mv hm8 hq
      have BX9 := BX8.mv ((Mv.refl w2.heap.size w8).cell 1 (.int .i64 y)) hqr
      have BQ9 := BQ8.set 1 (.int .i64 y)
      have HM9 := hidOf (HM8.out.put (b := w2.heap.size) (by omega) 1 (.int .i64 y))
      have HR9 := hidOf (HR8.out.put hpq 1 (.int .i64 y))
      have HF9 := ((HF7.out.mv hm8 (by omega)).mvR (((Mv.refl w2.heap.size w8).cell 1 (.int .i64 y)).range (L := w.heap.size) (H := w2.heap.size + 1) (by omega) (by omega)) (by omega))
      have x0 : w8.cell? ⟨w.heap.size, 0, none⟩ = some _ := (BX8.2 0 _ rfl).1
      have x1 : w8.cell? ⟨w.heap.size, 1, none⟩ = some _ := (BX8.2 1 _ rfl).1
      have x2 : w8.cell? ⟨w.heap.size, 2, none⟩ = some _ := (BX8.2 2 _ rfl).1
      have x3 : w8.cell? ⟨w.heap.size, 3, none⟩ = some _ := (BX8.2 3 _ rfl).1
      have g0 := (BX8.2 0 _ rfl).2
      have g1 := (BX8.2 1 _ rfl).2
      have g2 := (BX8.2 2 _ rfl).2
      have g3 := (BX8.2 3 _ rfl).2
      have u0 : w8.cell? ⟨w2.heap.size, 0, none⟩ = some _ := (BQ8.2 0 _ rfl).1
      have u1 : w8.cell? ⟨w2.heap.size, 1, none⟩ = some _ := (BQ8.2 1 _ rfl).1
      have u2 : w8.cell? ⟨w2.heap.size, 2, none⟩ = some _ := (BQ8.2 2 _ rfl).1
      have u3 : w8.cell? ⟨w2.heap.size, 3, none⟩ = some _ := (BQ8.2 3 _ rfl).1
      have h0 := (BQ8.2 0 _ rfl).2
      have h1 := (BQ8.2 1 _ rfl).2
      have h2 := (BQ8.2 2 _ rfl).2
      have h3 := (BQ8.2 3 _ rfl).2
      have t0 := (BQ9.2 0 _ rfl).1
      have t1 := (BQ9.2 1 _ rfl).1
      have t2 := (BQ9.2 2 _ rfl).1
      have t3 := (BQ9.2 3 _ rfl).1
      have s8 := BX8.1
      have s9 := BQ8.1
      clear q0 q1 q2 q3
      have e0 := (BX9.2 0 _ rfl).1
      have e1 := ((BX9.set 0 (.int .i64 1)).2 1 _ rfl).1
      have e2 := (((BX9.set 0 (.int .i64 1)).set 1 (.int .i64 y)).2 2 _ rfl).1
      have e3 := ((((BX9.set 0 (.int .i64 1)).set 1 (.int .i64 y)).set 2 (.int .i64 0)).2 3 _ rfl).1
      have k0 := (((((BX9.set 0 (.int .i64 1)).set 1 (.int .i64 y)).set 2 (.int .i64 0)).set 3 (.slice a2 m4 c)).2 0 _ rfl).1
      have k1 := (((((BX9.set 0 (.int .i64 1)).set 1 (.int .i64 y)).set 2 (.int .i64 0)).set 3 (.slice a2 m4 c)).2 1 _ rfl).1
      have k2 := (((((BX9.set 0 (.int .i64 1)).set 1 (.int .i64 y)).set 2 (.int .i64 0)).set 3 (.slice a2 m4 c)).2 2 _ rfl).1
      have k3 := (((((BX9.set 0 (.int .i64 1)).set 1 (.int .i64 y)).set 2 (.int .i64 0)).set 3 (.slice a2 m4 c)).2 3 _ rfl).1
      go_wp2_with fail
      refine bodyPost_ret (by simp [results, Tryz.results25, go_sem, k0, k1, k2, k3]; try rfl) rfl ?_
      exact ⟨_, _, _, a2, m4, c, l, k + 1 + 1 + 1 + m4 + 1 + 1, rfl, (((HF9).mvR ((((((Mv.refl w.heap.size _).cell 0 (.int .i64 1)).cell 1 (.int .i64 y)).cell 2 (.int .i64 0)).cell 3 (.slice a2 m4 c)).range (L := w.heap.size) (H := w.heap.size + 1) (Nat.le_refl _) (by omega)) (by omega)).low (by omega)), (by first | exact Nat.le_refl _ | exact hc), (by first | exact Nat.zero_le _ | omega), ((((HR9.out.put hp 0 (.int .i64 1)).put hp 1 (.int .i64 y)).put hp 2 (.int .i64 0)).put hp 3 (.slice a2 m4 c)), by omega, ((((HM9.out.put (Nat.le_refl _) 0 (.int .i64 1)).put (Nat.le_refl _) 1 (.int .i64 y)).put (Nat.le_refl _) 2 (.int .i64 0)).put (Nat.le_refl _) 3 (.slice a2 m4 c))⟩
    by_cases z2 : z = 2
    · subst z2
      have q0 : w7.cell? ⟨w2.heap.size, 0, none⟩ = some _ := (BQ7.out.2 0 _ rfl).1
      have q1 : w7.cell? ⟨w2.heap.size, 1, none⟩ = some _ := (BQ7.out.2 1 _ rfl).1
      have q2 : w7.cell? ⟨w2.heap.size, 2, none⟩ = some _ := (BQ7.out.2 2 _ rfl).1
      have q3 : w7.cell? ⟨w2.heap.size, 3, none⟩ = some _ := (BQ7.out.2 3 _ rfl).1
      have s7 := BQ7.out.1
      go_wp2_with fail
      refine (one_at [-1, 5] 3 2 w7 _ p a n cap bs (k + 1 + 1 + 1 + m4 + 1) _ (by omega) HR7.out rfl (by omega) (by omega) rfl rfl).mono ?_
      rintro e w8 ⟨y, rfl, hy0, hr8, hm8⟩
      have HR8 := hidOf hr8
      have HM8 := hidOf (HM7.out.trans hm8)
      have BX8 := BX7.out.mv hm8 hr0'
      have BQ8 := BQ7.out.mv hm8 hq
      have BX9 := BX8.mv ((Mv.refl w2.heap.size w8).cell 2 (.int .i64 y)) hqr
      have BQ9 := BQ8.set 2 (.int .i64 y)
      have HM9 := hidOf (HM8.out.put (b := w2.heap.size) (by omega) 2 (.int .i64 y))
      have HR9 := hidOf (HR8.out.put hpq 2 (.int .i64 y))
      have HF9 := ((HF7.out.mv hm8 (by omega)).mvR (((Mv.refl w2.heap.size w8).cell 2 (.int .i64 y)).range (L := w.heap.size) (H := w2.heap.size + 1) (by omega) (by omega)) (by omega))
      have x0 : w8.cell? ⟨w.heap.size, 0, none⟩ = some _ := (BX8.2 0 _ rfl).1
      have x1 : w8.cell? ⟨w.heap.size, 1, none⟩ = some _ := (BX8.2 1 _ rfl).1
      have x2 : w8.cell? ⟨w.heap.size, 2, none⟩ = some _ := (BX8.2 2 _ rfl).1
      have x3 : w8.cell? ⟨w.heap.size, 3, none⟩ = some _ := (BX8.2 3 _ rfl).1
      have g0 := (BX8.2 0 _ rfl).2
      have g1 := (BX8.2 1 _ rfl).2
      have g2 := (BX8.2 2 _ rfl).2
      have g3 := (BX8.2 3 _ rfl).2
      have u0 : w8.cell? ⟨w2.heap.size, 0, none⟩ = some _ := (BQ8.2 0 _ rfl).1
      have u1 : w8.cell? ⟨w2.heap.size, 1, none⟩ = some _ := (BQ8.2 1 _ rfl).1
      have u2 : w8.cell? ⟨w2.heap.size, 2, none⟩ = some _ := (BQ8.2 2 _ rfl).1
      have u3 : w8.cell? ⟨w2.heap.size, 3, none⟩ = some _ := (BQ8.2 3 _ rfl).1
      have h0 := (BQ8.2 0 _ rfl).2
      have h1 := (BQ8.2 1 _ rfl).2
      have h2 := (BQ8.2 2 _ rfl).2
      have h3 := (BQ8.2 3 _ rfl).2
      have t0 := (BQ9.2 0 _ rfl).1
      have t1 := (BQ9.2 1 _ rfl).1
      have t2 := (BQ9.2 2 _ rfl).1
      have t3 := (BQ9.2 3 _ rfl).1
      have s8 := BX8.1
      have s9 := BQ8.1
      clear q0 q1 q2 q3
      have e0 := (BX9.2 0 _ rfl).1
      have e1 := ((BX9.set 0 (.int .i64 1)).2 1 _ rfl).1
      have e2 := (((BX9.set 0 (.int .i64 1)).set 1 (.int .i64 T)).2 2 _ rfl).1
      have e3 := ((((BX9.set 0 (.int .i64 1)).set 1 (.int .i64 T)).set 2 (.int .i64 y)).2 3 _ rfl).1
      have k0 := (((((BX9.set 0 (.int .i64 1)).set 1 (.int .i64 T)).set 2 (.int .i64 y)).set 3 (.slice a2 m4 c)).2 0 _ rfl).1
      have k1 := (((((BX9.set 0 (.int .i64 1)).set 1 (.int .i64 T)).set 2 (.int .i64 y)).set 3 (.slice a2 m4 c)).2 1 _ rfl).1
      have k2 := (((((BX9.set 0 (.int .i64 1)).set 1 (.int .i64 T)).set 2 (.int .i64 y)).set 3 (.slice a2 m4 c)).2 2 _ rfl).1
      have k3 := (((((BX9.set 0 (.int .i64 1)).set 1 (.int .i64 T)).set 2 (.int .i64 y)).set 3 (.slice a2 m4 c)).2 3 _ rfl).1
      go_wp2_with fail
      refine bodyPost_ret (by simp [results, Tryz.results25, go_sem, k0, k1, k2, k3]; try rfl) rfl ?_
      exact ⟨_, _, _, a2, m4, c, l, k + 1 + 1 + 1 + m4 + 1 + 1, rfl, (((HF9).mvR ((((((Mv.refl w.heap.size _).cell 0 (.int .i64 1)).cell 1 (.int .i64 T)).cell 2 (.int .i64 y)).cell 3 (.slice a2 m4 c)).range (L := w.heap.size) (H := w.heap.size + 1) (Nat.le_refl _) (by omega)) (by omega)).low (by omega)), (by first | exact Nat.le_refl _ | exact hc), (by first | exact Nat.zero_le _ | omega), ((((HR9.out.put hp 0 (.int .i64 1)).put hp 1 (.int .i64 T)).put hp 2 (.int .i64 y)).put hp 3 (.slice a2 m4 c)), by omega, ((((HM9.out.put (Nat.le_refl _) 0 (.int .i64 1)).put (Nat.le_refl _) 1 (.int .i64 T)).put (Nat.le_refl _) 2 (.int .i64 y)).put (Nat.le_refl _) 3 (.slice a2 m4 c))⟩
    · skip
      have z0b : (z == 0) = false := by simp [z0]
      have z1b : (z == 1) = false := by simp [z1]
      have z2b : (z == 2) = false := by simp [z2]
      clear z0 z1 z2
      have x0 : w7.cell? ⟨w.heap.size, 0, none⟩ = some _ := (BX7.out.2 0 _ rfl).1
      have x1 : w7.cell? ⟨w.heap.size, 1, none⟩ = some _ := (BX7.out.2 1 _ rfl).1
      have x2 : w7.cell? ⟨w.heap.size, 2, none⟩ = some _ := (BX7.out.2 2 _ rfl).1
      have x3 : w7.cell? ⟨w.heap.size, 3, none⟩ = some _ := (BX7.out.2 3 _ rfl).1
      have g0 := (BX7.out.2 0 _ rfl).2
      have g1 := (BX7.out.2 1 _ rfl).2
      have g2 := (BX7.out.2 2 _ rfl).2
      have g3 := (BX7.out.2 3 _ rfl).2
      have q0 : w7.cell? ⟨w2.heap.size, 0, none⟩ = some _ := (BQ7.out.2 0 _ rfl).1
      have q1 : w7.cell? ⟨w2.heap.size, 1, none⟩ = some _ := (BQ7.out.2 1 _ rfl).1
      have q2 : w7.cell? ⟨w2.heap.size, 2, none⟩ = some _ := (BQ7.out.2 2 _ rfl).1
      have q3 : w7.cell? ⟨w2.heap.size, 3, none⟩ = some _ := (BQ7.out.2 3 _ rfl).1
      have s8 := BX7.out.1
      have s9 := BQ7.out.1
      have e0 := (BX7.out.2 0 _ rfl).1
      have e1 := ((BX7.out.set 0 (.int .i64 1)).2 1 _ rfl).1
      have e2 := (((BX7.out.set 0 (.int .i64 1)).set 1 (.int .i64 T)).2 2 _ rfl).1
      have e3 := ((((BX7.out.set 0 (.int .i64 1)).set 1 (.int .i64 T)).set 2 (.int .i64 0)).2 3 _ rfl).1
      have k0 := (((((BX7.out.set 0 (.int .i64 1)).set 1 (.int .i64 T)).set 2 (.int .i64 0)).set 3 (.slice a2 m4 c)).2 0 _ rfl).1
      have k1 := (((((BX7.out.set 0 (.int .i64 1)).set 1 (.int .i64 T)).set 2 (.int .i64 0)).set 3 (.slice a2 m4 c)).2 1 _ rfl).1
      have k2 := (((((BX7.out.set 0 (.int .i64 1)).set 1 (.int .i64 T)).set 2 (.int .i64 0)).set 3 (.slice a2 m4 c)).2 2 _ rfl).1
      have k3 := (((((BX7.out.set 0 (.int .i64 1)).set 1 (.int .i64 T)).set 2 (.int .i64 0)).set 3 (.slice a2 m4 c)).2 3 _ rfl).1
      go_wp2_with fail
      refine bodyPost_ret (by simp [results, Tryz.results25, go_sem, k0, k1, k2, k3]; try rfl) rfl ?_
      exact ⟨_, _, _, a2, m4, c, l, k + 1 + 1 + 1 + m4 + 1, rfl, (((HF7.out).mvR ((((((Mv.refl w.heap.size _).cell 0 (.int .i64 1)).cell 1 (.int .i64 T)).cell 2 (.int .i64 0)).cell 3 (.slice a2 m4 c)).range (L := w.heap.size) (H := w.heap.size + 1) (Nat.le_refl _) (by omega)) (by omega)).low (by omega)), (by first | exact Nat.le_refl _ | exact hc), (by first | exact Nat.zero_le _ | omega), ((((HR7.out.put hp 0 (.int .i64 1)).put hp 1 (.int .i64 T)).put hp 2 (.int .i64 0)).put hp 3 (.slice a2 m4 c)), by omega, ((((HM7.out.put (Nat.le_refl _) 0 (.int .i64 1)).put (Nat.le_refl _) 1 (.int .i64 T)).put (Nat.le_refl _) 2 (.int .i64 0)).put (Nat.le_refl _) 3 (.slice a2 m4 c))⟩
  have h1b : (K == 1) = false := by simp [h1]
  by_cases h7 : K = 7
  · subst h7
    go_wp2_with fail
    rw [HW3.out]
    refine (one_at [0, 3, 40] 3 3 W3 _ p a n cap bs (k + 1 + 1) _ (by omega) HR3.out rfl (by omega) (by omega) (by simp [hs3]) rfl).mono ?_
    rintro e w5 ⟨M, rfl, hM, hr5, hm5⟩
    have BX5 := BX3.out.mv hm5 hr0'
    have BQ5 := BQ3.out.mv hm5 hq
    have BXA := hidOf (BX5.mv ((Mv.refl w2.heap.size w5).cell 2 (.int .i64 M)) hqr)
    have BQA := hidOf (BQ5.set 2 (.int .i64 M))
    have HMA := hidOf ((HM3.out.trans hm5).put (b := w2.heap.size) (by omega) 2 (.int .i64 M))
    have HRA := hidOf (hr5.put hpq 2 (.int .i64 M))
    have u0 : w5.cell? ⟨w2.heap.size, 0, none⟩ = some _ := (BQ5.2 0 _ rfl).1
    have u1 : w5.cell? ⟨w2.heap.size, 1, none⟩ = some _ := (BQ5.2 1 _ rfl).1
    have u2 : w5.cell? ⟨w2.heap.size, 2, none⟩ = some _ := (BQ5.2 2 _ rfl).1
    have u3 : w5.cell? ⟨w2.heap.size, 3, none⟩ = some _ := (BQ5.2 3 _ rfl).1
    have h0 := (BQ5.2 0 _ rfl).2
    have h1 := (BQ5.2 1 _ rfl).2
    have h2 := (BQ5.2 2 _ rfl).2
    have h3 := (BQ5.2 3 _ rfl).2
    have s5 := BQ5.1
    have t0 := (BQA.out.2 0 _ rfl).1
    have t1 := (BQA.out.2 1 _ rfl).1
    have t2 := (BQA.out.2 2 _ rfl).1
    have t3 := (BQA.out.2 3 _ rfl).1
    clear hM hr5 hm5 BX5 BQ5
    go_wp2_with fail
    skip
    refine (pick_mv p a n cap bs (k + 1 + 1 + 1) 10 _ (by omega) (by omega) HRA.out).mono ?_
    rintro e w7 ⟨z, rfl, hz0, _, hr7, hm7⟩
    have HR7 := hidOf hr7
    have HM7 := hidOf (HMA.out.trans hm7)
    have BX7 := hidOf (BXA.out.mv hm7 hr0')
    have BQ7 := hidOf (BQA.out.mv hm7 hq)
    clear hr7 hm7
    by_cases z0 : z = 0
    · subst z0
      have q0 : w7.cell? ⟨w2.heap.size, 0, none⟩ = some _ := (BQ7.out.2 0 _ rfl).1
      have q1 : w7.cell? ⟨w2.heap.size, 1, none⟩ = some _ := (BQ7.out.2 1 _ rfl).1
      have q2 : w7.cell? ⟨w2.heap.size, 2, none⟩ = some _ := (BQ7.out.2 2 _ rfl).1
      have q3 : w7.cell? ⟨w2.heap.size, 3, none⟩ = some _ := (BQ7.out.2 3 _ rfl).1
      have s7 := BQ7.out.1
      go_wp2_with fail
      refine (pick_mv p a n cap bs (k + 1 + 1 + 1 + 1) 12 _ (by omega) (by omega) HR7.out).mono ?_
      rintro e w8 ⟨y, rfl, hy0, hy1, hr8, hm8⟩
      have HR8 := hidOf hr8
      have HM8 := hidOf (HM7.out.trans hm8)
      have BX8 := BX7.out.mv hm8 hr0'
      have BQ8 := BQ7.out.mv hm8 hq
      have hy2 := hy1 (by decide)
      have p2 : IntKind.i64.wrap (y - 1) = y - 1 := IntWalk.i64_in _ ⟨by omega, by omega⟩
      clear hy1
      have BX9 := BX8.mv ((Mv.refl w2.heap.size w8).cell 0 (.int .i64 (y - 1))) hqr
      have BQ9 := BQ8.set 0 (.int .i64 (y - 1))
      have HM9 := hidOf (HM8.out.put (b := w2.heap.size) (by omega) 0 (.int .i64 (y - 1)))
      have HR9 := hidOf (HR8.out.put hpq 0 (.int .i64 (y - 1)))
      have x0 : w8.cell? ⟨w.heap.size, 0, none⟩ = some _ := (BX8.2 0 _ rfl).1
      have x1 : w8.cell? ⟨w.heap.size, 1, none⟩ = some _ := (BX8.2 1 _ rfl).1
      have x2 : w8.cell? ⟨w.heap.size, 2, none⟩ = some _ := (BX8.2 2 _ rfl).1
      have x3 : w8.cell? ⟨w.heap.size, 3, none⟩ = some _ := (BX8.2 3 _ rfl).1
      have g0 := (BX8.2 0 _ rfl).2
      have g1 := (BX8.2 1 _ rfl).2
      have g2 := (BX8.2 2 _ rfl).2
      have g3 := (BX8.2 3 _ rfl).2
      have u0 : w8.cell? ⟨w2.heap.size, 0, none⟩ = some _ := (BQ8.2 0 _ rfl).1
      have u1 : w8.cell? ⟨w2.heap.size, 1, none⟩ = some _ := (BQ8.2 1 _ rfl).1
      have u2 : w8.cell? ⟨w2.heap.size, 2, none⟩ = some _ := (BQ8.2 2 _ rfl).1
      have u3 : w8.cell? ⟨w2.heap.size, 3, none⟩ = some _ := (BQ8.2 3 _ rfl).1
      have h0 := (BQ8.2 0 _ rfl).2
      have h1 := (BQ8.2 1 _ rfl).2
      have h2 := (BQ8.2 2 _ rfl).2
      have h3 := (BQ8.2 3 _ rfl).2
      have t0 := (BQ9.2 0 _ rfl).1
      have t1 := (BQ9.2 1 _ rfl).1
      have t2 := (BQ9.2 2 _ rfl).1
      have t3 := (BQ9.2 3 _ rfl).1
      have s8 := BX8.1
      have s9 := BQ8.1
      clear q0 q1 q2 q3
      have e0 := (BX9.2 0 _ rfl).1
      have e1 := ((BX9.set 0 (.int .i64 (y - 1))).2 1 _ rfl).1
      have e2 := (((BX9.set 0 (.int .i64 (y - 1))).set 1 (.int .i64 T)).2 2 _ rfl).1
      have e3 := ((((BX9.set 0 (.int .i64 (y - 1))).set 1 (.int .i64 T)).set 2 (.int .i64 M)).2 3 _ rfl).1
      have k0 := (((((BX9.set 0 (.int .i64 (y - 1))).set 1 (.int .i64 T)).set 2 (.int .i64 M)).set 3 (.slice none 0 0)).2 0 _ rfl).1
      have k1 := (((((BX9.set 0 (.int .i64 (y - 1))).set 1 (.int .i64 T)).set 2 (.int .i64 M)).set 3 (.slice none 0 0)).2 1 _ rfl).1
      have k2 := (((((BX9.set 0 (.int .i64 (y - 1))).set 1 (.int .i64 T)).set 2 (.int .i64 M)).set 3 (.slice none 0 0)).2 2 _ rfl).1
      have k3 := (((((BX9.set 0 (.int .i64 (y - 1))).set 1 (.int .i64 T)).set 2 (.int .i64 M)).set 3 (.slice none 0 0)).2 3 _ rfl).1
      go_wp2_with fail
      refine bodyPost_ret (by simp [results, Tryz.results25, go_sem, k0, k1, k2, k3]; try rfl) rfl ?_
      exact ⟨_, _, _, none, 0, 0, [], k + 1 + 1 + 1 + 1 + 1, rfl, ⟨⟨rfl, .inl rfl⟩, .inl rfl⟩, (by first | exact Nat.le_refl _ | exact hc), (by first | exact Nat.zero_le _ | omega), ((((HR9.out.put hp 0 (.int .i64 (y - 1))).put hp 1 (.int .i64 T)).put hp 2 (.int .i64 M)).put hp 3 (.slice none 0 0)), by omega, ((((HM9.out.put (Nat.le_refl _) 0 (.int .i64 (y - 1))).put (Nat.le_refl _) 1 (.int .i64 T)).put (Nat.le_refl _) 2 (.int .i64 M)).put (Nat.le_refl _) 3 (.slice none 0 0))⟩
    by_cases z1 : z = 1
    · subst z1
      have q0 : w7.cell? ⟨w2.heap.size, 0, none⟩ = some _ := (BQ7.out.2 0 _ rfl).1
      have q1 : w7.cell? ⟨w2.heap.size, 1, none⟩ = some _ := (BQ7.out.2 1 _ rfl).1
      have q2 : w7.cell? ⟨w2.heap.size, 2, none⟩ = some _ := (BQ7.out.2 2 _ rfl).1
      have q3 : w7.cell? ⟨w2.heap.size, 3, none⟩ = some _ := (BQ7.out.2 3 _ rfl).1
      have s7 := BQ7.out.1
      go_wp2_with fail
      refine (one_at [-1, 1000000] 3 2 w7 _ p a n cap bs (k + 1 + 1 + 1 + 1) _ (by omega) HR7.out rfl (by omega) (by omega) rfl rfl).mono ?_
      rintro e w8 ⟨y, rfl, hy0, hr8, hm8⟩
      have HR8 := hidOf hr8
      have HM8 := hidOf (HM7.out.trans hm8)
      have BX8 := BX7.out.mv hm8 hr0'
      have BQ8 := BQ7.out.mv hm8 hq
      have BX9 := BX8.mv ((Mv.refl w2.heap.size w8).cell 1 (.int .i64 y)) hqr
      have BQ9 := BQ8.set 1 (.int .i64 y)
      have HM9 := hidOf (HM8.out.put (b := w2.heap.size) (by omega) 1 (.int .i64 y))
      have HR9 := hidOf (HR8.out.put hpq 1 (.int .i64 y))
      have x0 : w8.cell? ⟨w.heap.size, 0, none⟩ = some _ := (BX8.2 0 _ rfl).1
      have x1 : w8.cell? ⟨w.heap.size, 1, none⟩ = some _ := (BX8.2 1 _ rfl).1
      have x2 : w8.cell? ⟨w.heap.size, 2, none⟩ = some _ := (BX8.2 2 _ rfl).1
      have x3 : w8.cell? ⟨w.heap.size, 3, none⟩ = some _ := (BX8.2 3 _ rfl).1
      have g0 := (BX8.2 0 _ rfl).2
      have g1 := (BX8.2 1 _ rfl).2
      have g2 := (BX8.2 2 _ rfl).2
      have g3 := (BX8.2 3 _ rfl).2
      have u0 : w8.cell? ⟨w2.heap.size, 0, none⟩ = some _ := (BQ8.2 0 _ rfl).1
      have u1 : w8.cell? ⟨w2.heap.size, 1, none⟩ = some _ := (BQ8.2 1 _ rfl).1
      have u2 : w8.cell? ⟨w2.heap.size, 2, none⟩ = some _ := (BQ8.2 2 _ rfl).1
      have u3 : w8.cell? ⟨w2.heap.size, 3, none⟩ = some _ := (BQ8.2 3 _ rfl).1
      have h0 := (BQ8.2 0 _ rfl).2
      have h1 := (BQ8.2 1 _ rfl).2
      have h2 := (BQ8.2 2 _ rfl).2
      have h3 := (BQ8.2 3 _ rfl).2
      have t0 := (BQ9.2 0 _ rfl).1
      have t1 := (BQ9.2 1 _ rfl).1
      have t2 := (BQ9.2 2 _ rfl).1
      have t3 := (BQ9.2 3 _ rfl).1
      have s8 := BX8.1
      have s9 := BQ8.1
      clear q0 q1 q2 q3
      have e0 := (BX9.2 0 _ rfl).1
      have e1 := ((BX9.set 0 (.int .i64 7)).2 1 _ rfl).1
      have e2 := (((BX9.set 0 (.int .i64 7)).set 1 (.int .i64 y)).2 2 _ rfl).1
      have e3 := ((((BX9.set 0 (.int .i64 7)).set 1 (.int .i64 y)).set 2 (.int .i64 M)).2 3 _ rfl).1
      have k0 := (((((BX9.set 0 (.int .i64 7)).set 1 (.int .i64 y)).set 2 (.int .i64 M)).set 3 (.slice none 0 0)).2 0 _ rfl).1
      have k1 := (((((BX9.set 0 (.int .i64 7)).set 1 (.int .i64 y)).set 2 (.int .i64 M)).set 3 (.slice none 0 0)).2 1 _ rfl).1
      have k2 := (((((BX9.set 0 (.int .i64 7)).set 1 (.int .i64 y)).set 2 (.int .i64 M)).set 3 (.slice none 0 0)).2 2 _ rfl).1
      have k3 := (((((BX9.set 0 (.int .i64 7)).set 1 (.int .i64 y)).set 2 (.int .i64 M)).set 3 (.slice none 0 0)).2 3 _ rfl).1
      go_wp2_with fail
      refine bodyPost_ret (by simp [results, Tryz.results25, go_sem, k0, k1, k2, k3]; try rfl) rfl ?_
      exact ⟨_, _, _, none, 0, 0, [], k + 1 + 1 + 1 + 1 + 1, rfl, ⟨⟨rfl, .inl rfl⟩, .inl rfl⟩, (by first | exact Nat.le_refl _ | exact hc), (by first | exact Nat.zero_le _ | omega), ((((HR9.out.put hp 0 (.int .i64 7)).put hp 1 (.int .i64 y)).put hp 2 (.int .i64 M)).put hp 3 (.slice none 0 0)), by omega, ((((HM9.out.put (Nat.le_refl _) 0 (.int .i64 7)).put (Nat.le_refl _) 1 (.int .i64 y)).put (Nat.le_refl _) 2 (.int .i64 M)).put (Nat.le_refl _) 3 (.slice none 0 0))⟩
    by_cases z2 : z = 2
    · subst z2
      have q0 : w7.cell? ⟨w2.heap.size, 0, none⟩ = some _ := (BQ7.out.2 0 _ rfl).1
      have q1 : w7.cell? ⟨w2.heap.size, 1, none⟩ = some _ := (BQ7.out.2 1 _ rfl).1
      have q2 : w7.cell? ⟨w2.heap.size, 2, none⟩ = some _ := (BQ7.out.2 2 _ rfl).1
      have q3 : w7.cell? ⟨w2.heap.size, 3, none⟩ = some _ := (BQ7.out.2 3 _ rfl).1
      have s7 := BQ7.out.1
      go_wp2_with fail
      refine (one_at [-1, 5] 3 2 w7 _ p a n cap bs (k + 1 + 1 + 1 + 1) _ (by omega) HR7.out rfl (by omega) (by omega) rfl rfl).mono ?_
      rintro e w8 ⟨y, rfl, hy0, hr8, hm8⟩
      have HR8 := hidOf hr8
      have HM8 := hidOf (HM7.out.trans hm8)
      have BX8 := BX7.out.mv hm8 hr0'
      have BQ8 := BQ7.out.mv hm8 hq
      have BX9 := BX8.mv ((Mv.refl w2.heap.size w8).cell 2 (.int .i64 y)) hqr
      have BQ9 := BQ8.set 2 (.int .i64 y)
      have HM9 := hidOf (HM8.out.put (b := w2.heap.size) (by omega) 2 (.int .i64 y))
      have HR9 := hidOf (HR8.out.put hpq 2 (.int .i64 y))
      have x0 : w8.cell? ⟨w.heap.size, 0, none⟩ = some _ := (BX8.2 0 _ rfl).1
      have x1 : w8.cell? ⟨w.heap.size, 1, none⟩ = some _ := (BX8.2 1 _ rfl).1
      have x2 : w8.cell? ⟨w.heap.size, 2, none⟩ = some _ := (BX8.2 2 _ rfl).1
      have x3 : w8.cell? ⟨w.heap.size, 3, none⟩ = some _ := (BX8.2 3 _ rfl).1
      have g0 := (BX8.2 0 _ rfl).2
      have g1 := (BX8.2 1 _ rfl).2
      have g2 := (BX8.2 2 _ rfl).2
      have g3 := (BX8.2 3 _ rfl).2
      have u0 : w8.cell? ⟨w2.heap.size, 0, none⟩ = some _ := (BQ8.2 0 _ rfl).1
      have u1 : w8.cell? ⟨w2.heap.size, 1, none⟩ = some _ := (BQ8.2 1 _ rfl).1
      have u2 : w8.cell? ⟨w2.heap.size, 2, none⟩ = some _ := (BQ8.2 2 _ rfl).1
      have u3 : w8.cell? ⟨w2.heap.size, 3, none⟩ = some _ := (BQ8.2 3 _ rfl).1
      have h0 := (BQ8.2 0 _ rfl).2
      have h1 := (BQ8.2 1 _ rfl).2
      have h2 := (BQ8.2 2 _ rfl).2
      have h3 := (BQ8.2 3 _ rfl).2
      have t0 := (BQ9.2 0 _ rfl).1
      have t1 := (BQ9.2 1 _ rfl).1
      have t2 := (BQ9.2 2 _ rfl).1
      have t3 := (BQ9.2 3 _ rfl).1
      have s8 := BX8.1
      have s9 := BQ8.1
      clear q0 q1 q2 q3
      have e0 := (BX9.2 0 _ rfl).1
      have e1 := ((BX9.set 0 (.int .i64 7)).2 1 _ rfl).1
      have e2 := (((BX9.set 0 (.int .i64 7)).set 1 (.int .i64 T)).2 2 _ rfl).1
      have e3 := ((((BX9.set 0 (.int .i64 7)).set 1 (.int .i64 T)).set 2 (.int .i64 y)).2 3 _ rfl).1
      have k0 := (((((BX9.set 0 (.int .i64 7)).set 1 (.int .i64 T)).set 2 (.int .i64 y)).set 3 (.slice none 0 0)).2 0 _ rfl).1
      have k1 := (((((BX9.set 0 (.int .i64 7)).set 1 (.int .i64 T)).set 2 (.int .i64 y)).set 3 (.slice none 0 0)).2 1 _ rfl).1
      have k2 := (((((BX9.set 0 (.int .i64 7)).set 1 (.int .i64 T)).set 2 (.int .i64 y)).set 3 (.slice none 0 0)).2 2 _ rfl).1
      have k3 := (((((BX9.set 0 (.int .i64 7)).set 1 (.int .i64 T)).set 2 (.int .i64 y)).set 3 (.slice none 0 0)).2 3 _ rfl).1
      go_wp2_with fail
      refine bodyPost_ret (by simp [results, Tryz.results25, go_sem, k0, k1, k2, k3]; try rfl) rfl ?_
      exact ⟨_, _, _, none, 0, 0, [], k + 1 + 1 + 1 + 1 + 1, rfl, ⟨⟨rfl, .inl rfl⟩, .inl rfl⟩, (by first | exact Nat.le_refl _ | exact hc), (by first | exact Nat.zero_le _ | omega), ((((HR9.out.put hp 0 (.int .i64 7)).put hp 1 (.int .i64 T)).put hp 2 (.int .i64 y)).put hp 3 (.slice none 0 0)), by omega, ((((HM9.out.put (Nat.le_refl _) 0 (.int .i64 7)).put (Nat.le_refl _) 1 (.int .i64 T)).put (Nat.le_refl _) 2 (.int .i64 y)).put (Nat.le_refl _) 3 (.slice none 0 0))⟩
    · skip
      have z0b : (z == 0) = false := by simp [z0]
      have z1b : (z == 1) = false := by simp [z1]
      have z2b : (z == 2) = false := by simp [z2]
      clear z0 z1 z2
      have x0 : w7.cell? ⟨w.heap.size, 0, none⟩ = some _ := (BX7.out.2 0 _ rfl).1
      have x1 : w7.cell? ⟨w.heap.size, 1, none⟩ = some _ := (BX7.out.2 1 _ rfl).1
      have x2 : w7.cell? ⟨w.heap.size, 2, none⟩ = some _ := (BX7.out.2 2 _ rfl).1
      have x3 : w7.cell? ⟨w.heap.size, 3, none⟩ = some _ := (BX7.out.2 3 _ rfl).1
      have g0 := (BX7.out.2 0 _ rfl).2
      have g1 := (BX7.out.2 1 _ rfl).2
      have g2 := (BX7.out.2 2 _ rfl).2
      have g3 := (BX7.out.2 3 _ rfl).2
      have q0 : w7.cell? ⟨w2.heap.size, 0, none⟩ = some _ := (BQ7.out.2 0 _ rfl).1
      have q1 : w7.cell? ⟨w2.heap.size, 1, none⟩ = some _ := (BQ7.out.2 1 _ rfl).1
      have q2 : w7.cell? ⟨w2.heap.size, 2, none⟩ = some _ := (BQ7.out.2 2 _ rfl).1
      have q3 : w7.cell? ⟨w2.heap.size, 3, none⟩ = some _ := (BQ7.out.2 3 _ rfl).1
      have s8 := BX7.out.1
      have s9 := BQ7.out.1
      have e0 := (BX7.out.2 0 _ rfl).1
      have e1 := ((BX7.out.set 0 (.int .i64 7)).2 1 _ rfl).1
      have e2 := (((BX7.out.set 0 (.int .i64 7)).set 1 (.int .i64 T)).2 2 _ rfl).1
      have e3 := ((((BX7.out.set 0 (.int .i64 7)).set 1 (.int .i64 T)).set 2 (.int .i64 M)).2 3 _ rfl).1
      have k0 := (((((BX7.out.set 0 (.int .i64 7)).set 1 (.int .i64 T)).set 2 (.int .i64 M)).set 3 (.slice none 0 0)).2 0 _ rfl).1
      have k1 := (((((BX7.out.set 0 (.int .i64 7)).set 1 (.int .i64 T)).set 2 (.int .i64 M)).set 3 (.slice none 0 0)).2 1 _ rfl).1
      have k2 := (((((BX7.out.set 0 (.int .i64 7)).set 1 (.int .i64 T)).set 2 (.int .i64 M)).set 3 (.slice none 0 0)).2 2 _ rfl).1
      have k3 := (((((BX7.out.set 0 (.int .i64 7)).set 1 (.int .i64 T)).set 2 (.int .i64 M)).set 3 (.slice none 0 0)).2 3 _ rfl).1
      go_wp2_with fail
      refine bodyPost_ret (by simp [results, Tryz.results25, go_sem, k0, k1, k2, k3]; try rfl) rfl ?_
      exact ⟨_, _, _, none, 0, 0, [], k + 1 + 1 + 1 + 1, rfl, ⟨⟨rfl, .inl rfl⟩, .inl rfl⟩, (by first | exact Nat.le_refl _ | exact hc), (by first | exact Nat.zero_le _ | omega), ((((HR7.out.put hp 0 (.int .i64 7)).put hp 1 (.int .i64 T)).put hp 2 (.int .i64 M)).put hp 3 (.slice none 0 0)), by omega, ((((HM7.out.put (Nat.le_refl _) 0 (.int .i64 7)).put (Nat.le_refl _) 1 (.int .i64 T)).put (Nat.le_refl _) 2 (.int .i64 M)).put (Nat.le_refl _) 3 (.slice none 0 0))⟩
  · have h7b : (K == 7) = false := by simp [h7]
    go_wp2_with fail
    rw [HW3.out]
    refine (pick_mv p a n cap bs (k + 1 + 1) 10 _ (by omega) (by omega) HR3.out).mono ?_
    rintro e w7 ⟨z, rfl, hz0, _, hr7, hm7⟩
    have HR7 := hidOf hr7
    have HM7 := hidOf (HM3.out.trans hm7)
    have BX7 := hidOf (BX3.out.mv hm7 hr0')
    have BQ7 := hidOf (BQ3.out.mv hm7 hq)
    clear hr7 hm7
    by_cases z0 : z = 0
    · subst z0
      have q0 : w7.cell? ⟨w2.heap.size, 0, none⟩ = some _ := (BQ7.out.2 0 _ rfl).1
      have q1 : w7.cell? ⟨w2.heap.size, 1, none⟩ = some _ := (BQ7.out.2 1 _ rfl).1
      have q2 : w7.cell? ⟨w2.heap.size, 2, none⟩ = some _ := (BQ7.out.2 2 _ rfl).1
      have q3 : w7.cell? ⟨w2.heap.size, 3, none⟩ = some _ := (BQ7.out.2 3 _ rfl).1
      have s7 := BQ7.out.1
      go_wp2_with fail
      refine (pick_mv p a n cap bs (k + 1 + 1 + 1) 12 _ (by omega) (by omega) HR7.out).mono ?_
      rintro e w8 ⟨y, rfl, hy0, hy1, hr8, hm8⟩
      have HR8 := hidOf hr8
      have HM8 := hidOf (HM7.out.trans hm8)
      have BX8 := BX7.out.mv hm8 hr0'
      have BQ8 := BQ7.out.mv hm8 hq
      have hy2 := hy1 (by decide)
      have p2 : IntKind.i64.wrap (y - 1) = y - 1 := IntWalk.i64_in _ ⟨by omega, by omega⟩
      clear hy1
      have BX9 := BX8.mv ((Mv.refl w2.heap.size w8).cell 0 (.int .i64 (y - 1))) hqr
      have BQ9 := BQ8.set 0 (.int .i64 (y - 1))
      have HM9 := hidOf (HM8.out.put (b := w2.heap.size) (by omega) 0 (.int .i64 (y - 1)))
      have HR9 := hidOf (HR8.out.put hpq 0 (.int .i64 (y - 1)))
      have x0 : w8.cell? ⟨w.heap.size, 0, none⟩ = some _ := (BX8.2 0 _ rfl).1
      have x1 : w8.cell? ⟨w.heap.size, 1, none⟩ = some _ := (BX8.2 1 _ rfl).1
      have x2 : w8.cell? ⟨w.heap.size, 2, none⟩ = some _ := (BX8.2 2 _ rfl).1
      have x3 : w8.cell? ⟨w.heap.size, 3, none⟩ = some _ := (BX8.2 3 _ rfl).1
      have g0 := (BX8.2 0 _ rfl).2
      have g1 := (BX8.2 1 _ rfl).2
      have g2 := (BX8.2 2 _ rfl).2
      have g3 := (BX8.2 3 _ rfl).2
      have u0 : w8.cell? ⟨w2.heap.size, 0, none⟩ = some _ := (BQ8.2 0 _ rfl).1
      have u1 : w8.cell? ⟨w2.heap.size, 1, none⟩ = some _ := (BQ8.2 1 _ rfl).1
      have u2 : w8.cell? ⟨w2.heap.size, 2, none⟩ = some _ := (BQ8.2 2 _ rfl).1
      have u3 : w8.cell? ⟨w2.heap.size, 3, none⟩ = some _ := (BQ8.2 3 _ rfl).1
      have h0 := (BQ8.2 0 _ rfl).2
      have h1 := (BQ8.2 1 _ rfl).2
      have h2 := (BQ8.2 2 _ rfl).2
      have h3 := (BQ8.2 3 _ rfl).2
      have t0 := (BQ9.2 0 _ rfl).1
      have t1 := (BQ9.2 1 _ rfl).1
      have t2 := (BQ9.2 2 _ rfl).1
      have t3 := (BQ9.2 3 _ rfl).1
      have s8 := BX8.1
      have s9 := BQ8.1
      clear q0 q1 q2 q3
      have e0 := (BX9.2 0 _ rfl).1
      have e1 := ((BX9.set 0 (.int .i64 (y - 1))).2 1 _ rfl).1
      have e2 := (((BX9.set 0 (.int .i64 (y - 1))).set 1 (.int .i64 T)).2 2 _ rfl).1
      have e3 := ((((BX9.set 0 (.int .i64 (y - 1))).set 1 (.int .i64 T)).set 2 (.int .i64 0)).2 3 _ rfl).1
      have k0 := (((((BX9.set 0 (.int .i64 (y - 1))).set 1 (.int .i64 T)).set 2 (.int .i64 0)).set 3 (.slice none 0 0)).2 0 _ rfl).1
      have k1 := (((((BX9.set 0 (.int .i64 (y - 1))).set 1 (.int .i64 T)).set 2 (.int .i64 0)).set 3 (.slice none 0 0)).2 1 _ rfl).1
      have k2 := (((((BX9.set 0 (.int .i64 (y - 1))).set 1 (.int .i64 T)).set 2 (.int .i64 0)).set 3 (.slice none 0 0)).2 2 _ rfl).1
      have k3 := (((((BX9.set 0 (.int .i64 (y - 1))).set 1 (.int .i64 T)).set 2 (.int .i64 0)).set 3 (.slice none 0 0)).2 3 _ rfl).1
      go_wp2_with fail
      refine bodyPost_ret (by simp [results, Tryz.results25, go_sem, k0, k1, k2, k3]; try rfl) rfl ?_
      exact ⟨_, _, _, none, 0, 0, [], k + 1 + 1 + 1 + 1, rfl, ⟨⟨rfl, .inl rfl⟩, .inl rfl⟩, (by first | exact Nat.le_refl _ | exact hc), (by first | exact Nat.zero_le _ | omega), ((((HR9.out.put hp 0 (.int .i64 (y - 1))).put hp 1 (.int .i64 T)).put hp 2 (.int .i64 0)).put hp 3 (.slice none 0 0)), by omega, ((((HM9.out.put (Nat.le_refl _) 0 (.int .i64 (y - 1))).put (Nat.le_refl _) 1 (.int .i64 T)).put (Nat.le_refl _) 2 (.int .i64 0)).put (Nat.le_refl _) 3 (.slice none 0 0))⟩
    by_cases z1 : z = 1
    · subst z1
      have q0 : w7.cell? ⟨w2.heap.size, 0, none⟩ = some _ := (BQ7.out.2 0 _ rfl).1
      have q1 : w7.cell? ⟨w2.heap.size, 1, none⟩ = some _ := (BQ7.out.2 1 _ rfl).1
      have q2 : w7.cell? ⟨w2.heap.size, 2, none⟩ = some _ := (BQ7.out.2 2 _ rfl).1
      have q3 : w7.cell? ⟨w2.heap.size, 3, none⟩ = some _ := (BQ7.out.2 3 _ rfl).1
      have s7 := BQ7.out.1
      go_wp2_with fail
      refine (one_at [-1, 1000000] 3 2 w7 _ p a n cap bs (k + 1 + 1 + 1) _ (by omega) HR7.out rfl (by omega) (by omega) rfl rfl).mono ?_
      rintro e w8 ⟨y, rfl, hy0, hr8, hm8⟩
      have HR8 := hidOf hr8
      have HM8 := hidOf (HM7.out.trans hm8)
      have BX8 := BX7.out.mv hm8 hr0'
      have BQ8 := BQ7.out.mv hm8 hq
      have BX9 := BX8.mv ((Mv.refl w2.heap.size w8).cell 1 (.int .i64 y)) hqr
      have BQ9 := BQ8.set 1 (.int .i64 y)
      have HM9 := hidOf (HM8.out.put (b := w2.heap.size) (by omega) 1 (.int .i64 y))
      have HR9 := hidOf (HR8.out.put hpq 1 (.int .i64 y))
      have x0 : w8.cell? ⟨w.heap.size, 0, none⟩ = some _ := (BX8.2 0 _ rfl).1
      have x1 : w8.cell? ⟨w.heap.size, 1, none⟩ = some _ := (BX8.2 1 _ rfl).1
      have x2 : w8.cell? ⟨w.heap.size, 2, none⟩ = some _ := (BX8.2 2 _ rfl).1
      have x3 : w8.cell? ⟨w.heap.size, 3, none⟩ = some _ := (BX8.2 3 _ rfl).1
      have g0 := (BX8.2 0 _ rfl).2
      have g1 := (BX8.2 1 _ rfl).2
      have g2 := (BX8.2 2 _ rfl).2
      have g3 := (BX8.2 3 _ rfl).2
      have u0 : w8.cell? ⟨w2.heap.size, 0, none⟩ = some _ := (BQ8.2 0 _ rfl).1
      have u1 : w8.cell? ⟨w2.heap.size, 1, none⟩ = some _ := (BQ8.2 1 _ rfl).1
      have u2 : w8.cell? ⟨w2.heap.size, 2, none⟩ = some _ := (BQ8.2 2 _ rfl).1
      have u3 : w8.cell? ⟨w2.heap.size, 3, none⟩ = some _ := (BQ8.2 3 _ rfl).1
      have h0 := (BQ8.2 0 _ rfl).2
      have h1 := (BQ8.2 1 _ rfl).2
      have h2 := (BQ8.2 2 _ rfl).2
      have h3 := (BQ8.2 3 _ rfl).2
      have t0 := (BQ9.2 0 _ rfl).1
      have t1 := (BQ9.2 1 _ rfl).1
      have t2 := (BQ9.2 2 _ rfl).1
      have t3 := (BQ9.2 3 _ rfl).1
      have s8 := BX8.1
      have s9 := BQ8.1
      clear q0 q1 q2 q3
      have e0 := (BX9.2 0 _ rfl).1
      have e1 := ((BX9.set 0 (.int .i64 K)).2 1 _ rfl).1
      have e2 := (((BX9.set 0 (.int .i64 K)).set 1 (.int .i64 y)).2 2 _ rfl).1
      have e3 := ((((BX9.set 0 (.int .i64 K)).set 1 (.int .i64 y)).set 2 (.int .i64 0)).2 3 _ rfl).1
      have k0 := (((((BX9.set 0 (.int .i64 K)).set 1 (.int .i64 y)).set 2 (.int .i64 0)).set 3 (.slice none 0 0)).2 0 _ rfl).1
      have k1 := (((((BX9.set 0 (.int .i64 K)).set 1 (.int .i64 y)).set 2 (.int .i64 0)).set 3 (.slice none 0 0)).2 1 _ rfl).1
      have k2 := (((((BX9.set 0 (.int .i64 K)).set 1 (.int .i64 y)).set 2 (.int .i64 0)).set 3 (.slice none 0 0)).2 2 _ rfl).1
      have k3 := (((((BX9.set 0 (.int .i64 K)).set 1 (.int .i64 y)).set 2 (.int .i64 0)).set 3 (.slice none 0 0)).2 3 _ rfl).1
      go_wp2_with fail
      refine bodyPost_ret (by simp [results, Tryz.results25, go_sem, k0, k1, k2, k3]; try rfl) rfl ?_
      exact ⟨_, _, _, none, 0, 0, [], k + 1 + 1 + 1 + 1, rfl, ⟨⟨rfl, .inl rfl⟩, .inl rfl⟩, (by first | exact Nat.le_refl _ | exact hc), (by first | exact Nat.zero_le _ | omega), ((((HR9.out.put hp 0 (.int .i64 K)).put hp 1 (.int .i64 y)).put hp 2 (.int .i64 0)).put hp 3 (.slice none 0 0)), by omega, ((((HM9.out.put (Nat.le_refl _) 0 (.int .i64 K)).put (Nat.le_refl _) 1 (.int .i64 y)).put (Nat.le_refl _) 2 (.int .i64 0)).put (Nat.le_refl _) 3 (.slice none 0 0))⟩
    by_cases z2 : z = 2
    · subst z2
      have q0 : w7.cell? ⟨w2.heap.size, 0, none⟩ = some _ := (BQ7.out.2 0 _ rfl).1
      have q1 : w7.cell? ⟨w2.heap.size, 1, none⟩ = some _ := (BQ7.out.2 1 _ rfl).1
      have q2 : w7.cell? ⟨w2.heap.size, 2, none⟩ = some _ := (BQ7.out.2 2 _ rfl).1
      have q3 : w7.cell? ⟨w2.heap.size, 3, none⟩ = some _ := (BQ7.out.2 3 _ rfl).1
      have s7 := BQ7.out.1
      go_wp2_with fail
      refine (one_at [-1, 5] 3 2 w7 _ p a n cap bs (k + 1 + 1 + 1) _ (by omega) HR7.out rfl (by omega) (by omega) rfl rfl).mono ?_
      rintro e w8 ⟨y, rfl, hy0, hr8, hm8⟩
      have HR8 := hidOf hr8
      have HM8 := hidOf (HM7.out.trans hm8)
      have BX8 := BX7.out.mv hm8 hr0'
      have BQ8 := BQ7.out.mv hm8 hq
      have BX9 := BX8.mv ((Mv.refl w2.heap.size w8).cell 2 (.int .i64 y)) hqr
      have BQ9 := BQ8.set 2 (.int .i64 y)
      have HM9 := hidOf (HM8.out.put (b := w2.heap.size) (by omega) 2 (.int .i64 y))
      have HR9 := hidOf (HR8.out.put hpq 2 (.int .i64 y))
      have x0 : w8.cell? ⟨w.heap.size, 0, none⟩ = some _ := (BX8.2 0 _ rfl).1
      have x1 : w8.cell? ⟨w.heap.size, 1, none⟩ = some _ := (BX8.2 1 _ rfl).1
      have x2 : w8.cell? ⟨w.heap.size, 2, none⟩ = some _ := (BX8.2 2 _ rfl).1
      have x3 : w8.cell? ⟨w.heap.size, 3, none⟩ = some _ := (BX8.2 3 _ rfl).1
      have g0 := (BX8.2 0 _ rfl).2
      have g1 := (BX8.2 1 _ rfl).2
      have g2 := (BX8.2 2 _ rfl).2
      have g3 := (BX8.2 3 _ rfl).2
      have u0 : w8.cell? ⟨w2.heap.size, 0, none⟩ = some _ := (BQ8.2 0 _ rfl).1
      have u1 : w8.cell? ⟨w2.heap.size, 1, none⟩ = some _ := (BQ8.2 1 _ rfl).1
      have u2 : w8.cell? ⟨w2.heap.size, 2, none⟩ = some _ := (BQ8.2 2 _ rfl).1
      have u3 : w8.cell? ⟨w2.heap.size, 3, none⟩ = some _ := (BQ8.2 3 _ rfl).1
      have h0 := (BQ8.2 0 _ rfl).2
      have h1 := (BQ8.2 1 _ rfl).2
      have h2 := (BQ8.2 2 _ rfl).2
      have h3 := (BQ8.2 3 _ rfl).2
      have t0 := (BQ9.2 0 _ rfl).1
      have t1 := (BQ9.2 1 _ rfl).1
      have t2 := (BQ9.2 2 _ rfl).1
      have t3 := (BQ9.2 3 _ rfl).1
      have s8 := BX8.1
      have s9 := BQ8.1
      clear q0 q1 q2 q3
      have e0 := (BX9.2 0 _ rfl).1
      have e1 := ((BX9.set 0 (.int .i64 K)).2 1 _ rfl).1
      have e2 := (((BX9.set 0 (.int .i64 K)).set 1 (.int .i64 T)).2 2 _ rfl).1
      have e3 := ((((BX9.set 0 (.int .i64 K)).set 1 (.int .i64 T)).set 2 (.int .i64 y)).2 3 _ rfl).1
      have k0 := (((((BX9.set 0 (.int .i64 K)).set 1 (.int .i64 T)).set 2 (.int .i64 y)).set 3 (.slice none 0 0)).2 0 _ rfl).1
      have k1 := (((((BX9.set 0 (.int .i64 K)).set 1 (.int .i64 T)).set 2 (.int .i64 y)).set 3 (.slice none 0 0)).2 1 _ rfl).1
      have k2 := (((((BX9.set 0 (.int .i64 K)).set 1 (.int .i64 T)).set 2 (.int .i64 y)).set 3 (.slice none 0 0)).2 2 _ rfl).1
      have k3 := (((((BX9.set 0 (.int .i64 K)).set 1 (.int .i64 T)).set 2 (.int .i64 y)).set 3 (.slice none 0 0)).2 3 _ rfl).1
      go_wp2_with fail
      refine bodyPost_ret (by simp [results, Tryz.results25, go_sem, k0, k1, k2, k3]; try rfl) rfl ?_
      exact ⟨_, _, _, none, 0, 0, [], k + 1 + 1 + 1 + 1, rfl, ⟨⟨rfl, .inl rfl⟩, .inl rfl⟩, (by first | exact Nat.le_refl _ | exact hc), (by first | exact Nat.zero_le _ | omega), ((((HR9.out.put hp 0 (.int .i64 K)).put hp 1 (.int .i64 T)).put hp 2 (.int .i64 y)).put hp 3 (.slice none 0 0)), by omega, ((((HM9.out.put (Nat.le_refl _) 0 (.int .i64 K)).put (Nat.le_refl _) 1 (.int .i64 T)).put (Nat.le_refl _) 2 (.int .i64 y)).put (Nat.le_refl _) 3 (.slice none 0 0))⟩
    · skip
      have z0b : (z == 0) = false := by simp [z0]
      have z1b : (z == 1) = false := by simp [z1]
      have z2b : (z == 2) = false := by simp [z2]
      clear z0 z1 z2
      have x0 : w7.cell? ⟨w.heap.size, 0, none⟩ = some _ := (BX7.out.2 0 _ rfl).1
      have x1 : w7.cell? ⟨w.heap.size, 1, none⟩ = some _ := (BX7.out.2 1 _ rfl).1
      have x2 : w7.cell? ⟨w.heap.size, 2, none⟩ = some _ := (BX7.out.2 2 _ rfl).1
      have x3 : w7.cell? ⟨w.heap.size, 3, none⟩ = some _ := (BX7.out.2 3 _ rfl).1
      have g0 := (BX7.out.2 0 _ rfl).2
      have g1 := (BX7.out.2 1 _ rfl).2
      have g2 := (BX7.out.2 2 _ rfl).2
      have g3 := (BX7.out.2 3 _ rfl).2
      have q0 : w7.cell? ⟨w2.heap.size, 0, none⟩ = some _ := (BQ7.out.2 0 _ rfl).1
      have q1 : w7.cell? ⟨w2.heap.size, 1, none⟩ = some _ := (BQ7.out.2 1 _ rfl).1
      have q2 : w7.cell? ⟨w2.heap.size, 2, none⟩ = some _ := (BQ7.out.2 2 _ rfl).1
      have q3 : w7.cell? ⟨w2.heap.size, 3, none⟩ = some _ := (BQ7.out.2 3 _ rfl).1
      have s8 := BX7.out.1
      have s9 := BQ7.out.1
      have e0 := (BX7.out.2 0 _ rfl).1
      have e1 := ((BX7.out.set 0 (.int .i64 K)).2 1 _ rfl).1
      have e2 := (((BX7.out.set 0 (.int .i64 K)).set 1 (.int .i64 T)).2 2 _ rfl).1
      have e3 := ((((BX7.out.set 0 (.int .i64 K)).set 1 (.int .i64 T)).set 2 (.int .i64 0)).2 3 _ rfl).1
      have k0 := (((((BX7.out.set 0 (.int .i64 K)).set 1 (.int .i64 T)).set 2 (.int .i64 0)).set 3 (.slice none 0 0)).2 0 _ rfl).1
      have k1 := (((((BX7.out.set 0 (.int .i64 K)).set 1 (.int .i64 T)).set 2 (.int .i64 0)).set 3 (.slice none 0 0)).2 1 _ rfl).1
      have k2 := (((((BX7.out.set 0 (.int .i64 K)).set 1 (.int .i64 T)).set 2 (.int .i64 0)).set 3 (.slice none 0 0)).2 2 _ rfl).1
      have k3 := (((((BX7.out.set 0 (.int .i64 K)).set 1 (.int .i64 T)).set 2 (.int .i64 0)).set 3 (.slice none 0 0)).2 3 _ rfl).1
      go_wp2_with fail
      refine bodyPost_ret (by simp [results, Tryz.results25, go_sem, k0, k1, k2, k3]; try rfl) rfl ?_
      exact ⟨_, _, _, none, 0, 0, [], k + 1 + 1 + 1, rfl, ⟨⟨rfl, .inl rfl⟩, .inl rfl⟩, (by first | exact Nat.le_refl _ | exact hc), (by first | exact Nat.zero_le _ | omega), ((((HR7.out.put hp 0 (.int .i64 K)).put hp 1 (.int .i64 T)).put hp 2 (.int .i64 0)).put hp 3 (.slice none 0 0)), by omega, ((((HM7.out.put (Nat.le_refl _) 0 (.int .i64 K)).put (Nat.le_refl _) 1 (.int .i64 T)).put (Nat.le_refl _) 2 (.int .i64 0)).put (Nat.le_refl _) 3 (.slice none 0 0))⟩
end Go.Proofs.YtjmgfpldjccilaaGreatDoor
