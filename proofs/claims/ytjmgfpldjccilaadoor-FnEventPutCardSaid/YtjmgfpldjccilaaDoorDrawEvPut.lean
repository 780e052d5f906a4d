/- Events drawn out of a code of bytes. -/
import Derived.Test.YtjmgfpldjccilaaDoorDrawEv
import Derived.Test.YtjmgfpldjccilaaDoorCodes
import Derived.Test.YtjmgfpldjccilaaDoorBoxNew
import Derived.Test.YtjmgfpldjccilaaDoorMvR
namespace Go.Proofs.YtjmgfpldjccilaaDoor
open Go Go.RowKit Go.PlainAid
set_option linter.unusedSimpArgs false
set_option linter.unusedVariables false

theorem bytes_up {w w' : World} {a : Option Addr} {n : Nat} {l : List Int} (h : IsBytes w.heap.size w a n l) (hb : Below w.heap.size w w') : IsBytes w'.heap.size w' a n l := by
  obtain ⟨h1, h2⟩ := h
  refine ⟨h1, ?_⟩
  rcases h2 with h2 | ⟨b, off, he, hlt, h3⟩
  · exact .inl h2
  · exact .inr ⟨b, off, he, Nat.lt_of_lt_of_le hlt hb.size, fun i hi => ⟨(hb.cell (p := ⟨b, off + i, none⟩) hlt).trans (h3 i hi).1, (h3 i hi).2⟩⟩
set_option maxHeartbeats 6400000 in
set_option maxRecDepth 100000 in
theorem DrawEventPut_any (a0 : Option Addr) (n c : Nat) (bs : List Int) (w : World) (hc : n ≤ c) (hn : n ≤ 1048576) (hz : IsBytes w.heap.size w a0 n bs) :
    Calls Tryd.prog 7 #[.slice a0 n c] w fun e w' => ∃ (K T M : Int) (a2 : Option Addr) (n2 c2 : Nat) (l : List Int), e = .returned (.agg #[.int .i64 K, .int .i64 T, .int .i64 M, .slice a2 n2 c2]) ∧ FreeI w.heap.size w' a2 n2 l ∧ n2 ≤ c2 ∧ n2 ≤ 3 ∧ Below w.heap.size w w' := by
  obtain ⟨W0, hW0⟩ : ∃ W0, w.alloc (.cells #[.int .i64 0, .int .i64 0, .int .i64 0, .slice none 0 0] 25) = W0 := ⟨_, rfl⟩
  have hb0 : Below w.heap.size w W0 := by rw [← hW0]; exact (Below.refl _ _).alloc (Nat.le_refl _) _
  have hs0 : W0.heap.size = w.heap.size + 1 := by rw [← hW0]; simp
  have BX0 := hidOf (show BoxAt w.heap.size [.int .i64 0, .int .i64 0, .int .i64 0, .slice none 0 0] W0 by rw [← hW0]; exact boxAt_new w _ _)
  have HB0 := hidOf hb0
  have HS0 := hidOf hs0
  have HO := hidOf (l11Open_any a0 n c bs W0 hc hn (bytes_up hz hb0))
  have HW0 := hidOf hW0
  clear hz hb0 hs0 hW0
  go_enter Tryd.func7, Tryd.ntmps7
  go_wp2_with fail
  rw [HW0.out]
  refine HO.out.mono ?_
  rintro e w1 ⟨a', n', c', bs', rfl, hr, hb, hs⟩
  have HB := hidOf hb
  have BX1 := hidOf (BX0.out.below hb)
  have HE := hidOf (l31Event_any W0.heap.size a' n' c' bs' 0 w1 (by decide) hr)
  have hz1 := hb.size
  clear hr hb
  go_wp2_with fail
  refine HE.out.mono ?_
  rintro e w2 ⟨K, T, M, a2, n2, c2, l, k2, rfl, hf, hcc, hnn, hr2, hk2, hm2⟩
  have hs0 := HS0.out
  have hz2 := hm2.size
  have HF := hidOf (hf.low (B' := w.heap.size + 1) (by omega))
  have hbb : Below W0.heap.size W0 w2 := Mv.fresh HB.out hm2
  have HB2 := hidOf (HB0.out.trans (hbb.mono HB0.out.size))
  have BX2 := hidOf (BX0.out.below hbb)
  clear hf hr2 hm2 hbb
  have y0 : w2.cell? ⟨w.heap.size, 0, none⟩ = some _ := (BX2.out.2 0 _ rfl).1
  have h0 := (BX2.out.2 0 _ rfl).2
  have y1 : w2.cell? ⟨w.heap.size, 1, none⟩ = some _ := (BX2.out.2 1 _ rfl).1
  have h1 := (BX2.out.2 1 _ rfl).2
  have y2 : w2.cell? ⟨w.heap.size, 2, none⟩ = some _ := (BX2.out.2 2 _ rfl).1
  have h2 := (BX2.out.2 2 _ rfl).2
  have y3 : w2.cell? ⟨w.heap.size, 3, none⟩ = some _ := (BX2.out.2 3 _ rfl).1
  have h3 := (BX2.out.2 3 _ rfl).2
  have x0 := (BX2.out.2 0 _ rfl).1
  have x1 := ((BX2.out.set 0 (Value.int .i64 K)).2 1 _ rfl).1
  have x2 := (((BX2.out.set 0 (Value.int .i64 K)).set 1 (Value.int .i64 T)).2 2 _ rfl).1
  have x3 := ((((BX2.out.set 0 (Value.int .i64 K)).set 1 (Value.int .i64 T)).set 2 (Value.int .i64 M)).2 3 _ rfl).1
  have k0 := (((((BX2.out.set 0 (Value.int .i64 K)).set 1 (Value.int .i64 T)).set 2 (Value.int .i64 M)).set 3 (Value.slice a2 n2 c2)).2 0 _ rfl).1
  have k1 := (((((BX2.out.set 0 (Value.int .i64 K)).set 1 (Value.int .i64 T)).set 2 (Value.int .i64 M)).set 3 (Value.slice a2 n2 c2)).2 1 _ rfl).1
  have k2 := (((((BX2.out.set 0 (Value.int .i64 K)).set 1 (Value.int .i64 T)).set 2 (Value.int .i64 M)).set 3 (Value.slice a2 n2 c2)).2 2 _ rfl).1
  have k3 := (((((BX2.out.set 0 (Value.int .i64 K)).set 1 (Value.int .i64 T)).set 2 (Value.int .i64 M)).set 3 (Value.slice a2 n2 c2)).2 3 _ rfl).1
  have g0 := BX2.out.1
  go_wp2_with fail
  refine bodyPost_ret (by simp [results, Tryd.results7, go_sem, k0, k1, k2, k3]; try rfl) rfl ?_
  refine ⟨K, T, M, a2, n2, c2, l, rfl, (HF.out.mvR ((((((Mv.refl w.heap.size w2).cell 0 (.int .i64 K)).cell 1 (.int .i64 T)).cell 2 (.int .i64 M)).cell 3 (.slice a2 n2 c2)).range (L := w.heap.size) (H := w.heap.size + 1) (Nat.le_refl _) (by omega)) (Nat.le_refl _)).low (by omega), hcc, hnn, ?_⟩
  exact (((HB2.out.setCell (Nat.le_refl _) _).setCell (Nat.le_refl _) _).setCell (Nat.le_refl _) _).setCell (Nat.le_refl _) _
end Go.Proofs.YtjmgfpldjccilaaDoor
