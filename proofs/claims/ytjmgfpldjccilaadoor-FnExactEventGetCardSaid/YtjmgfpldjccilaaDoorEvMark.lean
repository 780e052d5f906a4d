/- The law's marks in an event, and what is held of them. -/
import Derived.Test.YtjmgfpldjccilaaDoorFlatEvent
import Derived.Test.YtjmgfpldjccilaaDoorFreeI
import Derived.Test.YtjmgfpldjccilaaDoorIntCopy
namespace Go.Proofs.YtjmgfpldjccilaaDoor
open Go Go.RowKit Go.PlainAid
set_option linter.unusedSimpArgs false
set_option linter.unusedVariables false

set_option maxHeartbeats 1600000 in
set_option maxRecDepth 100000 in
theorem markEvent_any (B H : Nat) (i0 i1 i2 : Int) (a : Option Addr) (n c : Nat) (l : List Int) (k : Int) (w : World) (h : FreeI B w a n l) (hu : ∀ b o, a = some ⟨b, o, none⟩ → n ≠ 0 → b < H) (hH : H ≤ w.heap.size) (hn : n ≤ 1000) (hk0 : 0 < k) (hk1 : k ≤ 1000) :
    Calls Tryd.prog 16 #[.agg #[.int .i64 i0, .int .i64 i1, .int .i64 i2, .slice a n c], .int .i64 k] w fun e w' => e = .returned (.int .i64 (k + n)) ∧ HeldI k w' a n ∧ MvR B H w w' := by
  have hb0 : Below w.heap.size w (w.alloc (.cells #[.int .i64 i0, .int .i64 i1, .int .i64 i2, .slice a n c] 25)) := (Below.refl _ _).alloc (Nat.le_refl _) _
  have HM := hidOf (markIntS_rng B H a n c l k _ (h.below hb0) hu (by omega) hk0 (by omega))
  have HB0 := hidOf (MvR.of_below (L := B) (H := H) hb0)
  clear h hb0 hu
  go_enter Tryd.func16, Tryd.ntmps16
  go_wp2_with fail
  refine HM.out.mono ?_
  rintro e w1 ⟨rfl, h1, h2⟩
  have H1 := hidOf h1
  have H2 := hidOf h2
  clear h1 h2
  go_wp2_with fail
  go_ret
  exact ⟨rfl, H1.out, HB0.out.trans H2.out⟩

set_option maxHeartbeats 1600000 in
set_option maxRecDepth 100000 in
theorem heldEvent_any (i0 i1 i2 : Int) (a : Option Addr) (n c : Nat) (k : Int) (w : World) (h : HeldI k w a n) (hn : n ≤ 1000) (hk0 : 0 < k) (hk1 : k ≤ 1000) :
    Calls Tryd.prog 17 #[.agg #[.int .i64 i0, .int .i64 i1, .int .i64 i2, .slice a n c], .int .i64 k] w fun e w' => e = .returned (.int .i64 (k + n)) ∧ Below w.heap.size w w' := by
  have hb0 : Below w.heap.size w (w.alloc (.cells #[.int .i64 i0, .int .i64 i1, .int .i64 i2, .slice a n c] 25)) := (Below.refl _ _).alloc (Nat.le_refl _) _
  have HM := hidOf (heldIntS_free a n c k _ (h.below hb0) (by omega) hk0 (by omega))
  have HB0 := hidOf hb0
  have hk2 : ¬ k + n < 0 := by omega
  clear h hb0
  go_enter Tryd.func17, Tryd.ntmps17
  go_wp2_with fail
  refine HM.out.mono ?_
  rintro e w1 ⟨rfl, h1⟩
  have H1 := hidOf (HB0.out.trans (h1.mono HB0.out.size))
  clear h1
  go_wp2_with fail
  go_ret
  exact ⟨rfl, H1.out⟩

theorem eqEvent_same (i0 i1 i2 : Int) (a a' : Option Addr) (n c c' : Nat) (l : List Int) (w : World) (hn : n ≤ 1048576) (hz : IsInts w.heap.size w a n l) (hz' : IsInts w.heap.size w a' n l) :
    Calls Tryd.prog 14 #[.agg #[.int .i64 i0, .int .i64 i1, .int .i64 i2, .slice a n c], .agg #[.int .i64 i0, .int .i64 i1, .int .i64 i2, .slice a' n c']] w fun e w' => e = .returned (.bool true) ∧ Below w.heap.size w w' :=
  eqEvent_gen i0 i1 i2 a n c a' n c' w fun W hb => eqIntS_same a a' n c c' l W hn (hz.up hb) (hz'.up hb)
end Go.Proofs.YtjmgfpldjccilaaDoor
