/- Drawn clocks. -/
import Derived.Test.YtlpdilmdhfemdaaDrawBt
namespace Go.Proofs.Ytlpdilmdhfemdaa
open Go Go.RowKit Go.PlainAid
set_option linter.unusedSimpArgs false
set_option linter.unusedVariables false

set_option maxHeartbeats 1000000 in
set_option maxRecDepth 100000 in
theorem DrawClockDue_any (a : Option Addr) (n cap : Nat) (bs : List Int) (w : World) (hc : n ≤ cap) (hn : n ≤ 1048576) (hz : IsBytes w.heap.size w a n bs) :
    Calls Try.prog 9 #[.slice a n cap] w fun e w' => ∃ v l p q, e = .returned (.tuple #[v, .int .i64 p, .int .i64 q]) ∧ l.length ≤ 4 ∧ OwnB w.heap.size w' v l ∧ (-1 ≤ p ∧ p ≤ 9990) ∧ (-2 ≤ q ∧ q ≤ 10031) ∧ Below w.heap.size w w' := by
  have HOP := hidOf (l11Open_any a n cap bs w hc hn hz)
  clear hz
  go_enter Try.func9, Try.ntmps9
  go_wp2_with fail
  refine HOP.out.mono ?_
  rintro e w1 ⟨a', n', cap', bs', rfl, hr1, hb1, hs1⟩
  have HR1 := hidOf hr1
  have HB1 := hidOf hb1
  have HS1 := hidOf hs1
  clear hr1 hb1 hs1
  go_wp2_with fail
  refine (l31Beats_any w.heap.size a' n' cap' bs' 0 _ (by omega) HR1.out).mono ?_
  rintro e w2 ⟨v, l, k, rfl, hl, ho2, hk, hr2, hm2⟩
  have hp2 : w.heap.size < w1.heap.size := by rw [HS1.out]; omega
  have HR2 := hidOf hr2
  have HM2 := hidOf hm2
  have HO2 : Hid (OwnB w.heap.size w2 v l) := ⟨ho2.1, ho2.2.imp id (fun ⟨g, cap, cur, e1, e2, e3⟩ => ⟨g, cap, cur, e1, by omega, e3⟩)⟩
  have HP2 : Hid (∀ g, v.ownBlock = some g → w.heap.size < g) := fun g hg => by have := (World.ownsRow.lt ho2 g hg).1; omega
  clear ho2 hr2 hm2
  go_wp2_with fail
  refine (one_at [0, 0, 3, 10, 100, 9990, -1] 3 7 _ _ w.heap.size a' n' cap' bs' k _ (by omega) HR2.out rfl (by omega) (by omega) rfl rfl).mono ?_
  rintro e w3 ⟨p, rfl, hp, hr3, hm3⟩
  have hpb : -1 ≤ p ∧ p ≤ 9990 := by simp at hp; omega
  have HR3 := hidOf hr3
  have HM3 := hidOf (HM2.out.trans hm3)
  have HO3 : Hid (OwnB w.heap.size w3 v l) := own_of_block HO2.out (fun g hg => hm3.block g (World.ownsRow.lt HO2.out g hg).2 (by have := HP2.out g hg; omega))
  clear hr3 hm3 hp
  go_wp2_with fail
  refine (one_at [0, 1, 5, 12, 40, 41, -1] 3 7 _ _ w.heap.size a' n' cap' bs' (k + 1) _ (by omega) HR3.out rfl (by omega) (by omega) rfl rfl).mono ?_
  rintro e w4 ⟨y, rfl, hy, hr4, hm4⟩
  have hyb : -1 ≤ y ∧ y ≤ 41 := by simp at hy; omega
  have HM4 := hidOf (HM3.out.trans hm4)
  have HO4 : Hid (OwnB w.heap.size w4 v l) := own_of_block HO3.out (fun g hg => hm4.block g (World.ownsRow.lt HO3.out g hg).2 (by have := HP2.out g hg; omega))
  have hw4 : IntKind.i64.wrap (p + y) = p + y := by rw [IntKind.wrap_i64]; omega
  clear hr4 hm4 hy
  go_wp2_with fail
  go_ret3
  exact ⟨v, l, p, p + y, rfl, hl, HO4.out, hpb, by omega, Mv.fresh HB1.out HM4.out⟩

set_option maxHeartbeats 1000000 in
set_option maxRecDepth 100000 in
theorem DrawClockNext_any (a : Option Addr) (n cap : Nat) (bs : List Int) (w : World) (hc : n ≤ cap) (hn : n ≤ 1048576) (hz : IsBytes w.heap.size w a n bs) :
    Calls Try.prog 15 #[.slice a n cap] w fun e w' => ∃ v l p, e = .returned (.tuple #[v, .int .i64 p]) ∧ l.length ≤ 4 ∧ OwnB w.heap.size w' v l ∧ (-1 ≤ p ∧ p ≤ 10000) ∧ Below w.heap.size w w' := by
  have HOP := hidOf (l11Open_any a n cap bs w hc hn hz)
  clear hz
  go_enter Try.func15, Try.ntmps15
  go_wp2_with fail
  refine HOP.out.mono ?_
  rintro e w1 ⟨a', n', cap', bs', rfl, hr1, hb1, hs1⟩
  have HR1 := hidOf hr1
  have HB1 := hidOf hb1
  have HS1 := hidOf hs1
  clear hr1 hb1 hs1
  go_wp2_with fail
  refine (l31Beats_any w.heap.size a' n' cap' bs' 0 _ (by omega) HR1.out).mono ?_
  rintro e w2 ⟨v, l, k, rfl, hl, ho2, hk, hr2, hm2⟩
  have hp2 : w.heap.size < w1.heap.size := by rw [HS1.out]; omega
  have HR2 := hidOf hr2
  have HM2 := hidOf hm2
  have HO2 : Hid (OwnB w.heap.size w2 v l) := ⟨ho2.1, ho2.2.imp id (fun ⟨g, cap, cur, e1, e2, e3⟩ => ⟨g, cap, cur, e1, by omega, e3⟩)⟩
  have HP2 : Hid (∀ g, v.ownBlock = some g → w.heap.size < g) := fun g hg => by have := (World.ownsRow.lt ho2 g hg).1; omega
  clear ho2 hr2 hm2
  go_wp2_with fail
  refine (one_at [0, 1, 5, 20, 777, 9999, 10000, -1] 3 8 _ _ w.heap.size a' n' cap' bs' k _ (by omega) HR2.out rfl (by omega) (by omega) rfl rfl).mono ?_
  rintro e w3 ⟨p, rfl, hp, hr3, hm3⟩
  have hpb : -1 ≤ p ∧ p ≤ 10000 := by simp at hp; omega
  have HM3 := hidOf (HM2.out.trans hm3)
  have HO3 : Hid (OwnB w.heap.size w3 v l) := own_of_block HO2.out (fun g hg => hm3.block g (World.ownsRow.lt HO2.out g hg).2 (by have := HP2.out g hg; omega))
  clear hr3 hm3 hp
  go_wp2_with fail
  go_ret2
  exact ⟨v, l, p, rfl, hl, HO3.out, hpb, Mv.fresh HB1.out HM3.out⟩
end Go.Proofs.Ytlpdilmdhfemdaa
