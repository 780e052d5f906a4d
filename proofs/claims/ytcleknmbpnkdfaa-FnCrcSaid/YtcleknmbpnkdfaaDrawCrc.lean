/- A drawn text: DrawCrc. -/
import Derived.Test.YtcleknmbpnkdfaaDrawOpen
namespace Go.Proofs.Ytcleknmbpnkdfaa
open Go Go.RowKit Go.PlainAid
set_option linter.unusedSimpArgs false
set_option linter.unusedVariables false

def crcTexts : List ByteArray := [⟨#[]⟩, ⟨#[97]⟩, ⟨#[49, 50, 51, 52, 53, 54, 55, 56, 57]⟩, ⟨#[49, 32, 48, 32, 48, 32, 45]⟩, ⟨#[0, 255]⟩, ⟨#[49, 32, 50, 32, 51, 32, 52, 44, 53]⟩]
theorem crcTexts_size : ∀ y ∈ crcTexts, y.size ≤ 9 := by decide
set_option maxHeartbeats 800000 in
set_option maxRecDepth 100000 in
theorem DrawCrc_any (a : Option Addr) (n cap : Nat) (bs : List Int) (w : World) (hc : n ≤ cap) (hn : n ≤ 1048576) (hz : IsBytes w.heap.size w a n bs) :
    Calls Try.prog 4 #[.slice a n cap] w fun e w' => ∃ s, e = .returned (.string s) ∧ s.size ≤ 9 ∧ Below w.heap.size w w' := by
  have HO := hidOf (l11Open_any a n cap bs w hc hn hz)
  clear hz
  go_enter Try.func4, Try.ntmps4
  go_wp2_with fail
  refine HO.out.mono ?_
  rintro e w1 ⟨a1, n1, c1, bs1, rfl, hr1, hb1, hs1⟩
  have HB1 : Hid (Below w.heap.size w w1) := hb1
  have HR1 : Hid (RdAt w1 w.heap.size a1 n1 c1 bs1 0) := hr1
  clear hr1 hb1 hs1 HO
  go_wp2_with fail

  refine (of_new w1 w.heap.size a1 n1 c1 bs1 0 crcTexts 9 6 (by omega) HR1.out rfl (by decide) (by decide)).mono ?_
  rintro e w3 ⟨y, rfl, hy, _, hm3⟩
  have hs5 : y.size ≤ 9 := crcTexts_size y hy
  have HB : Hid (Below w.heap.size w w3) := Mv.fresh HB1.out hm3
  clear hy hm3
  go_wp2_with fail
  go_ret
  exact ⟨y, rfl, hs5, HB.out⟩
end Go.Proofs.Ytcleknmbpnkdfaa
