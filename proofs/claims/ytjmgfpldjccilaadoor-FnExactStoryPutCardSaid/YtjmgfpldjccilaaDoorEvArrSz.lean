/- The law's sizes of lists of events. -/
import Derived.Test.YtjmgfpldjccilaaDoorEvArr
import Derived.Test.YtjmgfpldjccilaaDoorFlatEvent
import Derived.Test.YtjmgfpldjccilaaDoorIntCopy
namespace Go.Proofs.YtjmgfpldjccilaaDoor
open Go Go.RowKit Go.PlainAid
set_option linter.unusedSimpArgs false
set_option linter.unusedVariables false

def WideEv (x : Ev) : Prop := True
def wtEv (x : Ev) : Nat := x.2.2.2.length
theorem szEvent_any (B : Nat) (w : World) (left : Int) (x : Ev) (h0 : 0 ≤ left) (h1 : left ≤ 1048576) (hB : B ≤ w.heap.size) (hW : WideEv x) (a : Option Addr) (n c : Nat) (hn : n ≤ c) (hc : c ≤ maxLen) (hv : IsInts B w a n x.2.2.2) :
    Calls Tryd.prog 12 #[.agg #[.int .i64 x.1, .int .i64 x.2.1, .int .i64 x.2.2.1, .slice a n c], .int .i64 left] w fun e w' => SzP (wtEv x) left w e w' := by
  unfold wtEv
  rw [hv.1]
  exact szEvent_gen n x.1 x.2.1 x.2.2.1 a n c left w (fun W _ => szIntS_any a n c left W h0 h1 (by omega))

set_option maxHeartbeats 800000 in
set_option maxRecDepth 100000 in
theorem szEventS_any (B : Nat) (a : Option Addr) (n cap : Nat) (l : List Ev) (left : Int) (w : World) (h0 : 0 ≤ left) (h1 : left ≤ 1048576) (hn : n ≤ maxLen) (hB : B ≤ w.heap.size) (hs : ∀ x ∈ l, WideEv x) (hz : IsArr 4 QEv B w a n l) :
    Calls Tryd.prog 18 #[.slice a n cap, .int .i64 left] w fun e w' => SzP (n + wsum wtEv l) left w e w' := by
  have hlen := hz.1
  have HZ := hidOf hz
  have HS := hidOf hs
  clear hz hs
  unfold maxLen at hn
  have hw : IntKind.i64.wrap (left - n) = left - n := by rw [IntKind.wrap_i64]; omega
  by_cases h : left < n
  · go_enter Tryd.func18, Tryd.ntmps18
    go_wp2_with fail
    go_ret
    exact ⟨-1, rfl, Below.refl _ _, by omega, by omega, fun h => by omega⟩
  go_enter Tryd.func18, Tryd.ntmps18
  go_wp2_with fail
  go_loopw [1, 5] (fun v i wr => ∃ (k : Nat) (r : Int), k ≤ n ∧ i = .int .i64 k ∧ v = .int .i64 r ∧ 0 ≤ r ∧ r + (wsum wtEv (l.take k) : Nat) + n = left ∧ Below w.heap.size w wr) (fun _ i _ => n - (intOf i).toNat)
  case atStart => exact ⟨0, left - n, Nat.zero_le _, rfl, rfl, by omega, by simp [wsum], Below.refl _ _⟩
  case round =>
    obtain ⟨k, r, hk, rfl, rfl, hr0, hr1, hbel⟩ := hrel
    by_cases hlt : k < n
    · obtain ⟨b, off, cs, rfl, hb, hq, hcell⟩ := IsArr.at (HZ.out.below (QEv.lift (hbel.mono hB)) (hbel.mono hB)) hlt (show k < l.length by omega)
      have hbr : b < wr.heap.size := by have := hbel.size; omega
      have hbB : B ≤ wr.heap.size := by have := hbel.size; omega
      have hW := HS.out (l[k]'(by omega)) (List.getElem_mem _)
      obtain ⟨x, hx⟩ : ∃ x, l[k]'(by omega) = x := ⟨_, rfl⟩
      have HX := hidOf hx
      rw [hx] at hq hW
      obtain ⟨pa, pn, pc, rfl, hp1, hp2, hp3⟩ := hq
      have HP3 := hidOf hp3
      have c0 : wr.cell? ⟨b, off + k * 4, none⟩ = some (.int .i64 x.1) := hcell 0 _ rfl
      have c1 : wr.cell? ⟨b, off + k * 4 + 1, none⟩ = some (.int .i64 x.2.1) := hcell 1 _ rfl
      have c2 : wr.cell? ⟨b, off + k * 4 + 1 + 1, none⟩ = some (.int .i64 x.2.2.1) := hcell 2 _ rfl
      have c3 : wr.cell? ⟨b, off + k * 4 + 1 + 1 + 1, none⟩ = some (.slice pa pn pc) := hcell 3 _ rfl
      have HE := hidOf (szEvent_any B wr r x hr0 (by omega) hbB hW pa pn pc hp1 hp2 hp3)
      clear hcell hx hW
      go_wp2_with fail
      refine HE.out.mono ?_
      rintro e w1 ⟨r', rfl, hb1, p1, p2, p3⟩
      by_cases hr' : r' < 0
      · go_wp2_with fail
        go_ret
        exact ⟨-1, rfl, hbel.trans (hb1.mono hbel.size), by omega, by omega, fun h => by omega⟩
      · have p4 := p3 (by omega)
        have hws := wsum_take wtEv l (show k < l.length by omega)
        rw [HX.out] at hws
        clear p3
        go_wp2_with fail
        go_roundw
        case rel => exact ⟨k + 1, r', by omega, by go_num, rfl, by omega, by rw [hws]; push_cast; omega, hbel.trans (hb1.mono hbel.size)⟩
        case measure => simp [intOf]; omega
    · have : k = n := by omega
      subst this
      go_wp2_with fail
      go_ret
      rw [List.take_of_length_le (by omega)] at hr1
      exact ⟨r, rfl, hbel, by omega, by omega, fun _ => by push_cast; omega⟩
end Go.Proofs.YtjmgfpldjccilaaDoor
