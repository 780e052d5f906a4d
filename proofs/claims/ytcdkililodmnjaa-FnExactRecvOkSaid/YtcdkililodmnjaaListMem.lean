/- Lists of lists of numbers: as they lie, the law's sizes, copies, comparisons. -/
import Derived.Test.YtcdkililodmnjaaIntCopy
import Derived.Test.YtcdkililodmnjaaOpenNums
import Derived.Deep.RegionHeld3
namespace Go.Proofs.Ytcdkililodmnjaa
open Go Go.ChangeShapes Go.WideShapes Go.ChangeAt Go.RowKit Go.Deep Go.PlainAid
set_option linter.unusedSimpArgs false
set_option linter.unusedVariables false

def QIs (B : Nat) (w : World) (cs : List Value) (vs : List Int) : Prop := ∃ a n c, cs = [.slice a n c] ∧ n ≤ c ∧ c ≤ maxLen ∧ IsInts B w a n vs
theorem QIs.below {B : Nat} {w w' : World} (hb : Below B w w') (cs : List Value) (p : List Int) (h : QIs B w cs p) : QIs B w' cs p := by
  obtain ⟨a, n, c, h1, h2, h3, h4⟩ := h; exact ⟨a, n, c, h1, h2, h3, h4.below hb⟩
theorem QIs.mono {B B' : Nat} {w : World} (hb : B ≤ B') (cs : List Value) (p : List Int) (h : QIs B w cs p) : QIs B' w cs p := by
  obtain ⟨a, n, c, h1, h2, h3, h4⟩ := h; exact ⟨a, n, c, h1, h2, h3, h4.mono hb⟩
theorem IsArr.upQ {w w' : World} {a : Option Addr} {n : Nat} {l : List (List Int)} (h : IsArr 1 QIs w.heap.size w a n l) (hb : Below w.heap.size w w') : IsArr 1 QIs w'.heap.size w' a n l :=
  (h.below (QIs.below hb) hb).mono (QIs.mono hb.size) hb.size
/-- a copy of numbers in a list -/
def CIs (L : Nat) (w : World) (cs : List Value) (vs : List Int) : Prop := ∃ g n, cs = [.slice (some ⟨g, 0, none⟩) n n] ∧ L ≤ g ∧ n ≤ 1048576 ∧ Open g n w ∧ IsInts w.heap.size w (some ⟨g, 0, none⟩) n vs
theorem CIs.mv {L p : Nat} {w w' : World} {cs : List Value} {x : List Int} (h : CIs L w cs x) (hm : Mv p w w') (hp : p < L) : CIs L w' cs x := by
  obtain ⟨g, n, h1, h2, h3, h4, h5⟩ := h
  exact ⟨g, n, h1, h2, h3, h4.mv hm (by omega), ints_mv h5 hm (by omega)⟩
theorem CIs.below {L : Nat} {w w' : World} {cs : List Value} {x : List Int} (h : CIs L w cs x) (hb : Below w.heap.size w w') : CIs L w' cs x := by
  obtain ⟨g, n, h1, h2, h3, h4, h5⟩ := h
  exact ⟨g, n, h1, h2, h3, h4.below hb, h5.up hb⟩
theorem CIs.q {L : Nat} {w : World} (cs : List Value) (x : List Int) (h : CIs L w cs x) : QIs w.heap.size w cs x := by
  obtain ⟨g, n, h1, h2, h3, h4, h5⟩ := h
  exact ⟨_, n, n, h1, Nat.le_refl _, by unfold maxLen; omega, h5⟩
/-- a copy of lists of numbers -/
def CIss (n : Nat) (l : List (List Int)) (L g : Nat) (w : World) : Prop := CL 1 CIs L n l g w
theorem CIss.mv {n : Nat} {l : List (List Int)} {L g p : Nat} {w w' : World} (h : CIss n l L g w) (hm : Mv p w w') (hp : p < L) : CIss n l L g w' :=
  CL.mv h (fun _ _ q => q.mv hm (by have := h.1; omega)) hm hp
theorem CIss.below {n : Nat} {l : List (List Int)} {L g : Nat} {w w' : World} (h : CIss n l L g w) (hb : Below w.heap.size w w') : CIss n l L g w' :=
  CL.below h (fun _ _ q => q.below hb) hb
theorem CIss.is {n : Nat} {l : List (List Int)} {L g : Nat} {w : World} (h : CIss n l L g w) : IsArr 1 QIs w.heap.size w (some ⟨g, 0, none⟩) n l := CL.arr h CIs.q
theorem CIss.of {n : Nat} {l : List (List Int)} {L : Nat} {w : World} {e : Ending} {w' : World} (h : CpL 1 CIs n l w e w') (hL : L ≤ w.heap.size) : ∃ g, e = .returned (.slice (some ⟨g, 0, none⟩) n n) ∧ CIss n l L g w' ∧ Below w.heap.size w w' := by
  obtain ⟨b, h1, h2, h3, h4, h5, h6⟩ := h
  exact ⟨b, h1, ⟨Nat.le_trans hL h2, h3, h5, h6⟩, h4⟩

set_option maxHeartbeats 800000 in
set_option maxRecDepth 100000 in
theorem szIntSS_any (B : Nat) (a : Option Addr) (n cap : Nat) (l : List (List Int)) (left : Int) (w : World) (h0 : 0 ≤ left) (h1 : left ≤ 1048576) (hn : n ≤ maxLen) (hB : B ≤ w.heap.size) (hs : ∀ x ∈ l, x.length ≤ maxLen) (hz : IsArr 1 QIs B w a n l) :
    Calls Try.prog 32 #[.slice a n cap, .int .i64 left] w fun e w' => SzP (n + wsum List.length l) left w e w' := by
  have hlen := hz.1
  have HZ := hidOf hz
  have HS := hidOf hs
  clear hz hs
  unfold maxLen at hn
  have hw : IntKind.i64.wrap (left - n) = left - n := by rw [IntKind.wrap_i64]; omega
  by_cases h : left < n
  · go_enter Try.func32, Try.ntmps32
    go_wp2_with fail
    go_ret
    exact ⟨-1, rfl, Below.refl _ _, by omega, by omega, fun h => by omega⟩
  go_enter Try.func32, Try.ntmps32
  go_wp2_with fail
  go_loopw [1, 5] (fun v i wr => ∃ (k : Nat) (r : Int), k ≤ n ∧ i = .int .i64 k ∧ v = .int .i64 r ∧ 0 ≤ r ∧ r + (wsum List.length (l.take k) : Nat) + n = left ∧ Below w.heap.size w wr) (fun _ i _ => n - (intOf i).toNat)
  case atStart => exact ⟨0, left - n, Nat.zero_le _, rfl, rfl, by omega, by simp [wsum], Below.refl _ _⟩
  case round =>
    obtain ⟨k, r, hk, rfl, rfl, hr0, hr1, hbel⟩ := hrel
    by_cases hlt : k < n
    · obtain ⟨b, off, cs, rfl, hb, hq, hcell⟩ := IsArr.at (HZ.out.below (QIs.below (hbel.mono hB)) (hbel.mono hB)) hlt (show k < l.length by omega)
      have hbr : b < wr.heap.size := by have := hbel.size; omega
      obtain ⟨x, hx⟩ : ∃ x, l[k]'(by omega) = x := ⟨_, rfl⟩
      have HX := hidOf hx
      rw [hx] at hq
      obtain ⟨a', n', c', rfl, q1, q2, q3⟩ := hq
      have hxl := q3.1
      have c0 : wr.cell? ⟨b, off + k, none⟩ = some (.slice a' n' c') := by have := hcell 0 _ rfl; simpa using this
      have HE := hidOf (szIntS_any a' n' c' r wr hr0 (by omega) (by omega))
      clear hcell hx q3
      go_wp2_with fail
      refine HE.out.mono ?_
      rintro e w1 ⟨r', rfl, hb1, p1, p2, p3⟩
      by_cases hr' : r' < 0
      · go_wp2_with fail
        go_ret
        exact ⟨-1, rfl, hbel.trans (hb1.mono hbel.size), by omega, by omega, fun h => by omega⟩
      · have p4 := p3 (by omega)
        have hws := wsum_take List.length l (show k < l.length by omega)
        rw [HX.out] at hws
        clear p3
        go_wp2_with fail
        go_roundw
        case rel => exact ⟨k + 1, r', by omega, by go_num, rfl, by omega, by rw [hws]; push_cast; omega, hbel.trans (hb1.mono hbel.size)⟩
        case measure => simp [intOf]; omega
    · have : k = n := by omega
      subst this
      go_wp2_with fail
      go_ret
      rw [List.take_of_length_le (by omega)] at hr1
      exact ⟨r, rfl, hbel, by omega, by omega, fun _ => by push_cast; omega⟩

theorem infoIntS : (Try.prog.info? 24).map (fun i => (i.zero, i.size, i.bytes)) = some (some (.slice none 0 0), 1, 24) := by kernel_rfl
set_option maxHeartbeats 1600000 in
set_option maxRecDepth 100000 in
theorem toIntSS_any (B : Nat) (a : Option Addr) (n cap : Nat) (l : List (List Int)) (w : World) (hn : n ≤ 1048576) (hB : B ≤ w.heap.size) (hsm : ∀ x ∈ l, x.length ≤ 1048576) (hz : IsArr 1 QIs B w a n l) :
    Calls Try.prog 34 #[.slice a n cap] w fun e w' => CpL 1 CIs n l w e w' := by
  have hlen := hz.1
  have HZ := hidOf hz
  have HSM := hidOf hsm
  clear hz hsm
  obtain ⟨i0, hi, hz0, hz1, hz2⟩ := info_parts infoIntS
  have hmk : ∀ u : World, (Instr.makeSlice 33 (.int .i64 (n : Int)) (.int .i64 (n : Int))).run Try.prog u =
      .ok (.slice (some ⟨u.heap.size, 0, none⟩) n n) (u.alloc (.cells (madeCells #[.slice none 0 0] n) 24)) := fun u => by
    have h := run_make (P := Try.prog) u 33 24 i0 (.slice none 0 0) Try.underlying33 hi hz0 .i64 .i64 (n : Int) (n : Int) (by omega) (Int.le_refl _) (by rw [hz2]; omega) (by omega)
    have e : ((n : Int)).toNat = n := by omega
    rw [e] at h
    simpa [hz1, Value.cells] using h
  go_enter Try.func34, Try.ntmps34
  go_wp2
  go_loopw [4] (fun i wr => ∃ k : Nat, k ≤ n ∧ i = .int .i64 k ∧ Hid (Open w.heap.size n wr) ∧ Below w.heap.size w wr ∧ Hid (∀ i, (h : i < l.length) → i < k → ∃ cs, CIs (w.heap.size + 1) wr cs l[i] ∧ ∀ j u, cs[j]? = some u → j < 1 ∧ wr.cell? ⟨w.heap.size, i * 1 + j, none⟩ = some u)) (fun i _ => n - (intOf i).toNat)
  case atStart => exact ⟨0, Nat.zero_le _, rfl, open_made w _ _ _, (Below.refl _ _).alloc (Nat.le_refl _) _, fun i _ hi => absurd hi (Nat.not_lt_zero _)⟩
  case round =>
    obtain ⟨k, hk, rfl, HO, hbel, HK⟩ := hrel
    by_cases hlt : k < n
    · obtain ⟨b, off, cs, rfl, hb, hq, hcell⟩ := IsArr.at (HZ.out.below (QIs.below (hbel.mono hB)) (hbel.mono hB)) hlt (show k < l.length by omega)
      have hsw := HO.out.1
      have hbr : b < wr.heap.size := by have := hbel.size; omega
      have hbB : B ≤ wr.heap.size := by have := hbel.size; omega
      have hsmx := HSM.out (l[k]'(by omega)) (List.getElem_mem _)
      obtain ⟨x, hx⟩ : ∃ x, l[k]'(by omega) = x := ⟨_, rfl⟩
      have HX := hidOf hx
      rw [hx] at hq hsmx
      obtain ⟨a', n', c', rfl, q1, q2, q3⟩ := hq
      have hxl := q3.1
      have c0 : wr.cell? ⟨b, off + k, none⟩ = some (.slice a' n' c') := by have := hcell 0 _ rfl; simpa using this
      have HE := hidOf (toIntS_open B a' n' c' x wr (by omega) hbB q3)
      clear hcell hx hmk q3
      go_wp2_with (go_at_call 28; refine HE.out.mono ?_; rintro e w1 ⟨g, rfl, hg, hgi, hb1, hgo⟩; have HGI := hidOf hgi; have HGO := hidOf hgo; have HO1 : Hid (Open w.heap.size n w1) := HO.out.below hb1; have HKW : Hid (Below w.heap.size w w1) := hbel.trans (hb1.mono hbel.size); have hsw1 := HO1.out.1; obtain ⟨⟨v0, o0⟩, f0⟩ := HO1.out.2 k (by omega); clear hgi hgo)
      go_roundw
      case rel =>
        refine ⟨k + 1, by omega, by go_num, (HO1.out.set k _ (by omega)), (HKW.out.setCell (by simp) _), ?_⟩
        intro i hil hi
        have hmv : Mv w.heap.size w1 (w1.setCell ⟨w.heap.size, k, none⟩ (.slice (some ⟨g, 0, none⟩) n' n')) := (Mv.refl _ _).cell _ _
        by_cases e : i = k
        · subst e
          rw [HX.out]
          refine ⟨_, CIs.mv ⟨g, n', rfl, by omega, by omega, HGO.out, HGI.out⟩ hmv (by omega), fun j u hu => ?_⟩
          have hj : j < 1 := (List.getElem?_eq_some_iff.1 hu).1
          have hj0 : j = 0 := by omega
          subst hj0
          have hu' : some (Value.slice (some ⟨g, 0, none⟩) n' n') = some u := hu
          cases hu'
          refine ⟨by decide, ?_⟩
          show _ = _
          simpa using World.cell?_setCell_same _ _ _ o0
        · obtain ⟨cs, q1, q2⟩ := HK.out i hil (by omega)
          refine ⟨cs, CIs.mv (CIs.below q1 hb1) hmv (by omega), fun j u hu => ?_⟩
          obtain ⟨p1, p2⟩ := q2 j u hu
          refine ⟨p1, ?_⟩
          have p3 := (hb1.cell (p := ⟨w.heap.size, i * 1 + j, none⟩) hsw).trans p2
          rw [setCell_ne _ _ _ _ _ (by omega)]
          exact p3
      case measure => simp [intOf]; omega
    · have : k = n := by omega
      subst this
      go_wp2
      go_ret
      exact ⟨w.heap.size, rfl, Nat.le_refl _, by rw [Nat.mul_one]; exact HO.out, hbel, hlen, fun i hil => HK.out i hil (by omega)⟩

set_option maxHeartbeats 1600000 in
set_option maxRecDepth 100000 in
theorem eqIntSS_same (B : Nat) (a a' : Option Addr) (n cap cap' : Nat) (l : List (List Int)) (w : World) (hn : n ≤ 1048576) (hB : B ≤ w.heap.size) (hsm : ∀ x ∈ l, x.length ≤ 1048576) (hz : IsArr 1 QIs B w a n l) (hz' : IsArr 1 QIs B w a' n l) :
    Calls Try.prog 36 #[.slice a n cap, .slice a' n cap'] w fun e w' => e = .returned (.bool true) ∧ Below w.heap.size w w' := by
  have hlen := hz.1
  have HZ := hidOf hz
  have HZ' := hidOf hz'
  have HSM := hidOf hsm
  clear hz hz' hsm
  go_enter Try.func36, Try.ntmps36
  go_wp2
  go_loopw [5] (fun i wr => ∃ k : Nat, k ≤ n ∧ i = .int .i64 k ∧ Below w.heap.size w wr) (fun i _ => n - (intOf i).toNat)
  case atStart => exact ⟨0, Nat.zero_le _, rfl, Below.refl _ _⟩
  case round =>
    obtain ⟨k, hk, rfl, hbel⟩ := hrel
    by_cases hlt : k < n
    · obtain ⟨b, off, cs, rfl, hb, hq, hcell⟩ := IsArr.at (HZ.out.below (QIs.below (hbel.mono hB)) (hbel.mono hB)) hlt (show k < l.length by omega)
      obtain ⟨b', off', cs', rfl, hb', hq', hcell'⟩ := IsArr.at (HZ'.out.below (QIs.below (hbel.mono hB)) (hbel.mono hB)) hlt (show k < l.length by omega)
      have hbr : b < wr.heap.size := by have := hbel.size; omega
      have hbr' : b' < wr.heap.size := by have := hbel.size; omega
      have hsmx := HSM.out (l[k]'(by omega)) (List.getElem_mem _)
      obtain ⟨x, hx⟩ : ∃ x, l[k]'(by omega) = x := ⟨_, rfl⟩
      rw [hx] at hq hq' hsmx
      obtain ⟨a1, n1, c1, rfl, q1, q2, q3⟩ := hq
      obtain ⟨a2, n2, c2, rfl, p1, p2, p3⟩ := hq'
      have l1 := q3.1
      have l2 := p3.1
      have hnn : n2 = n1 := by omega
      subst hnn
      have c0 : wr.cell? ⟨b, off + k, none⟩ = some (.slice a1 n2 c1) := by have := hcell 0 _ rfl; simpa using this
      have d0 : wr.cell? ⟨b', off' + k, none⟩ = some (.slice a2 n2 c2) := by have := hcell' 0 _ rfl; simpa using this
      have hBr : B ≤ wr.heap.size := by have := hbel.size; omega
      have HE : Hid (∀ W, Below wr.heap.size wr W → Calls Try.prog 31 #[.slice a1 n2 c1, .slice a2 n2 c2] W fun e w' => e = .returned (.bool true) ∧ Below W.heap.size W w') := fun W hb => eqIntS_same a1 a2 n2 c1 c2 x W (by omega) ((q3.below (hb.mono hBr)).mono (by have := hb.size; omega)) ((p3.below (hb.mono hBr)).mono (by have := hb.size; omega))
      clear hcell hcell' hx hsmx q3 p3
      go_wp2_with fail
      go_region_held3 (fun w' => w'.cell? ⟨b, off + k, none⟩ = some (.slice a1 n2 c1) ∧ w'.cell? ⟨b', off' + k, none⟩ = some (.slice a2 n2 c2)) (simp [go_sem, *])
        (first | (go_at_call 31; refine (HE.out _ (by first | exact drewN (Below.refl _ _) 1 | go_grown)).mono ?_; rintro e w' ⟨rfl, hb1⟩; replace hb1 := undrew hb1; obtain ⟨hc1, hf1⟩ := bcell hb1))
      go_wp2_with fail
      go_roundw
      case rel => exact ⟨k + 1, by omega, by go_num, hbel.trans (hb1.mono hbel.size)⟩
      case measure => simp [intOf]; omega
    · go_wp2_with fail
      go_ret
      exact ⟨rfl, hbel⟩

/-- lists that came in -/
theorem open_lists {H : Type} {enc : TypeId × Value → H} {W : World} {base : Nat} {spare : Nat → Bool} {held : Bool} {fuel : Nat} {a0 : Option Addr} {len0 cap0 : Nat} {x : DataW H × List MemPlace}
    (h : DataW.trod enc Try.prog W base spare held fuel 33 (Value.slice a0 len0 cap0).cells.toList = some x) :
    ∃ l : List (List Int), (len0 ≤ cap0 ∧ cap0 ≤ maxLen) ∧ IsArr 1 QIs W.heap.size W a0 len0 l ∧ ∀ y ∈ l, y.length ≤ maxLen := by
  refine open_arr (F := fun y : List Int => y.length ≤ maxLen) Try.underlying33 (show Try.prog.cellsOf 24 = 1 by kernel_rfl) (by decide) ?_ h
  intro fuel cs y hl hy
  obtain ⟨a, n, c, rfl⟩ := slice_shape Try.underlying24 hy
  obtain ⟨h1, h2⟩ := slice_caps Try.underlying24 hy
  obtain ⟨l, h3, h4⟩ := open_nums (a0 := a) (len0 := n) (cap0 := c) hy
  exact ⟨l, ⟨a, n, c, rfl, h1, h2, h4⟩, by rw [h4.1]; exact h3⟩
end Go.Proofs.Ytcdkililodmnjaa
