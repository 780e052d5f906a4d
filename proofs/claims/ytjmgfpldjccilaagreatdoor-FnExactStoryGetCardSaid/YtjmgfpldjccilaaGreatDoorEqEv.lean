/- The law's comparisons of lists of events (EvArrEq, without FlatEvent). -/
import Derived.Test.YtjmgfpldjccilaaGreatDoorEvArr
import Derived.BigQuiet
import Derived.Deep.RegionHeld3
namespace Go.Proofs.YtjmgfpldjccilaaGreatDoor
open Go Go.RowKit Go.PlainAid
set_option linter.unusedSimpArgs false
set_option linter.unusedVariables false

set_option maxHeartbeats 1600000 in
set_option maxRecDepth 100000 in
theorem eqEvent_gen (i0 i1 i2 : Int) (a : Option Addr) (n c : Nat) (a' : Option Addr) (n' c' : Nat) (w : World)
    (HT : ∀ W, Below w.heap.size w W → Calls Tryz.prog 70 #[.slice a n c, .slice a' n' c'] W fun e w' => e = .returned (.bool true) ∧ Below W.heap.size W w') :
    Calls Tryz.prog 42 #[.agg #[.int .i64 i0, .int .i64 i1, .int .i64 i2, .slice a n c], .agg #[.int .i64 i0, .int .i64 i1, .int .i64 i2, .slice a' n' c']] w fun e w' => e = .returned (.bool true) ∧ Below w.heap.size w w' := by
  have HE := hidOf HT
  have HB0 : Hid (Below w.heap.size w ((w.alloc (.cells #[.int .i64 i0, .int .i64 i1, .int .i64 i2, .slice a n c] 26)).alloc (.cells #[.int .i64 i0, .int .i64 i1, .int .i64 i2, .slice a' n' c'] 26))) := ((Below.refl _ _).alloc (Nat.le_refl _) _).alloc (by simp) _
  clear HT
  go_enter Tryz.func42, Tryz.ntmps42
  go_wp2_with (go_at_call 70; refine (HE.out _ (by first | exact HB0.out | go_grown)).mono ?_; rintro e w1 ⟨rfl, hb1⟩)
  go_ret
  refine ⟨ret_bool (by simp), ?_⟩
  exact HB0.out.trans (hb1.mono HB0.out.size)

set_option maxHeartbeats 800000 in
theorem eqEvent_same (B : Nat) (x : Ev) (hf : FewEv x) (a : Option Addr) (n c : Nat) (a' : Option Addr) (n' c' : Nat) (w : World) (hB : B ≤ w.heap.size) (hv : IsInts B w a n x.2.2.2) (hv' : IsInts B w a' n' x.2.2.2) :
    Calls Tryz.prog 42 #[.agg #[.int .i64 x.1, .int .i64 x.2.1, .int .i64 x.2.2.1, .slice a n c], .agg #[.int .i64 x.1, .int .i64 x.2.1, .int .i64 x.2.2.1, .slice a' n' c']] w fun e w' => e = .returned (.bool true) ∧ Below w.heap.size w w' := by
  have hnn : n' = n := by have := hv.1; have := hv'.1; omega
  subst hnn
  refine eqEvent_gen x.1 x.2.1 x.2.2.1 a n' c a' n' c' w (fun W hb => ?_)
  exact eqIntS_same a a' n' c c' x.2.2.2 W (by have := hv.1; unfold FewEv at hf; omega) ((hv.mono hB).up hb) ((hv'.mono hB).up hb)

set_option maxHeartbeats 1600000 in
set_option maxRecDepth 100000 in
theorem eqEventS_same (B : Nat) (a a' : Option Addr) (n cap cap' : Nat) (l : List Ev) (w : World) (hn : n ≤ 1048576) (hB : B ≤ w.heap.size) (hsm : ∀ x ∈ l, FewEv x) (hz : IsArr 4 QEv B w a n l) (hz' : IsArr 4 QEv B w a' n l) :
    Calls Tryz.prog 20 #[.slice a n cap, .slice a' n cap'] w fun e w' => e = .returned (.bool true) ∧ Below w.heap.size w w' := by
  have hlen := hz.1
  have HZ := hidOf hz
  have HZ' := hidOf hz'
  have HSM := hidOf hsm
  clear hz hz' hsm
  go_enter Tryz.func20, Tryz.ntmps20
  go_wp2
  go_loopw [5] (fun i wr => ∃ k : Nat, k ≤ n ∧ i = .int .i64 k ∧ Below w.heap.size w wr) (fun i _ => n - (intOf i).toNat)
  case atStart => exact ⟨0, Nat.zero_le _, rfl, Below.refl _ _⟩
  case round =>
    obtain ⟨k, hk, rfl, hbel⟩ := hrel
    by_cases hlt : k < n
    · obtain ⟨b, off, cs, rfl, hb, hq, hcell⟩ := IsArr.at (HZ.out.below (QEv.lift (hbel.mono hB)) (hbel.mono hB)) hlt (show k < l.length by omega)
      obtain ⟨b', off', cs', rfl, hb', hq', hcell'⟩ := IsArr.at (HZ'.out.below (QEv.lift (hbel.mono hB)) (hbel.mono hB)) hlt (show k < l.length by omega)
      have hbr : b < wr.heap.size := by have := hbel.size; omega
      have hbr' : b' < wr.heap.size := by have := hbel.size; omega
      have hbB : B ≤ wr.heap.size := by have := hbel.size; omega
      have hsmx := HSM.out (l[k]'(by omega)) (List.getElem_mem _)
      obtain ⟨x, hx⟩ : ∃ x, l[k]'(by omega) = x := ⟨_, rfl⟩
      rw [hx] at hq hq' hsmx
      obtain ⟨pa, pn, pc, rfl, hp1, hp2, hp3⟩ := hq
      obtain ⟨qa, qn, qc, rfl, hq1, hq2, hq3⟩ := hq'
      have c0 : wr.cell? ⟨b, off + k * 4, none⟩ = some (.int .i64 x.1) := hcell 0 _ rfl
      have c1 : wr.cell? ⟨b, off + k * 4 + 1, none⟩ = some (.int .i64 x.2.1) := hcell 1 _ rfl
      have c2 : wr.cell? ⟨b, off + k * 4 + 1 + 1, none⟩ = some (.int .i64 x.2.2.1) := hcell 2 _ rfl
      have c3 : wr.cell? ⟨b, off + k * 4 + 1 + 1 + 1, none⟩ = some (.slice pa pn pc) := hcell 3 _ rfl
      have d0 : wr.cell? ⟨b', off' + k * 4, none⟩ = some (.int .i64 x.1) := hcell' 0 _ rfl
      have d1 : wr.cell? ⟨b', off' + k * 4 + 1, none⟩ = some (.int .i64 x.2.1) := hcell' 1 _ rfl
      have d2 : wr.cell? ⟨b', off' + k * 4 + 1 + 1, none⟩ = some (.int .i64 x.2.2.1) := hcell' 2 _ rfl
      have d3 : wr.cell? ⟨b', off' + k * 4 + 1 + 1 + 1, none⟩ = some (.slice qa qn qc) := hcell' 3 _ rfl
      have HE : Hid (∀ W, Below wr.heap.size wr W → Calls Tryz.prog 42 #[.agg #[.int .i64 x.1, .int .i64 x.2.1, .int .i64 x.2.2.1, .slice pa pn pc], .agg #[.int .i64 x.1, .int .i64 x.2.1, .int .i64 x.2.2.1, .slice qa qn qc]] W fun e w' => e = .returned (.bool true) ∧ Below W.heap.size W w') := fun W hb => eqEvent_same B x hsmx pa pn pc qa qn qc W (by have := hb.size; omega) (hp3.below (hb.mono hbB)) (hq3.below (hb.mono hbB))
      have hdr : Below wr.heap.size wr wr.drew := ⟨rfl, rfl, rfl, Nat.le_refl _, fun _ _ => rfl⟩
      clear hp3 hq3
      clear hcell hcell' hx hsmx
      go_wp2_with fail
      go_region_held3 (fun w' => w'.cell? ⟨b, off + k * 4, none⟩ = some (.int .i64 x.1) ∧ w'.cell? ⟨b, off + k * 4 + 1, none⟩ = some (.int .i64 x.2.1) ∧ w'.cell? ⟨b, off + k * 4 + 1 + 1, none⟩ = some (.int .i64 x.2.2.1) ∧ w'.cell? ⟨b, off + k * 4 + 1 + 1 + 1, none⟩ = some (.slice pa pn pc) ∧ w'.cell? ⟨b', off' + k * 4, none⟩ = some (.int .i64 x.1) ∧ w'.cell? ⟨b', off' + k * 4 + 1, none⟩ = some (.int .i64 x.2.1) ∧ w'.cell? ⟨b', off' + k * 4 + 1 + 1, none⟩ = some (.int .i64 x.2.2.1) ∧ w'.cell? ⟨b', off' + k * 4 + 1 + 1 + 1, none⟩ = some (.slice qa qn qc)) (simp [go_sem, *])
        (first | (go_at_call 42; refine (HE.out _ (by first | exact hdr | exact Below.refl _ _)).mono ?_; rintro e w' ⟨rfl, hb1⟩; replace hb1 := undrew hb1; obtain ⟨hc1, hf1⟩ := bcell hb1))
      go_wp2_with fail
      go_roundw
      case rel => exact ⟨k + 1, by omega, by go_num, hbel.trans (hb1.mono hbel.size)⟩
      case measure => simp [intOf]; omega
    · go_wp2_with fail
      go_ret
      exact ⟨rfl, hbel⟩
end Go.Proofs.YtjmgfpldjccilaaGreatDoor
