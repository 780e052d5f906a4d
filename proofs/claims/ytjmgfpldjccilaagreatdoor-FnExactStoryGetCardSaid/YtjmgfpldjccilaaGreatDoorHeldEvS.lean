/- The law's look at marks in lists of events. -/
import Derived.Test.YtjmgfpldjccilaaGreatDoorMarkEvS
namespace Go.Proofs.YtjmgfpldjccilaaGreatDoor
open Go Go.RowKit Go.PlainAid
set_option linter.unusedSimpArgs false
set_option linter.unusedVariables false

set_option maxHeartbeats 3200000 in
set_option maxRecDepth 100000 in
theorem heldEventS_any (g n c : Nat) (l : List Ev) (sa : Nat → Option Addr) (sc : Nat → Nat) (f : Nat → Nat × Nat) (k0 : Int) (w : World) (hl : l.length = n) (h80 : n ≤ 80) (h3 : ∀ x ∈ l, x.2.2.2.length ≤ 3) (h0 : 0 < k0) (h1 : k0 ≤ 1000) (h : MkEv g l sa sc f k0 n w) :
    Calls Tryz.prog 22 #[.slice (some ⟨g, 0, none⟩) n c, .int .i64 k0] w fun e w' => e = .returned (.int .i64 (k0 + markN l)) ∧ Below w.heap.size w w' := by
  have HM := hidOf h
  have H3 := hidOf h3
  clear h h3
  go_enter Tryz.func22, Tryz.ntmps22
  go_wp2_with fail
  go_loopw [1, 5] (fun q i wr => ∃ k : Nat, k ≤ n ∧ i = .int .i64 k ∧ q = .int .i64 (k0 + markN (l.take k)) ∧ Below w.heap.size w wr) (fun _ i _ => n - (intOf i).toNat)
  case atStart => exact ⟨0, Nat.zero_le _, rfl, by simp [markN], Below.refl _ _⟩
  case round =>
    obtain ⟨k, hk, rfl, rfl, hbel⟩ := hrel
    have hmk : markN (l.take k) ≤ 6 * 80 := by
      have := markN_le (l := l.take k) (fun x hx => H3.out x (List.mem_of_mem_take hx))
      rw [List.length_take] at this; omega
    by_cases hlt : k < n
    · have hkl : k < l.length := by omega
      have hx3 := H3.out (l[k]'hkl) (List.getElem_mem _)
      have hmt := markN_take hkl
      have hsl := HM.out.slot k hkl
      obtain ⟨d0, d1, d2, d3⟩ := HM.out.done k hkl hlt
      obtain ⟨x, hx⟩ : ∃ x, l[k]'hkl = x := ⟨_, rfl⟩
      rw [hx] at hx3 hmt hsl d3
      obtain ⟨r, hr⟩ : ∃ r, k0 + (markN (l.take k) : Int) = r := ⟨_, rfl⟩
      rw [hr] at d0 d1 d2 d3 ⊢
      have hr0 : 0 < r ∧ r ≤ 2000 := by omega
      have p1 : IntKind.i64.wrap (r + 1) = r + 1 := IntWalk.i64_in _ ⟨by omega, by omega⟩
      have p2 : IntKind.i64.wrap (r + 1 + 1) = r + 1 + 1 := IntWalk.i64_in _ ⟨by omega, by omega⟩
      have p3 : IntKind.i64.wrap (r + 1 + 1 + 1) = r + 1 + 1 + 1 := IntWalk.i64_in _ ⟨by omega, by omega⟩
      have hgw : g < w.heap.size := HM.out.row.1
      have hgr : g < wr.heap.size := by have := hbel.size; omega
      have c0 := (hbel.cell (p := ⟨g, k * 4, none⟩) hgw).trans d0
      have c1 := (hbel.cell (p := ⟨g, k * 4 + 1, none⟩) hgw).trans d1
      have c2 := (hbel.cell (p := ⟨g, k * 4 + 1 + 1, none⟩) hgw).trans d2
      have c3 := (hbel.cell (p := ⟨g, k * 4 + 1 + 1 + 1, none⟩) hgw).trans hsl
      have HH := hidOf (heldIntS_free (sa k) x.2.2.2.length (sc k) (r + 1 + 1 + 1) wr (d3.below hbel) (by omega) (by omega) (by omega))
      have HMT : Hid (k0 + (markN (l.take (k + 1)) : Int) = r + 1 + 1 + 1 + (x.2.2.2.length : Int)) := by show _ = _; rw [hmt]; push_cast; omega
      have hneg : ¬ r + 1 + 1 + 1 + (x.2.2.2.length : Int) < 0 := by omega
      clear d0 d1 d2 d3 hsl hmt hx hr
      go_wp2_with fail
      refine HH.out.mono ?_
      rintro e w2 ⟨rfl, hb2⟩
      have HB2 := hidOf (hbel.trans (hb2.mono hbel.size))
      clear hb2
      go_wp2_with fail
      go_roundw
      case rel => exact ⟨k + 1, by omega, by go_num, by rw [HMT.out], HB2.out⟩
      case measure => simp [intOf]; omega
    · have : k = n := by omega
      subst this
      rw [List.take_of_length_le (by omega)]
      go_wp2_with fail
      go_ret
      exact ⟨rfl, hbel⟩
end Go.Proofs.YtjmgfpldjccilaaGreatDoor
