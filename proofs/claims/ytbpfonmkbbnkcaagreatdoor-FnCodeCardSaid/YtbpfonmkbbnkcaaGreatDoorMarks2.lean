/- The law's marks in copies of arguments, and in ops. -/
import Derived.Test.YtbpfonmkbbnkcaaGreatDoorMarks
import Derived.Test.YtbpfonmkbbnkcaaGreatDoorBunG
import Derived.Test.YtbpfonmkbbnkcaaGreatDoorBunD
namespace Go.Proofs.YtbpfonmkbbnkcaaGreatDoor
open Go Go.RowKit Go.PlainAid
set_option linter.unusedSimpArgs false
set_option linter.unusedVariables false

/-- block b has N cells that may be written -/
def Open (b N : Nat) (w : World) : Prop := b < w.heap.size ∧ ∀ j, j < N → (∃ v, w.cell? ⟨b, j, none⟩ = some v) ∧ w.frozen? ⟨b, j, none⟩ = false
theorem Open.below {b N : Nat} {w w' : World} (h : Open b N w) (hb : Below w.heap.size w w') : Open b N w' :=
  ⟨Nat.lt_of_lt_of_le h.1 hb.size, fun j hj => by
    obtain ⟨⟨v, h1⟩, h2⟩ := h.2 j hj
    exact ⟨⟨v, (hb.cell (p := ⟨b, j, none⟩) h.1).trans h1⟩, (hb.frozen (p := ⟨b, j, none⟩) h.1).trans h2⟩⟩
theorem Open.mv {b N p : Nat} {w w' : World} (h : Open b N w) (hm : Mv p w w') (hp : b ≠ p) : Open b N w' :=
  ⟨Nat.lt_of_lt_of_le h.1 hm.size, fun j hj => by
    obtain ⟨⟨v, h1⟩, h2⟩ := h.2 j hj
    exact ⟨⟨v, (World.cell?_of_block (hm.block b h.1 hp)).trans h1⟩, (World.frozen?_of_block (hm.block b h.1 hp)).trans h2⟩⟩
theorem Open.set {b N : Nat} {w : World} (h : Open b N w) (i : Nat) (v : Value) (hi : i < N) : Open b N (w.setCell ⟨b, i, none⟩ v) := by
  refine ⟨by simpa [World.setCell] using h.1, fun j hj => ?_⟩
  obtain ⟨⟨u, h1⟩, h2⟩ := h.2 j hj
  refine ⟨?_, by simpa using h2⟩
  by_cases e : j = i
  · subst e; exact ⟨v, World.cell?_setCell_same _ _ _ h1⟩
  · exact ⟨u, by rw [setCell_ne _ _ _ _ _ (fun h => e h.symm)]; exact h1⟩

set_option maxHeartbeats 1600000 in
set_option maxRecDepth 100000 in
theorem markNodeS_open (b n cap : Nat) (k : Int) (w : World) (h : Open b (n * 3) w) (hl : n ≤ 1048576) (hk0 : 0 < k) (hk1 : k ≤ 1000000000) :
    Calls Tryz.prog 30 #[.slice (some ⟨b, 0, none⟩) n cap, .int .i64 k] w fun e w' => e = .returned (.int .i64 (k + 3 * n)) ∧ Mv b w w' := by
  have HO := hidOf h
  clear h
  go_enter Tryz.func30, Tryz.ntmps30
  go_wp2_with fail
  go_loopw [1, 5] (fun q i wr => ∃ m : Nat, m ≤ n ∧ i = .int .i64 m ∧ q = .int .i64 (k + 3 * m) ∧ Hid (Open b (n * 3) wr) ∧ Mv b w wr) (fun _ i _ => n - (intOf i).toNat)
  case atStart => exact ⟨0, Nat.zero_le _, rfl, by simp, HO, Mv.refl _ _⟩
  case round =>
    obtain ⟨m, hm, rfl, rfl, HC, hbel⟩ := hrel
    have p0 : IntKind.i64.wrap (k + 3 * m + 1) = k + 3 * m + 1 := IntWalk.i64_in _ ⟨by omega, by omega⟩
    have p1 : IntKind.i64.wrap (k + 3 * m + 1 + 1) = k + 3 * m + 1 + 1 := IntWalk.i64_in _ ⟨by omega, by omega⟩
    have p2 : IntKind.i64.wrap (k + 3 * m + 1 + 1 + 1) = k + 3 * m + 1 + 1 + 1 := IntWalk.i64_in _ ⟨by omega, by omega⟩
    by_cases hlt : m < n
    · have hbs := HC.out.1
      obtain ⟨⟨x0, c0⟩, f0⟩ := HC.out.2 (m * 3) (by omega)
      obtain ⟨⟨x1, c1⟩, f1⟩ := HC.out.2 (m * 3 + 1) (by omega)
      have HMT : Hid (∀ w, Calls Tryz.prog 63 #[.int .i64 (k + 3 * m + 1 + 1)] w fun e w' => e = .returned (.string (mtx (k + 3 * m + 1 + 1))) ∧ Below w.heap.size w w') := fun w => markText_any _ w (by omega) (by omega)
      have HO2 := hidOf ((HC.out.set (m * 3) (.int .i64 (k + 3 * m)) (by omega)).set (m * 3 + 1) (.int .i64 (k + 3 * m + 1)) (by omega))
      obtain ⟨W2, hW2⟩ : ∃ W2, W2 = (wr.setCell ⟨b, m * 3, none⟩ (.int .i64 (k + 3 * m))).setCell ⟨b, m * 3 + 1, none⟩ (.int .i64 (k + 3 * m + 1)) := ⟨_, rfl⟩
      have HW2 := hidOf hW2
      have HM2 : Hid (Mv b w W2) := by
        show Mv _ _ _
        rw [hW2]; exact (hbel.cell _ _).cell _ _
      have hc1 : (wr.setCell ⟨b, m * 3, none⟩ (.int .i64 (k + 3 * m))).cell? ⟨b, m * 3 + 1, none⟩ = some x1 := by rw [setCell_ne _ _ _ _ _ (by omega)]; exact c1
      rw [← hW2] at HO2
      clear hW2 c1
      go_wp2_with fail
      rw [← HW2.out]
      refine (HMT.out W2).mono ?_
      rintro e w3 ⟨rfl, hb3⟩
      have HO3 := hidOf (HO2.out.below hb3)
      have HM3 : Hid (Mv b w w3) := HM2.out.trans (Mv.of_below hb3)
      have hbs3 := HO3.out.1
      obtain ⟨⟨x2, c2⟩, f2⟩ := HO3.out.2 (m * 3 + 1 + 1) (by omega)
      clear hb3 c0 f0 f1 hc1 HO2 HW2 HM2
      go_wp2_with fail
      go_roundw
      case rel => exact ⟨m + 1, by omega, by go_num, congrArg (Value.int IntKind.i64) (by push_cast; omega), HO3.out.set _ _ (by omega), HM3.out.cell _ _⟩
      case measure => simp [intOf]; omega
    · have : m = n := by omega
      subst this
      go_wp2_with fail
      go_ret
      exact ⟨rfl, hbel⟩

set_option maxHeartbeats 1600000 in
set_option maxRecDepth 100000 in
theorem markStringS_open (b n cap : Nat) (k : Int) (w : World) (h : Open b n w) (hl : n ≤ 1048576) (hk0 : 0 < k) (hk1 : k ≤ 1000000000) :
    Calls Tryz.prog 40 #[.slice (some ⟨b, 0, none⟩) n cap, .int .i64 k] w fun e w' => e = .returned (.int .i64 (k + n)) ∧ Mv b w w' := by
  have HO := hidOf h
  clear h
  go_enter Tryz.func40, Tryz.ntmps40
  go_wp2_with fail
  go_loopw [1, 5] (fun q i wr => ∃ m : Nat, m ≤ n ∧ i = .int .i64 m ∧ q = .int .i64 (k + m) ∧ Hid (Open b n wr) ∧ Mv b w wr) (fun _ i _ => n - (intOf i).toNat)
  case atStart => exact ⟨0, Nat.zero_le _, rfl, by simp, HO, Mv.refl _ _⟩
  case round =>
    obtain ⟨m, hm, rfl, rfl, HC, hbel⟩ := hrel
    have p0 : IntKind.i64.wrap (k + m + 1) = k + m + 1 := IntWalk.i64_in _ ⟨by omega, by omega⟩
    by_cases hlt : m < n
    · have HMT : Hid (∀ w, Calls Tryz.prog 63 #[.int .i64 (k + m)] w fun e w' => e = .returned (.string (mtx (k + m))) ∧ Below w.heap.size w w') := fun w => markText_any _ w (by omega) (by omega)
      go_wp2_with fail
      refine (HMT.out wr).mono ?_
      rintro e w3 ⟨rfl, hb3⟩
      have HO3 := hidOf (HC.out.below hb3)
      have HM3 : Hid (Mv b w w3) := hbel.trans (Mv.of_below hb3)
      have hbs3 := HO3.out.1
      obtain ⟨⟨x2, c2⟩, f2⟩ := HO3.out.2 m (by omega)
      clear hb3
      go_wp2_with fail
      go_roundw
      case rel => exact ⟨m + 1, by omega, by go_num, congrArg (Value.int IntKind.i64) (by push_cast; omega), HO3.out.set _ _ (by omega), HM3.out.cell _ _⟩
      case measure => simp [intOf]; omega
    · have : m = n := by omega
      subst this
      go_wp2_with fail
      go_ret
      exact ⟨rfl, hbel⟩

def markO (n : Nat) (k : Int) : List (Int × Int) := (List.range n).map fun i : Nat => (k + 2 * i, k + 2 * i + 1)
theorem markO_len (n : Nat) (k : Int) : (markO n k).length = n := by simp [markO]
theorem markO_at {n : Nat} {k : Int} {i : Nat} (h : i < n) : (markO n k).getD i (0, 0) = (k + 2 * i, k + 2 * i + 1) := by simp [markO, List.getD_eq_getElem?_getD, h]

set_option maxHeartbeats 1600000 in
set_option maxRecDepth 100000 in
theorem markOpS_open (b n cap : Nat) (k : Int) (w : World) (h : Open b (n * 2) w) (hl : n ≤ 1048576) (hk0 : 0 < k) (hk1 : k ≤ 1000000000) :
    Calls Tryz.prog 41 #[.slice (some ⟨b, 0, none⟩) n cap, .int .i64 k] w fun e w' => e = .returned (.int .i64 (k + 2 * n)) ∧ Mv b w w' ∧ IsOps w' (some ⟨b, 0, none⟩) n (markO n k) := by
  have HO := hidOf h
  clear h
  go_enter Tryz.func41, Tryz.ntmps41
  go_wp2_with fail
  go_loopw [1, 5] (fun q i wr => ∃ m : Nat, m ≤ n ∧ i = .int .i64 m ∧ q = .int .i64 (k + 2 * m) ∧ Hid (Open b (n * 2) wr) ∧ Mv b w wr ∧ Hid (∀ i : Nat, i < m → wr.cell? ⟨b, i * 2, none⟩ = some (.int .i64 (k + 2 * i)) ∧ wr.cell? ⟨b, i * 2 + 1, none⟩ = some (.int .i64 (k + 2 * i + 1)))) (fun _ i _ => n - (intOf i).toNat)
  case atStart => exact ⟨0, Nat.zero_le _, rfl, by simp, HO, Mv.refl _ _, fun i hi => absurd hi (Nat.not_lt_zero _)⟩
  case round =>
    obtain ⟨m, hm, rfl, rfl, HC, hbel, HK⟩ := hrel
    have p0 : IntKind.i64.wrap (k + 2 * m + 1) = k + 2 * m + 1 := IntWalk.i64_in _ ⟨by omega, by omega⟩
    have p1 : IntKind.i64.wrap (k + 2 * m + 1 + 1) = k + 2 * m + 1 + 1 := IntWalk.i64_in _ ⟨by omega, by omega⟩
    by_cases hlt : m < n
    · have hbs := HC.out.1
      obtain ⟨⟨x0, c0⟩, f0⟩ := HC.out.2 (m * 2) (by omega)
      obtain ⟨⟨x1, c1⟩, f1⟩ := HC.out.2 (m * 2 + 1) (by omega)
      have HO2 := hidOf ((HC.out.set (m * 2) (.int .i64 (k + 2 * m)) (by omega)).set (m * 2 + 1) (.int .i64 (k + 2 * m + 1)) (by omega))
      have hc1 : (wr.setCell ⟨b, m * 2, none⟩ (.int .i64 (k + 2 * m))).cell? ⟨b, m * 2 + 1, none⟩ = some x1 := by rw [setCell_ne _ _ _ _ _ (by omega)]; exact c1
      have HK2 : Hid (∀ i : Nat, i < m + 1 → ((wr.setCell ⟨b, m * 2, none⟩ (.int .i64 (k + 2 * m))).setCell ⟨b, m * 2 + 1, none⟩ (.int .i64 (k + 2 * m + 1))).cell? ⟨b, i * 2, none⟩ = some (.int .i64 (k + 2 * i)) ∧ ((wr.setCell ⟨b, m * 2, none⟩ (.int .i64 (k + 2 * m))).setCell ⟨b, m * 2 + 1, none⟩ (.int .i64 (k + 2 * m + 1))).cell? ⟨b, i * 2 + 1, none⟩ = some (.int .i64 (k + 2 * i + 1))) := by
        intro i hi
        by_cases e : i = m
        · subst e
          exact ⟨by rw [setCell_ne _ _ _ _ _ (by omega)]; exact World.cell?_setCell_same _ _ _ c0, World.cell?_setCell_same _ _ _ hc1⟩
        · obtain ⟨k1, k2⟩ := HK.out i (by omega)
          exact ⟨by rw [setCell_ne _ _ _ _ _ (by omega), setCell_ne _ _ _ _ _ (by omega)]; exact k1, by rw [setCell_ne _ _ _ _ _ (by omega), setCell_ne _ _ _ _ _ (by omega)]; exact k2⟩
      clear c1
      go_wp2_with fail
      go_roundw
      case rel => exact ⟨m + 1, by omega, by go_num, congrArg (Value.int IntKind.i64) (by push_cast; omega), HO2.out, (hbel.cell _ _).cell _ _, HK2.out⟩
      case measure => simp [intOf]; omega
    · have : m = n := by omega
      subst this
      go_wp2_with fail
      go_ret
      refine ⟨rfl, hbel, markO_len _ _, .inr ⟨b, 0, rfl, HC.out.1, fun i hi => ?_⟩⟩
      rw [markO_at hi, Nat.zero_add]
      exact HK.out i hi

set_option maxHeartbeats 1600000 in
set_option maxRecDepth 100000 in
theorem heldOpS_any (a : Option Addr) (n cap : Nat) (k : Int) (w : World) (h : IsOps w a n (markO n k)) (hl : n ≤ 1048576) (hk0 : 0 < k) (hk1 : k ≤ 1000000000) :
    Calls Tryz.prog 42 #[.slice a n cap, .int .i64 k] w fun e w' => e = .returned (.int .i64 (k + 2 * n)) ∧ w' = w := by
  obtain ⟨hlen, hcells⟩ := h
  go_enter Tryz.func42, Tryz.ntmps42
  go_wp2_with fail
  go_loopw [1, 5] (fun q i wr => ∃ m : Nat, m ≤ n ∧ i = .int .i64 m ∧ q = .int .i64 (k + 2 * m) ∧ wr = w) (fun _ i _ => n - (intOf i).toNat)
  case atStart => exact ⟨0, Nat.zero_le _, rfl, by simp, rfl⟩
  case round =>
    obtain ⟨m, hm, rfl, rfl, rfl⟩ := hrel
    have p0 : IntKind.i64.wrap (k + 2 * m + 1) = k + 2 * m + 1 := IntWalk.i64_in _ ⟨by omega, by omega⟩
    have p1 : IntKind.i64.wrap (k + 2 * m + 1 + 1) = k + 2 * m + 1 + 1 := IntWalk.i64_in _ ⟨by omega, by omega⟩
    by_cases hlt : m < n
    · rcases hcells with h0 | ⟨b, off, rfl, hb, hc⟩
      · omega
      have cc := hc m hlt
      rw [markO_at hlt] at cc
      simp only at cc
      obtain ⟨c0, c1⟩ := cc
      clear hc
      go_wp2_with fail
      go_roundw
      case rel => exact ⟨m + 1, by omega, by go_num, congrArg (Value.int IntKind.i64) (by push_cast; omega), by first | rfl | trivial⟩
      case measure => simp [intOf]; omega
    · have : m = n := by omega
      subst this
      go_wp2_with fail
      go_ret
      exact ⟨rfl, rfl⟩
end Go.Proofs.YtbpfonmkbbnkcaaGreatDoor
