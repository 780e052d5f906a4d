/- The law's comparisons and marks at fires and beats. -/
import Derived.Test.YtlpdilmdhfemdaaFireMem
import Derived.Test.YtlpdilmdhfemdaaBeatOk
import Derived.Test.YtlpdilmdhfemdaaOpenMem
import Derived.Deep.RegionHeld3
namespace Go.Proofs.Ytlpdilmdhfemdaa
open Go Go.RowKit Go.PlainAid
set_option linter.unusedSimpArgs false
set_option linter.unusedVariables false

theorem eqFire_same (x y : Int) (w : World) : Calls Try.prog 25 #[.agg #[.int .i64 x, .int .i64 y], .agg #[.int .i64 x, .int .i64 y]] w fun e w' => e = .returned (.bool true) ∧ Below w.heap.size w w' := by
  go_enter Try.func25, Try.ntmps25
  go_wp2
  go_ret
  refine ⟨rfl, ?_⟩
  go_grown
theorem FreeF.at {B : Nat} {w : World} {a : Option Addr} {n : Nat} {l : List Fr} (h : FreeF B w a n l) {k : Nat} (hk : k < n) : ∃ b x y, a = some ⟨b, 0, none⟩ ∧ b < w.heap.size ∧ l[k]? = some (x, y) ∧ w.cell? ⟨b, k * 2, none⟩ = some (.int .i64 x) ∧ w.cell? ⟨b, k * 2 + 1, none⟩ = some (.int .i64 y) := by
  rcases h.there with h0 | ⟨b, rfl, h1, h2, h3, h4⟩
  · omega
  · have hl : k < l.length := by have := h.len; omega
    exact ⟨b, (l[k]).1, (l[k]).2, rfl, h2, by simp [hl], (h4 k hl).1, (h4 k hl).2⟩
set_option maxHeartbeats 1600000 in
set_option maxRecDepth 100000 in
/-- two slices that hold the same fires are the same -/
theorem eqFireS_same (B B' : Nat) (a a' : Option Addr) (n cap cap' : Nat) (l : List Fr) (w : World) (hn : n ≤ 1048576) (hz : FreeF B w a n l) (hz' : FreeF B' w a' n l) :
    Calls Try.prog 21 #[.slice a n cap, .slice a' n cap'] w fun e w' => e = .returned (.bool true) ∧ Below w.heap.size w w' := by
  have HZ := hidOf hz
  have HZ' := hidOf hz'
  clear hz hz'
  go_enter Try.func21, Try.ntmps21
  go_wp2
  go_loopw [5] (fun i wr => ∃ k : Nat, k ≤ n ∧ i = .int .i64 k ∧ Below w.heap.size w wr) (fun i _ => n - (intOf i).toNat)
  case atStart => exact ⟨0, Nat.zero_le _, rfl, Below.refl _ _⟩
  case round =>
    obtain ⟨k, hk, rfl, hbel⟩ := hrel
    by_cases hlt : k < n
    · obtain ⟨b, x, y, rfl, hb, hxy, c0, c1⟩ := (HZ.out.keep hbel).at hlt
      obtain ⟨b', x', y', rfl, hb', hxy', d0, d1⟩ := (HZ'.out.keep hbel).at hlt
      rw [hxy] at hxy'
      cases hxy'
      clear hxy
      go_wp2
      go_region_held3 (fun w' => w'.cell? ⟨b, k * 2, none⟩ = some (.int .i64 x) ∧ w'.cell? ⟨b, k * 2 + 1, none⟩ = some (.int .i64 y) ∧ w'.cell? ⟨b', k * 2, none⟩ = some (.int .i64 x) ∧ w'.cell? ⟨b', k * 2 + 1, none⟩ = some (.int .i64 y)) (simp [go_sem, *])
        (first | (go_at_call 25; refine (eqFire_same _ _ _).mono ?_; rintro e w' ⟨rfl, hb1⟩; replace hb1 := undrew hb1; obtain ⟨hc1, hf1⟩ := bcell hb1))
      go_wp2
      go_roundw
      case rel => exact ⟨k + 1, by omega, by go_num, hbel.trans (hb1.mono hbel.size)⟩
      case measure => simp [intOf]; omega
    · go_wp2
      go_ret
      exact ⟨rfl, hbel⟩

/-- from w to w' nothing that lay was turned but this slice's block -/
structure But (a : Option Addr) (n : Nat) (w w' : World) : Prop where
  os : w'.os = w.os
  tape : w'.tape = w.tape
  output : w'.output = w.output
  size : w.heap.size ≤ w'.heap.size
  block : ∀ k, k < w.heap.size → (∀ b, a = some ⟨b, 0, none⟩ → n ≠ 0 → k ≠ b) → w'.heap[k]? = w.heap[k]?
theorem But.refl (a : Option Addr) (n : Nat) (w : World) : But a n w w := ⟨rfl, rfl, rfl, Nat.le_refl _, fun _ _ _ => rfl⟩
theorem But.set {b n : Nat} {w w' : World} (h : But (some ⟨b, 0, none⟩) n w w') (hn : n ≠ 0) (i : Nat) (v : Value) : But (some ⟨b, 0, none⟩) n w (w'.setCell ⟨b, i, none⟩ v) :=
  ⟨h.os, h.tape, h.output, by simpa [World.setCell] using h.size, fun k hk hne => (Below.heap_setCell _ _ _ _ (hne b rfl hn)).trans (h.block k hk hne)⟩
/-- what lies below the slice's block is as it was -/
theorem But.below {B : Nat} {a : Option Addr} {n : Nat} {w w' : World} (h : But a n w w') (hB : B ≤ w.heap.size) (ha : ∀ b, a = some ⟨b, 0, none⟩ → n ≠ 0 → B ≤ b) : Below B w w' :=
  ⟨h.os, h.tape, h.output, h.size, fun k hk => h.block k (by omega) (fun b e hn => by have := ha b e hn; omega)⟩

set_option maxHeartbeats 1600000 in
set_option maxRecDepth 100000 in
theorem markBeatS_any (b n cap : Nat) (k : Int) (w : World) (h : n = 0 ∨ Open b (n * 3) w) (hl : n ≤ 1048576) (hk0 : 0 < k) (hk1 : k ≤ 100000000) :
    Calls Try.prog 22 #[.slice (some ⟨b, 0, none⟩) n cap, .int .i64 k] w fun e w' => e = .returned (.int .i64 (k + 3 * n)) ∧ But (some ⟨b, 0, none⟩) n w w' := by
  go_enter Try.func22, Try.ntmps22
  go_wp2_with fail
  go_loopw [1, 5] (fun q i wr => ∃ m : Nat, m ≤ n ∧ i = .int .i64 m ∧ q = .int .i64 (k + 3 * m) ∧ (n = 0 ∨ Open b (n * 3) wr) ∧ But (some ⟨b, 0, none⟩) n w wr) (fun _ i _ => n - (intOf i).toNat)
  case atStart => exact ⟨0, Nat.zero_le _, rfl, by simp, h, But.refl _ _ _⟩
  case round =>
    obtain ⟨m, hm, rfl, rfl, ho, hbut⟩ := hrel
    by_cases hlt : m < n
    · have hop : Open b (n * 3) wr := ho.resolve_left (by omega)
      have hb := hop.1
      obtain ⟨⟨v0, c0⟩, f0⟩ := hop.2 (m * 3) (by omega)
      obtain ⟨⟨v1, c1⟩, f1⟩ := hop.2 (m * 3 + 1) (by omega)
      obtain ⟨⟨v2, c2⟩, f2⟩ := hop.2 (m * 3 + 2) (by omega)
      have p0 : IntKind.i64.wrap (k + 3 * m + 1) = k + 3 * m + 1 := by rw [IntKind.wrap_i64]; omega
      have p1 : IntKind.i64.wrap (k + 3 * m + 1 + 1) = k + 3 * m + 1 + 1 := by rw [IntKind.wrap_i64]; omega
      have p2 : IntKind.i64.wrap (k + 3 * m + 1 + 1 + 1) = k + 3 * m + 1 + 1 + 1 := by rw [IntKind.wrap_i64]; omega
      have HO := hidOf hop
      clear ho hop
      go_wp2_with fail
      go_roundw
      case rel => exact ⟨m + 1, by omega, by go_num, by rw [show k + 3 * ((m + 1 : Nat) : Int) = k + 3 * m + 1 + 1 + 1 by omega], .inr (((HO.out.set _ _ (by omega)).set _ _ (by omega)).set _ _ (by omega)), ((hbut.set (by omega) _ _).set (by omega) _ _).set (by omega) _ _⟩
      case measure => simp [intOf]; omega
    · have : m = n := by omega
      subst this
      go_wp2_with fail
      go_ret
      exact ⟨rfl, hbut⟩

/-- the marks -/
def mkF (k : Int) (n : Nat) : List Fr := (List.range n).map fun i : Nat => (k + 2 * (i : Int), k + 2 * (i : Int) + 1)
theorem mkF_at (k : Int) (n i : Nat) (h : i < (mkF k n).length) : (mkF k n)[i] = (k + 2 * (i : Int), k + 2 * (i : Int) + 1) := by simp [mkF]
set_option maxHeartbeats 1600000 in
set_option maxRecDepth 100000 in
theorem markFireS_any (B : Nat) (a : Option Addr) (n cap : Nat) (l : List Fr) (k : Int) (w : World) (h : FreeF B w a n l) (hl : n ≤ 1048576) (hk0 : 0 < k) (hk1 : k ≤ 100000000) :
    Calls Try.prog 23 #[.slice a n cap, .int .i64 k] w fun e w' => e = .returned (.int .i64 (k + 2 * n)) ∧ FreeF B w' a n (mkF k n) ∧ But a n w w' := by
  by_cases hn : n = 0
  · subst hn
    go_enter Try.func23, Try.ntmps23
    go_wp2_with fail
    go_loopw [1, 5] (fun q i wr => i = .int .i64 0 ∧ q = .int .i64 k ∧ wr = w) (fun _ i _ => 0)
    case atStart => exact ⟨rfl, rfl, rfl⟩
    case round =>
      obtain ⟨rfl, rfl, rfl⟩ := hrel
      go_wp2_with fail
      go_ret
      exact ⟨by simp, ⟨rfl, .inl rfl⟩, But.refl _ _ _⟩
  · rcases h.there with h0 | ⟨b, rfl, h1, h2, h3, h4⟩
    · exact absurd h0 hn
    have hop : Open b (n * 2) w := ⟨h2, fun j hj => ⟨by
      have hj2 : j / 2 < l.length := by have := h.len; omega
      have := h4 (j / 2) hj2
      by_cases e : j % 2 = 0
      · rw [show j / 2 * 2 = j by omega] at this; exact ⟨_, this.1⟩
      · rw [show j / 2 * 2 + 1 = j by omega] at this; exact ⟨_, this.2⟩, h3 j⟩⟩
    have H3 : Hid (∀ j, w.frozen? ⟨b, j, none⟩ = false) := h3
    clear h h3 h4
    go_enter Try.func23, Try.ntmps23
    go_wp2_with fail
    go_loopw [1, 5] (fun q i wr => ∃ m : Nat, m ≤ n ∧ i = .int .i64 m ∧ q = .int .i64 (k + 2 * m) ∧ Open b (n * 2) wr ∧ Hid (∀ j, wr.frozen? ⟨b, j, none⟩ = false) ∧ Hid (∀ i : Nat, i < m → wr.cell? ⟨b, i * 2, none⟩ = some (.int .i64 (k + 2 * i)) ∧ wr.cell? ⟨b, i * 2 + 1, none⟩ = some (.int .i64 (k + 2 * i + 1))) ∧ But (some ⟨b, 0, none⟩) n w wr) (fun _ i _ => n - (intOf i).toNat)
    case atStart => exact ⟨0, Nat.zero_le _, rfl, by simp, hop, H3.out, fun i hi => by omega, But.refl _ _ _⟩
    case round =>
      obtain ⟨m, hm, rfl, rfl, hop, HF, HC, hbut⟩ := hrel
      by_cases hlt : m < n
      · have hb := hop.1
        obtain ⟨⟨v0, c0⟩, f0⟩ := hop.2 (m * 2) (by omega)
        obtain ⟨⟨v1, c1⟩, f1⟩ := hop.2 (m * 2 + 1) (by omega)
        have p0 : IntKind.i64.wrap (k + 2 * m + 1) = k + 2 * m + 1 := by rw [IntKind.wrap_i64]; omega
        have p1 : IntKind.i64.wrap (k + 2 * m + 1 + 1) = k + 2 * m + 1 + 1 := by rw [IntKind.wrap_i64]; omega
        have HO := hidOf hop
        clear hop
        go_wp2_with fail
        go_roundw
        case rel =>
          refine ⟨m + 1, by omega, by go_num, by rw [show k + 2 * ((m + 1 : Nat) : Int) = k + 2 * m + 1 + 1 by omega], (HO.out.set _ _ (by omega)).set _ _ (by omega), fun j => by simpa using HF.out j, fun i hi => ?_, (hbut.set hn _ _).set hn _ _⟩
          by_cases e : i = m
          · subst e
            refine ⟨?_, ?_⟩
            · rw [setCell_ne _ _ _ _ _ (by omega)]; exact World.cell?_setCell_same _ _ _ c0
            · exact World.cell?_setCell_same _ _ _ (by rw [setCell_ne _ _ _ _ _ (by omega)]; exact c1)
          · have := HC.out i (by omega)
            rw [setCell_ne _ _ _ _ _ (by omega), setCell_ne _ _ _ _ _ (by omega), setCell_ne _ _ _ _ _ (by omega), setCell_ne _ _ _ _ _ (by omega)]
            exact this
        case measure => simp [intOf]; omega
      · have : m = n := by omega
        subst this
        go_wp2_with fail
        go_ret
        refine ⟨rfl, ⟨by simp [mkF], .inr ⟨b, rfl, h1, hop.1, HF.out, fun i hi => ?_⟩⟩, hbut⟩
        rw [mkF_at]
        exact HC.out i (by simpa [mkF] using hi)
set_option maxHeartbeats 1600000 in
set_option maxRecDepth 100000 in
theorem heldFireS_any (B : Nat) (a : Option Addr) (n cap : Nat) (k : Int) (w : World) (h : FreeF B w a n (mkF k n)) (hl : n ≤ 1048576) (hk0 : 0 < k) (hk1 : k ≤ 100000000) :
    Calls Try.prog 24 #[.slice a n cap, .int .i64 k] w fun e w' => e = .returned (.int .i64 (k + 2 * n)) ∧ w' = w := by
  have HZ := hidOf h
  clear h
  go_enter Try.func24, Try.ntmps24
  go_wp2_with fail
  go_loopw [1, 5] (fun q i wr => ∃ m : Nat, m ≤ n ∧ i = .int .i64 m ∧ q = .int .i64 (k + 2 * m) ∧ wr = w) (fun _ i _ => n - (intOf i).toNat)
  case atStart => exact ⟨0, Nat.zero_le _, rfl, by simp, rfl⟩
  case round =>
    obtain ⟨m, hm, rfl, rfl, rfl⟩ := hrel
    by_cases hlt : m < n
    · obtain ⟨b, x, y, rfl, hb, hxy, c0, c1⟩ := HZ.out.at hlt
      have hml : m < (mkF k n).length := by simp [mkF]; omega
      rw [List.getElem?_eq_getElem hml, mkF_at] at hxy
      cases hxy
      have p0 : IntKind.i64.wrap (k + 2 * m + 1) = k + 2 * m + 1 := by rw [IntKind.wrap_i64]; omega
      have p1 : IntKind.i64.wrap (k + 2 * m + 1 + 1) = k + 2 * m + 1 + 1 := by rw [IntKind.wrap_i64]; omega
      clear hml
      go_wp2_with fail
      go_roundw
      case rel => exact ⟨m + 1, by omega, by go_num, by rw [show k + 2 * ((m + 1 : Nat) : Int) = k + 2 * m + 1 + 1 by omega], by first | rfl | trivial⟩
      case measure => simp [intOf]; omega
    · have : m = n := by omega
      subst this
      go_wp2_with fail
      go_ret
      exact ⟨rfl, rfl⟩
end Go.Proofs.Ytlpdilmdhfemdaa
