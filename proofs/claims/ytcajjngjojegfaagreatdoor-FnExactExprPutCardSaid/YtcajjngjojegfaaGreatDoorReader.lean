/- The program's reader: what is left of a text, and how many parentheses are open; blanks. -/
import Derived.Test.YtcajjngjojegfaaGreatDoorClimb5
import Derived.Test.YtcajjngjojegfaaGreatDoorMoves
import Derived.Deep.QuietTactic
import Derived.BigQuiet
namespace Go.Proofs.YtcajjngjojegfaaGreatDoor
open Go Go.RowKit Go.PlainAid
set_option linter.unusedSimpArgs false
set_option linter.unusedVariables false

/-- what is left of a text from a place on -/
def tl (s : ByteArray) (a : Nat) : ByteArray := s.extract a s.size
theorem tl_size (s : ByteArray) (a : Nat) : (tl s a).size = s.size - a := by unfold tl; rw [ByteArray.size_extract]; omega
theorem tl_zero (s : ByteArray) : tl s 0 = s := by
  unfold tl
  exact ByteArray.extract_zero_size
theorem extract_extract' (s : ByteArray) (a b i j : Nat) (hb : b ≤ s.size) (hj : a + j ≤ b) : (s.extract a b).extract i j = s.extract (a + i) (a + j) := by
  apply ByteArray.ext
  apply Array.ext
  · show ((s.extract a b).extract i j).size = (s.extract (a + i) (a + j)).size
    rw [ByteArray.size_extract, ByteArray.size_extract, ByteArray.size_extract]; omega
  · intro k h1 h2
    have h1' : k < ((s.extract a b).extract i j).size := h1
    have h2' : k < (s.extract (a + i) (a + j)).size := h2
    show ((s.extract a b).extract i j)[k] = (s.extract (a + i) (a + j))[k]
    rw [ByteArray.getElem_extract, ByteArray.getElem_extract, ByteArray.getElem_extract]
    congr 1
    omega
theorem tl_tl (s : ByteArray) {a n : Nat} (h : a + n ≤ s.size) : (tl s a).extract n (s.size - a) = tl s (a + n) := by
  unfold tl
  rw [extract_extract' s a s.size n (s.size - a) (Nat.le_refl _) (by omega)]
  congr 1
  omega
theorem tl_bt (s : ByteArray) (a k : Nat) : bt (tl s a) k = bt s (a + k) := by
  rcases Nat.lt_or_ge (a + k) s.size with h | h
  · exact bt_extract s (Nat.le_refl _) h
  · rw [bt_end s h, bt_end _ (by rw [tl_size]; omega)]

theorem ret_txt {a b : ByteArray} (h : a = b) : Ending.returned (.string a) = .returned (.string b) := by rw [h]
theorem empty_of {x : ByteArray} (h : x.size = 0) : x = ⟨#[]⟩ := by
  apply ByteArray.ext
  apply Array.eq_empty_of_size_eq_zero
  exact h

set_option maxHeartbeats 400000 in
theorem trimLeftByte_any (s : ByteArray) (a : Nat) (w : World) (hs : s.size ≤ 1048576) (ha : a ≤ s.size) : Calls Tryz.prog 134 #[.string (tl s a), .int .u8 32] w fun e w' => e = .returned (.string (tl s (skipTo s a))) ∧ w' = w := by
  go_enter Tryz.func134, Tryz.ntmps134
  go_wp2
  go_loop [0] (fun v => ∃ k : Nat, k ≤ s.size ∧ v = .string (tl s k) ∧ Hid (skipTo s k = skipTo s a)) (fun v => match v with | .string x => x.size | _ => 0)
  case atStart => exact ⟨a, ha, rfl, rfl⟩
  case round =>
    obtain ⟨k, hk, rfl, HK⟩ := hrel
    have hsz := tl_size s k
    have hb := get_bt (tl s k)
    have hb0 := tl_bt s k 0
    rw [Nat.add_zero] at hb0
    by_cases hlt : k < s.size
    · have hpos : 0 < (tl s k).size := by omega
      by_cases h32 : bt s k = 32
      · have HK1 : Hid (skipTo s (k + 1) = skipTo s a) := by
          show skipTo s (k + 1) = _
          rw [← skipTo_step hlt h32]; exact HK.out
        have ht : Hid ((tl s k).extract 1 (s.size - k) = tl s (k + 1)) := tl_tl s (a := k) (n := 1) (by omega)
        rw [h32] at hb0
        generalize tl s k = x at *
        go_wp2
        go_round
        case rel => exact ⟨k + 1, by omega, by rw [← ht.out, ← hsz], HK1.out⟩
        case measure => simp; omega
      · have hne : (bt (tl s k) 0 == 32) = false := by rw [hb0]; simp [h32]
        have HD : Hid (tl s k = tl s (skipTo s a)) := by
          show tl s k = _
          rw [← HK.out, skipTo_stop (fun h => h32 h.2)]
        generalize tl s k = x at *
        go_wp2
        go_ret
        exact ⟨ret_txt HD.out, rfl⟩
    · have hz : (tl s k).size = 0 := by omega
      have HD : Hid (tl s k = tl s (skipTo s a)) := by
        show tl s k = _
        rw [← HK.out, skipTo_stop (by omega)]
      generalize tl s k = x at *
      go_wp2
      go_ret
      exact ⟨ret_txt HD.out, rfl⟩
set_option maxRecDepth 100000 in
theorem trimLeft_any (s : ByteArray) (a : Nat) (w : World) (hs : s.size ≤ 1048576) (ha : a ≤ s.size) : Calls Tryz.prog 126 #[.string (tl s a), .string ⟨#[32]⟩] w fun e w' => e = .returned (.string (tl s (skipTo s a))) ∧ w' = w := by
  by_cases h0 : (tl s a).size = 0
  · have hD : tl s (skipTo s a) = tl s a := by rw [skipTo_stop (by rw [tl_size] at h0; omega)]
    rw [hD, empty_of h0]
    go_enter Tryz.func126, Tryz.ntmps126
    go_wp2
    go_ret
    exact ⟨rfl, rfl⟩
  · have HT := fun w => trimLeftByte_any s a w hs ha
    obtain ⟨x, hx⟩ : ∃ x, tl s a = x := ⟨_, rfl⟩
    rw [hx] at h0 HT ⊢
    have HT' : Hid (∀ w, Calls Tryz.prog 134 #[.string x, .int .u8 32] w fun e w' => e = .returned (.string (tl s (skipTo s a))) ∧ w' = w) := HT
    clear HT hx
    have hl : ¬ x.toList = [] := by
      intro h
      rw [Lib.toList_data] at h
      apply h0
      show x.data.size = 0
      rw [← Array.length_toList, h]; rfl
    have he : x.toList.isEmpty = false := by simpa using hl
    have hb := get_bt ⟨#[32]⟩
    have hb2 : bt ⟨#[32]⟩ 0 = 32 := by decide
    go_enter Tryz.func126, Tryz.ntmps126
    go_wp2_with (go_at_call 134; refine (HT'.out _).mono ?_; rintro e w' ⟨rfl, rfl⟩)
    go_ret
    exact ⟨rfl, rfl⟩

/-- the reader in memory -/
structure RdI (w : World) (p : Nat) (s : ByteArray) (a d : Nat) : Prop where
  c0 : w.cell? ⟨p, 0, none⟩ = some (.string (tl s a))
  c1 : w.cell? ⟨p, 1, none⟩ = some (.int .i64 d)
  fz : ∀ j, w.frozen? ⟨p, j, none⟩ = false
theorem RdI.lt {w : World} {p : Nat} {s : ByteArray} {a d : Nat} (h : RdI w p s a d) : p < w.heap.size := World.block_lt_of_cell? w _ h.c0
theorem RdI.at {w : World} {p : Nat} {s : ByteArray} {a d : Nat} (h : RdI w p s a d) (b : Nat) : RdI (w.setCell ⟨p, 0, none⟩ (.string (tl s b))) p s b d :=
  ⟨World.cell?_setCell_same _ _ _ h.c0, by rw [World.cell?_setCell_other _ _ _ _ (by intro hh; injection hh with _ h2; omega)]; exact h.c1, fun j => by simpa using h.fz j⟩
theorem RdI.op {w : World} {p : Nat} {s : ByteArray} {a d : Nat} (h : RdI w p s a d) (e : Nat) : RdI (w.setCell ⟨p, 1, none⟩ (.int .i64 e)) p s a e :=
  ⟨by rw [World.cell?_setCell_other _ _ _ _ (by intro hh; injection hh with _ h2; omega)]; exact h.c0, World.cell?_setCell_same _ _ _ h.c1, fun j => by simpa using h.fz j⟩
theorem RdI.drewN {w : World} {p : Nat} {s : ByteArray} {a d : Nat} (h : RdI w p s a d) (n : Nat) : RdI (w.drewN n) p s a d := ⟨h.c0, h.c1, h.fz⟩
theorem Mv.cell {p : Nat} {w w' : World} (h : Mv p w w') (j : Nat) (v : Value) : Mv p w (w'.setCell ⟨p, j, none⟩ v) :=
  ⟨h.os, h.tape, h.output, by simpa [World.setCell] using h.size, fun b h1 h2 => (Below.heap_setCell w' ⟨p, j, none⟩ v b (by simpa using h2)).trans (h.block b h1 h2)⟩
theorem skip_rd (p : Nat) (s : ByteArray) (a d n : Nat) (w : World) (h : RdI w p s a d) (hs : s.size ≤ 1048576) (ha : a + n ≤ s.size) :
    Calls Tryz.prog 103 #[.pointer (some ⟨p, 0, none⟩), .int .i64 n] w fun e w' => e = .returned (.tuple #[]) ∧ w' = w.setCell ⟨p, 0, none⟩ (.string (tl s (a + n))) := by
  obtain ⟨c0, c1, fz⟩ := h
  have f0 := fz 0
  have hsz := tl_size s a
  have ht : Hid ((tl s a).extract n (s.size - a) = tl s (a + n)) := tl_tl s ha
  generalize tl s a = x at *
  clear fz
  go_enter Tryz.func103, Tryz.ntmps103
  go_wp2
  go_end0
  exact ⟨rfl, by rw [← ht.out, ← hsz]⟩
theorem skipBlanks_rd (p : Nat) (s : ByteArray) (a d : Nat) (w : World) (h : RdI w p s a d) (hs : s.size ≤ 1048576) (ha : a ≤ s.size) :
    Calls Tryz.prog 115 #[.pointer (some ⟨p, 0, none⟩)] w fun e w' => e = .returned (.tuple #[]) ∧ w' = w.setCell ⟨p, 0, none⟩ (.string (tl s (skipTo s a))) := by
  obtain ⟨c0, c1, fz⟩ := h
  have f0 := fz 0
  have HT : Hid (∀ w, Calls Tryz.prog 126 #[.string (tl s a), .string ⟨#[32]⟩] w fun e w' => e = .returned (.string (tl s (skipTo s a))) ∧ w' = w) := fun w => trimLeft_any s a w hs ha
  generalize tl s a = x at *
  clear fz
  go_enter Tryz.func115, Tryz.ntmps115
  go_wp2_with (go_at_call 126; refine (HT.out _).mono ?_; rintro e w' ⟨rfl, hw'⟩; rw [hw']; clear hw' w')
  go_end0
  exact ⟨rfl, rfl⟩
theorem Mv.drewN {p : Nat} {w w' : World} (h : Mv p w w') (n : Nat) : Mv p w (w'.drewN n) := ⟨h.os, h.tape, h.output, h.size, h.block⟩
end Go.Proofs.YtcajjngjojegfaaGreatDoor
