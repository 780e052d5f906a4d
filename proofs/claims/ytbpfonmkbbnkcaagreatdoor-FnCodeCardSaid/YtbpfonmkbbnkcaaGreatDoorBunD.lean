/- What moves: one block that a reader owns, and new blocks. -/
import Derived.Test.YtbpfonmkbbnkcaaGreatDoorBunA
import Derived.Test.YtbpfonmkbbnkcaaGreatDoorBunC
import Derived.Deep.QuietTactic
import Derived.BigQuiet
import Derived.Laws.IdiomStrings
import Derived.Deep.RegionLaw
import Derived.Deep.RegionWith
import Derived.Deep.AppendLies
namespace Go.Proofs.YtbpfonmkbbnkcaaGreatDoor
open Go Go.RowKit Go.PlainAid

/-- all that was is as it was, but the reader -/
structure Mv (p : Nat) (w w' : World) : Prop where
  os : w'.os = w.os
  tape : w'.tape = w.tape
  output : w'.output = w.output
  size : w.heap.size ≤ w'.heap.size
  block : ∀ g, g < w.heap.size → g ≠ p → w'.heap[g]? = w.heap[g]?
theorem Mv.refl (p : Nat) (w : World) : Mv p w w := ⟨rfl, rfl, rfl, Nat.le_refl _, fun _ _ _ => rfl⟩
theorem Mv.trans {p : Nat} {a b c : World} (h : Mv p a b) (k : Mv p b c) : Mv p a c :=
  ⟨k.os.trans h.os, k.tape.trans h.tape, k.output.trans h.output, Nat.le_trans h.size k.size, fun g h1 h2 => (k.block g (Nat.lt_of_lt_of_le h1 h.size) h2).trans (h.block g h1 h2)⟩
theorem Mv.of_below {p : Nat} {w w' : World} (h : Below w.heap.size w w') : Mv p w w' := ⟨h.os, h.tape, h.output, h.size, fun g h1 _ => h.block g h1⟩
theorem Mv.step (p : Nat) (w : World) (v : Value) (d : Nat) : Mv p w ((w.setCell ⟨p, 1, none⟩ v).drewN d) :=
  ⟨rfl, rfl, rfl, by simp [World.drewN, World.setCell], fun g _ h2 => Below.heap_setCell w ⟨p, 1, none⟩ v g h2⟩
end Go.Proofs.YtbpfonmkbbnkcaaGreatDoor

/- The program's reader: what is left of a text, and how many parentheses are open; blanks. -/
namespace Go.Proofs.YtbpfonmkbbnkcaaGreatDoor
open Go Go.RowKit Go.PlainAid
set_option linter.unusedSimpArgs false
set_option linter.unusedVariables false

/-- what is left of a text from a place on -/
def tl (s : ByteArray) (a : Nat) : ByteArray := s.extract a s.size
theorem tl_size (s : ByteArray) (a : Nat) : (tl s a).size = s.size - a := by unfold tl; rw [ByteArray.size_extract]; omega
theorem tl_zero (s : ByteArray) : tl s 0 = s := by
  unfold tl
  exact ByteArray.extract_zero_size
theorem extract_extract' (s : ByteArray) (a b i j : Nat) (hb : b ≤ s.size) (hj : a + j ≤ b) : (s.extract a b).extract i j = s.extract (a + i) (a + j) := by
  apply ByteArray.ext
  apply Array.ext
  · show ((s.extract a b).extract i j).size = (s.extract (a + i) (a + j)).size
    rw [ByteArray.size_extract, ByteArray.size_extract, ByteArray.size_extract]; omega
  · intro k h1 h2
    have h1' : k < ((s.extract a b).extract i j).size := h1
    have h2' : k < (s.extract (a + i) (a + j)).size := h2
    show ((s.extract a b).extract i j)[k] = (s.extract (a + i) (a + j))[k]
    rw [ByteArray.getElem_extract, ByteArray.getElem_extract, ByteArray.getElem_extract]
    congr 1
    omega
theorem tl_tl (s : ByteArray) {a n : Nat} (h : a + n ≤ s.size) : (tl s a).extract n (s.size - a) = tl s (a + n) := by
  unfold tl
  rw [extract_extract' s a s.size n (s.size - a) (Nat.le_refl _) (by omega)]
  congr 1
  omega
theorem tl_bt (s : ByteArray) (a k : Nat) : bt (tl s a) k = bt s (a + k) := by
  rcases Nat.lt_or_ge (a + k) s.size with h | h
  · exact bt_extract s (Nat.le_refl _) h
  · rw [bt_end s h, bt_end _ (by rw [tl_size]; omega)]

theorem ret_txt {a b : ByteArray} (h : a = b) : Ending.returned (.string a) = .returned (.string b) := by rw [h]
theorem empty_of {x : ByteArray} (h : x.size = 0) : x = ⟨#[]⟩ := by
  apply ByteArray.ext
  apply Array.eq_empty_of_size_eq_zero
  exact h

set_option maxHeartbeats 400000 in
theorem trimLeftByte_any (s : ByteArray) (a : Nat) (w : World) (hs : s.size ≤ 1048576) (ha : a ≤ s.size) : Calls Tryz.prog 134 #[.string (tl s a), .int .u8 32] w fun e w' => e = .returned (.string (tl s (skipTo s a))) ∧ w' = w := by
  go_enter Tryz.func134, Tryz.ntmps134
  go_wp2
  go_loop [0] (fun v => ∃ k : Nat, k ≤ s.size ∧ v = .string (tl s k) ∧ Hid (skipTo s k = skipTo s a)) (fun v => match v with | .string x => x.size | _ => 0)
  case atStart => exact ⟨a, ha, rfl, rfl⟩
  case round =>
    obtain ⟨k, hk, rfl, HK⟩ := hrel
    have hsz := tl_size s k
    have hb := get_bt (tl s k)
    have hb0 := tl_bt s k 0
    rw [Nat.add_zero] at hb0
    by_cases hlt : k < s.size
    · have hpos : 0 < (tl s k).size := by omega
      by_cases h32 : bt s k = 32
      · have HK1 : Hid (skipTo s (k + 1) = skipTo s a) := by
          show skipTo s (k + 1) = _
          rw [← skipTo_step hlt h32]; exact HK.out
        have ht : Hid ((tl s k).extract 1 (s.size - k) = tl s (k + 1)) := tl_tl s (a := k) (n := 1) (by omega)
        rw [h32] at hb0
        generalize tl s k = x at *
        go_wp2
        go_round
        case rel => exact ⟨k + 1, by omega, by rw [← ht.out, ← hsz], HK1.out⟩
        case measure => simp; omega
      · have hne : (bt (tl s k) 0 == 32) = false := by rw [hb0]; simp [h32]
        have HD : Hid (tl s k = tl s (skipTo s a)) := by
          show tl s k = _
          rw [← HK.out, skipTo_stop (fun h => h32 h.2)]
        generalize tl s k = x at *
        go_wp2
        go_ret
        exact ⟨ret_txt HD.out, rfl⟩
    · have hz : (tl s k).size = 0 := by omega
      have HD : Hid (tl s k = tl s (skipTo s a)) := by
        show tl s k = _
        rw [← HK.out, skipTo_stop (by omega)]
      generalize tl s k = x at *
      go_wp2
      go_ret
      exact ⟨ret_txt HD.out, rfl⟩
set_option maxRecDepth 100000 in
theorem trimLeft_any (s : ByteArray) (a : Nat) (w : World) (hs : s.size ≤ 1048576) (ha : a ≤ s.size) : Calls Tryz.prog 126 #[.string (tl s a), .string ⟨#[32]⟩] w fun e w' => e = .returned (.string (tl s (skipTo s a))) ∧ w' = w := by
  by_cases h0 : (tl s a).size = 0
  · have hD : tl s (skipTo s a) = tl s a := by rw [skipTo_stop (by rw [tl_size] at h0; omega)]
    rw [hD, empty_of h0]
    go_enter Tryz.func126, Tryz.ntmps126
    go_wp2
    go_ret
    exact ⟨rfl, rfl⟩
  · have HT := fun w => trimLeftByte_any s a w hs ha
    obtain ⟨x, hx⟩ : ∃ x, tl s a = x := ⟨_, rfl⟩
    rw [hx] at h0 HT ⊢
    have HT' : Hid (∀ w, Calls Tryz.prog 134 #[.string x, .int .u8 32] w fun e w' => e = .returned (.string (tl s (skipTo s a))) ∧ w' = w) := HT
    clear HT hx
    have hl : ¬ x.toList = [] := by
      intro h
      rw [Lib.toList_data] at h
      apply h0
      show x.data.size = 0
      rw [← Array.length_toList, h]; rfl
    have he : x.toList.isEmpty = false := by simpa using hl
    have hb := get_bt ⟨#[32]⟩
    have hb2 : bt ⟨#[32]⟩ 0 = 32 := by decide
    go_enter Tryz.func126, Tryz.ntmps126
    go_wp2_with (go_at_call 134; refine (HT'.out _).mono ?_; rintro e w' ⟨rfl, rfl⟩)
    go_ret
    exact ⟨rfl, rfl⟩

/-- the reader in memory -/
structure RdI (w : World) (p : Nat) (s : ByteArray) (a d : Nat) : Prop where
  c0 : w.cell? ⟨p, 0, none⟩ = some (.string (tl s a))
  c1 : w.cell? ⟨p, 1, none⟩ = some (.int .i64 d)
  fz : ∀ j, w.frozen? ⟨p, j, none⟩ = false
theorem RdI.lt {w : World} {p : Nat} {s : ByteArray} {a d : Nat} (h : RdI w p s a d) : p < w.heap.size := World.block_lt_of_cell? w _ h.c0
theorem RdI.at {w : World} {p : Nat} {s : ByteArray} {a d : Nat} (h : RdI w p s a d) (b : Nat) : RdI (w.setCell ⟨p, 0, none⟩ (.string (tl s b))) p s b d :=
  ⟨World.cell?_setCell_same _ _ _ h.c0, by rw [World.cell?_setCell_other _ _ _ _ (by intro hh; injection hh with _ h2; omega)]; exact h.c1, fun j => by simpa using h.fz j⟩
theorem RdI.op {w : World} {p : Nat} {s : ByteArray} {a d : Nat} (h : RdI w p s a d) (e : Nat) : RdI (w.setCell ⟨p, 1, none⟩ (.int .i64 e)) p s a e :=
  ⟨by rw [World.cell?_setCell_other _ _ _ _ (by intro hh; injection hh with _ h2; omega)]; exact h.c0, World.cell?_setCell_same _ _ _ h.c1, fun j => by simpa using h.fz j⟩
theorem RdI.drewN {w : World} {p : Nat} {s : ByteArray} {a d : Nat} (h : RdI w p s a d) (n : Nat) : RdI (w.drewN n) p s a d := ⟨h.c0, h.c1, h.fz⟩
theorem Mv.cell {p : Nat} {w w' : World} (h : Mv p w w') (j : Nat) (v : Value) : Mv p w (w'.setCell ⟨p, j, none⟩ v) :=
  ⟨h.os, h.tape, h.output, by simpa [World.setCell] using h.size, fun b h1 h2 => (Below.heap_setCell w' ⟨p, j, none⟩ v b (by simpa using h2)).trans (h.block b h1 h2)⟩
theorem skip_rd (p : Nat) (s : ByteArray) (a d n : Nat) (w : World) (h : RdI w p s a d) (hs : s.size ≤ 1048576) (ha : a + n ≤ s.size) :
    Calls Tryz.prog 103 #[.pointer (some ⟨p, 0, none⟩), .int .i64 n] w fun e w' => e = .returned (.tuple #[]) ∧ w' = w.setCell ⟨p, 0, none⟩ (.string (tl s (a + n))) := by
  obtain ⟨c0, c1, fz⟩ := h
  have f0 := fz 0
  have hsz := tl_size s a
  have ht : Hid ((tl s a).extract n (s.size - a) = tl s (a + n)) := tl_tl s ha
  generalize tl s a = x at *
  clear fz
  go_enter Tryz.func103, Tryz.ntmps103
  go_wp2
  go_end0
  exact ⟨rfl, by rw [← ht.out, ← hsz]⟩
theorem skipBlanks_rd (p : Nat) (s : ByteArray) (a d : Nat) (w : World) (h : RdI w p s a d) (hs : s.size ≤ 1048576) (ha : a ≤ s.size) :
    Calls Tryz.prog 115 #[.pointer (some ⟨p, 0, none⟩)] w fun e w' => e = .returned (.tuple #[]) ∧ w' = w.setCell ⟨p, 0, none⟩ (.string (tl s (skipTo s a))) := by
  obtain ⟨c0, c1, fz⟩ := h
  have f0 := fz 0
  have HT : Hid (∀ w, Calls Tryz.prog 126 #[.string (tl s a), .string ⟨#[32]⟩] w fun e w' => e = .returned (.string (tl s (skipTo s a))) ∧ w' = w) := fun w => trimLeft_any s a w hs ha
  generalize tl s a = x at *
  clear fz
  go_enter Tryz.func115, Tryz.ntmps115
  go_wp2_with (go_at_call 126; refine (HT.out _).mono ?_; rintro e w' ⟨rfl, hw'⟩; rw [hw']; clear hw' w')
  go_end0
  exact ⟨rfl, rfl⟩
theorem Mv.drewN {p : Nat} {w w' : World} (h : Mv p w w') (n : Nat) : Mv p w (w'.drewN n) := ⟨h.os, h.tape, h.output, h.size, h.block⟩
end Go.Proofs.YtbpfonmkbbnkcaaGreatDoor

/- The program's reader: signs, words. -/
namespace Go.Proofs.YtbpfonmkbbnkcaaGreatDoor
open Go Go.RowKit Go.PlainAid
set_option linter.unusedSimpArgs false
set_option linter.unusedVariables false

theorem slitePrefix_any (s g : ByteArray) (a : Nat) (w : World) (hs : s.size ≤ 1048576) (hg : g.size ≤ 1048576) (ha : a ≤ s.size) : Calls Tryz.prog 127 #[.string (tl s a), .string g] w fun e w' => e = .returned (.bool (hasAt s a g)) ∧ w' = w := by
  have hsz := tl_size s a
  by_cases hl : g.size ≤ s.size - a
  · have HE : Hid (((tl s a).extract 0 g.size).toList = (s.extract a (a + g.size)).toList) := by
      show ((tl s a).extract 0 g.size).toList = _
      unfold tl
      rw [extract_extract' s a s.size 0 g.size (Nat.le_refl _) (by omega), Nat.add_zero]
    have HH : Hid (hasAt s a g = ((s.extract a (a + g.size)).toList == g.toList)) := by
      show hasAt s a g = _
      unfold hasAt
      rw [decide_eq_true (by omega), Bool.true_and]
    generalize tl s a = x at *
    go_enter Tryz.func127, Tryz.ntmps127
    go_wp2
    go_ret
    exact ⟨ret_bool (by rw [HH.out, HE.out]), rfl⟩
  · have HH : hasAt s a g = false := by
      unfold hasAt
      rw [decide_eq_false (by omega), Bool.false_and]
    rw [HH]
    generalize tl s a = x at *
    go_enter Tryz.func127, Tryz.ntmps127
    go_wp2
    go_ret
    exact ⟨rfl, rfl⟩
theorem hasPrefix_any (s g : ByteArray) (a : Nat) (w : World) (hs : s.size ≤ 1048576) (hg : g.size ≤ 1048576) (ha : a ≤ s.size) : Calls Tryz.prog 116 #[.string (tl s a), .string g] w fun e w' => e = .returned (.bool (hasAt s a g)) ∧ w' = w := by
  go_enter Tryz.func116, Tryz.ntmps116
  go_wp2_with (go_at_call 127; refine (slitePrefix_any _ _ _ _ hs hg ha).mono ?_; rintro e w' ⟨rfl, rfl⟩)
  go_ret
  exact ⟨rfl, rfl⟩

/-- how a sign is written, those ahead too -/
def sgI (k : Nat) : ByteArray := if k = 3 then ⟨#[45]⟩ else if k = 4 then ⟨#[33]⟩ else sg k
/-- how tightly it binds -/
def tgI (k : Nat) : Int := if k = 3 ∨ k = 4 then 6 else if 5 ≤ k then lvl k else 0
/-- the program's table of signs, in memory -/
def Signs (w : World) : Prop := ∀ k, k < 14 → w.cell? ⟨0, k * 2, none⟩ = some (.string (sgI k)) ∧ w.cell? ⟨0, k * 2 + 1, none⟩ = some (.int .i64 (tgI k))
theorem Signs.lt {w : World} (h : Signs w) : 0 < w.heap.size := World.block_lt_of_cell? w _ (h 0 (by omega)).1
theorem Signs.mv {p : Nat} {w w' : World} (h : Signs w) (hp : p ≠ 0) (hm : Mv p w w') : Signs w' := fun k hk => by
  have hb := hm.block 0 h.lt (Ne.symm hp)
  exact ⟨(World.cell?_of_block (w := w) hb).trans (h k hk).1, (World.cell?_of_block (w := w) hb).trans (h k hk).2⟩
theorem sgI_size (k : Nat) : (sgI k).size ≤ 2 := by
  unfold sgI
  split
  · decide
  · split
    · decide
    · exact sg_size k

theorem pairAt_none {s : ByteArray} {a : Nat} (h : ∀ j, 5 ≤ j → j < 14 → hasAt s a (sg j) = false) : pairAt s a = 0 := by
  by_cases e : pairAt s a = 0
  · exact e
  · have := pairAt_is e
    rw [h _ this.1.1 (by omega)] at this
    cases this.2

set_option maxHeartbeats 800000 in
theorem nextPair_rd (p : Nat) (s : ByteArray) (a d : Nat) (w : World) (hp : p ≠ 0) (h : RdI w p s a d) (hg : Signs w) (hs : s.size ≤ 1048576) (ha : a ≤ s.size) :
    Calls Tryz.prog 102 #[.pointer (some ⟨p, 0, none⟩)] w fun e w' => e = .returned (.tuple #[.int .i64 (pairAt s (skipTo s a)), .bool (!(pairAt s (skipTo s a) == 0))]) ∧ RdI w' p s (skipTo s a) d ∧ Mv p w w' := by
  have H : Hid (RdI w p s a d) := h
  have HG : Hid (Signs w) := hg
  have hsk := (skipTo_le ha).2
  obtain ⟨b, hb⟩ : ∃ b, skipTo s a = b := ⟨_, rfl⟩
  rw [hb] at hsk ⊢
  have HB : Hid (skipTo s a = b) := hb
  clear h hg hb
  go_enter Tryz.func102, Tryz.ntmps102
  go_wp2_with fail
  refine (skipBlanks_rd p s a d w H.out hs ha).mono ?_
  rintro e w1 ⟨rfl, hw1⟩
  rw [HB.out] at hw1
  have H1 : Hid (RdI w1 p s b d) := by rw [hw1]; exact H.out.at b
  have M1 : Hid (Mv p w w1) := by rw [hw1]; exact (Mv.refl p w).cell _ _
  have G1 : Hid (Signs w1) := HG.out.mv hp M1.out
  clear hw1
  go_wp2_with fail
  go_loopw [4] (fun i wr => ∃ k : Nat, 5 ≤ k ∧ k ≤ 14 ∧ i = .int .i64 k ∧ Hid (∀ j, 5 ≤ j → j < k → hasAt s b (sg j) = false) ∧ Hid (RdI wr p s b d) ∧ Hid (Mv p w wr)) (fun i _ => 14 - (intOf i).toNat)
  case atStart => exact ⟨5, by omega, by omega, rfl, fun j h1 h2 => by omega, H1.out, M1.out⟩
  case round =>
    obtain ⟨k, hk5, hk14, rfl, HN, HR, HM⟩ := hrel
    by_cases hlt : k < 14
    · have c0 := HR.out.c0
      obtain ⟨g0, g1⟩ := HG.out.mv hp HM.out k hlt
      have hsg : sgI k = sg k := by unfold sgI; rw [if_neg (by omega), if_neg (by omega)]
      rw [hsg] at g0
      have hsz : (sg k).size ≤ 1048576 := by have := sg_size k; omega
      have HP : Hid (∀ w, Calls Tryz.prog 116 #[.string (tl s b), .string (sg k)] w fun e w' => e = .returned (.bool (hasAt s b (sg k))) ∧ w' = w) := fun w => hasPrefix_any s (sg k) b w hs hsz hsk
      have HKK : Hid (hasAt s b (sg k) = true → pairAt s b = k) := fun h => pairAt_yes ⟨hk5, by omega⟩ h
      clear hsg g1 hsz
      cases hh : hasAt s b (sg k)
      · rw [hh] at HP
        go_wp2_with fail
        go_quiet ((go_at_call 116; exact Calls.quiet_of_same (HP.out _)))
        go_wp2_with fail
        go_roundw
        case rel => exact ⟨k + 1, by omega, by omega, by go_num, fun j h1 h2 => by
            rcases Nat.lt_or_ge j k with h3 | h3
            · exact HN.out j h1 h3
            · have : j = k := by omega
              subst this; exact hh, HR.out.drewN _, HM.out.drewN _⟩
        case measure => simp [intOf]; omega
      · rw [hh] at HP
        have hpk := HKK.out hh
        go_wp2_with fail
        go_quiet ((go_at_call 116; exact Calls.quiet_of_same (HP.out _)))
        go_wp2_with fail
        go_ret2
        exact ⟨by rw [hpk]; simp; omega, HR.out.drewN _, HM.out.drewN _⟩
    · have hpk : pairAt s b = 0 := pairAt_none (fun j h1 h2 => HN.out j h1 (by omega))
      go_wp2_with fail
      go_ret2
      exact ⟨by rw [hpk]; rfl, HR.out, HM.out⟩
end Go.Proofs.YtbpfonmkbbnkcaaGreatDoor

/- The program's reader: words and figures. -/
namespace Go.Proofs.YtbpfonmkbbnkcaaGreatDoor
open Go Go.RowKit Go.PlainAid
set_option linter.unusedSimpArgs false
set_option linter.unusedVariables false

theorem figEnd_step {s : ByteArray} {a : Nat} (h : a < s.size) (hb : figB (bt s a) = true) : figEnd s a = figEnd s (a + 1) := by
  unfold figEnd
  rw [show s.size - a = (s.size - (a + 1)) + 1 from by omega, figF, if_pos ⟨h, hb⟩]
theorem figEnd_stop {s : ByteArray} {a : Nat} (h : ¬ (a < s.size ∧ figB (bt s a) = true)) : figEnd s a = a := by
  unfold figEnd
  cases s.size - a with
  | zero => rfl
  | succ n => rw [figF, if_neg h]
theorem tl_pre (s : ByteArray) {a n : Nat} (h : a + n ≤ s.size) : (tl s a).extract 0 n = s.extract a (a + n) := by
  unfold tl
  rw [extract_extract' s a s.size 0 n (Nat.le_refl _) (by omega), Nat.add_zero]

theorem isNameByte_is {n : Int} {b : Bool} (h : (letB n || figB n) = b) (w : World) : Calls Tryz.prog 125 #[.int .u8 n] w fun e w' => e = .returned (.bool b) ∧ w' = w := by
  rw [← h]; exact isNameByte_any n w
theorem isFigure_is {n : Int} {b : Bool} (h : figB n = b) (w : World) : Calls Tryz.prog 129 #[.int .u8 n] w fun e w' => e = .returned (.bool b) ∧ w' = w := by
  rw [← h]; exact isFigure_any n w

theorem figEnd_le {s : ByteArray} {a : Nat} (h : a ≤ s.size) : a ≤ figEnd s a ∧ figEnd s a ≤ s.size := ⟨(figF_le s _ a).1, (figF_le s _ a).2 h⟩

set_option maxHeartbeats 800000 in
theorem runWord_rd (p : Nat) (s : ByteArray) (a d : Nat) (w : World) (h : RdI w p s a d) (hs : s.size ≤ 1048576) (ha : a ≤ s.size) :
    Calls Tryz.prog 131 #[.pointer (some ⟨p, 0, none⟩), .func (Fn.func 125) #[] #[]] w fun e w' => e = .returned (.string (s.extract a (wordTo s a))) ∧ w' = w.setCell ⟨p, 0, none⟩ (.string (tl s (wordTo s a))) := by
  have H : Hid (RdI w p s a d) := h
  obtain ⟨c0, c1, fz⟩ := h
  have hsz := tl_size s a
  obtain ⟨b, hb⟩ : ∃ b, wordTo s a = b := ⟨_, rfl⟩
  have hle := wordTo_le ha
  rw [hb] at hle ⊢
  have HB : Hid (wordTo s a = b) := hb
  have HT : Hid (∀ k, bt (tl s a) k = bt s (a + k)) := tl_bt s a
  have HE : Hid ((tl s a).extract 0 (b - a) = s.extract a b) := by
    show (tl s a).extract 0 (b - a) = _
    rw [tl_pre s (by omega), show a + (b - a) = b from by omega]
  obtain ⟨x, hx⟩ : ∃ x, tl s a = x := ⟨_, rfl⟩
  rw [hx] at c0 hsz HT HE
  have hbx := get_bt x
  clear hb hx c1 fz
  go_enter Tryz.func131, Tryz.ntmps131
  go_wp2_with fail
  go_loop [5] (fun i => ∃ k : Nat, a + k ≤ s.size ∧ i = .int .i64 k ∧ Hid (wordTo s (a + k) = b)) (fun i => s.size - (intOf i).toNat)
  case atStart => exact ⟨0, by omega, rfl, HB.out⟩
  case round =>
    obtain ⟨k, hk, rfl, HK⟩ := hrel
    by_cases hlt : a + k < s.size
    · have hkx : k < x.size := by omega
      have hq := HT.out k
      cases hf : (letB (bt s (a + k)) || figB (bt s (a + k)))
      · have hbk : b = a + k := by rw [← HK.out, wordTo_stop (by unfold alnB; rw [hf]; simp)]
        have HS : Hid (∀ w, RdI w p s a d → Calls Tryz.prog 103 #[.pointer (some ⟨p, 0, none⟩), .int .i64 k] w fun e w' => e = .returned (.tuple #[]) ∧ w' = w.setCell ⟨p, 0, none⟩ (.string (tl s b))) := fun w h => by
          have := skip_rd p s a d k w h hs (by omega)
          rw [← hbk] at this; exact this
        have hE := HE.out
        rw [show b - a = k from by omega] at hE
        have HE2 : Hid (x.extract 0 k = s.extract a b) := hE
        clear hE
        go_wp2_with (first | (go_at_call 125; refine (isNameByte_is hf _).mono ?_; rintro e w' ⟨rfl, hw'⟩; rw [hw']; clear hw' w') | (go_at_call 103; refine (HS.out _ H.out).mono ?_; rintro e w' ⟨rfl, hw'⟩))
        go_ret
        exact ⟨ret_txt HE2.out, by rw [hbk]⟩
      · have HK1 : Hid (wordTo s (a + (k + 1)) = b) := by
          show wordTo s (a + (k + 1)) = b
          rw [← Nat.add_assoc, ← wordTo_step hlt (by unfold alnB; exact hf)]; exact HK.out
        go_wp2_with (first | (go_at_call 125; refine (isNameByte_is hf _).mono ?_; rintro e w' ⟨rfl, hw'⟩; rw [hw']; clear hw' w'))
        go_round
        case rel => exact ⟨k + 1, by omega, by go_num, HK1.out⟩
        case measure => simp [intOf]; omega
    · have hbk : b = a + k := by rw [← HK.out, wordTo_stop (by omega)]
      have HS : Hid (∀ w, RdI w p s a d → Calls Tryz.prog 103 #[.pointer (some ⟨p, 0, none⟩), .int .i64 k] w fun e w' => e = .returned (.tuple #[]) ∧ w' = w.setCell ⟨p, 0, none⟩ (.string (tl s b))) := fun w h => by
        have := skip_rd p s a d k w h hs (by omega)
        rw [← hbk] at this; exact this
      have hE := HE.out
      rw [show b - a = k from by omega] at hE
      have HE2 : Hid (x.extract 0 k = s.extract a b) := hE
      clear hE
      go_wp2_with (first | (go_at_call 103; refine (HS.out _ H.out).mono ?_; rintro e w' ⟨rfl, hw'⟩))
      go_ret
      exact ⟨ret_txt HE2.out, by rw [hbk]⟩
set_option maxHeartbeats 800000 in
theorem runFig_rd (p : Nat) (s : ByteArray) (a d : Nat) (w : World) (h : RdI w p s a d) (hs : s.size ≤ 1048576) (ha : a ≤ s.size) :
    Calls Tryz.prog 131 #[.pointer (some ⟨p, 0, none⟩), .func (Fn.func 129) #[] #[]] w fun e w' => e = .returned (.string (s.extract a (figEnd s a))) ∧ w' = w.setCell ⟨p, 0, none⟩ (.string (tl s (figEnd s a))) := by
  have H : Hid (RdI w p s a d) := h
  obtain ⟨c0, c1, fz⟩ := h
  have hsz := tl_size s a
  obtain ⟨b, hb⟩ : ∃ b, figEnd s a = b := ⟨_, rfl⟩
  have hle := figEnd_le ha
  rw [hb] at hle ⊢
  have HB : Hid (figEnd s a = b) := hb
  have HT : Hid (∀ k, bt (tl s a) k = bt s (a + k)) := tl_bt s a
  have HE : Hid ((tl s a).extract 0 (b - a) = s.extract a b) := by
    show (tl s a).extract 0 (b - a) = _
    rw [tl_pre s (by omega), show a + (b - a) = b from by omega]
  obtain ⟨x, hx⟩ : ∃ x, tl s a = x := ⟨_, rfl⟩
  rw [hx] at c0 hsz HT HE
  have hbx := get_bt x
  clear hb hx c1 fz
  go_enter Tryz.func131, Tryz.ntmps131
  go_wp2_with fail
  go_loop [5] (fun i => ∃ k : Nat, a + k ≤ s.size ∧ i = .int .i64 k ∧ Hid (figEnd s (a + k) = b)) (fun i => s.size - (intOf i).toNat)
  case atStart => exact ⟨0, by omega, rfl, HB.out⟩
  case round =>
    obtain ⟨k, hk, rfl, HK⟩ := hrel
    by_cases hlt : a + k < s.size
    · have hkx : k < x.size := by omega
      have hq := HT.out k
      cases hf : (figB (bt s (a + k)))
      · have hbk : b = a + k := by rw [← HK.out, figEnd_stop (by rw [hf]; simp)]
        have HS : Hid (∀ w, RdI w p s a d → Calls Tryz.prog 103 #[.pointer (some ⟨p, 0, none⟩), .int .i64 k] w fun e w' => e = .returned (.tuple #[]) ∧ w' = w.setCell ⟨p, 0, none⟩ (.string (tl s b))) := fun w h => by
          have := skip_rd p s a d k w h hs (by omega)
          rw [← hbk] at this; exact this
        have hE := HE.out
        rw [show b - a = k from by omega] at hE
        have HE2 : Hid (x.extract 0 k = s.extract a b) := hE
        clear hE
        go_wp2_with (first | (go_at_call 129; refine (isFigure_is hf _).mono ?_; rintro e w' ⟨rfl, hw'⟩; rw [hw']; clear hw' w') | (go_at_call 103; refine (HS.out _ H.out).mono ?_; rintro e w' ⟨rfl, hw'⟩))
        go_ret
        exact ⟨ret_txt HE2.out, by rw [hbk]⟩
      · have HK1 : Hid (figEnd s (a + (k + 1)) = b) := by
          show figEnd s (a + (k + 1)) = b
          rw [← Nat.add_assoc, ← figEnd_step hlt hf]; exact HK.out
        go_wp2_with (first | (go_at_call 129; refine (isFigure_is hf _).mono ?_; rintro e w' ⟨rfl, hw'⟩; rw [hw']; clear hw' w'))
        go_round
        case rel => exact ⟨k + 1, by omega, by go_num, HK1.out⟩
        case measure => simp [intOf]; omega
    · have hbk : b = a + k := by rw [← HK.out, figEnd_stop (by omega)]
      have HS : Hid (∀ w, RdI w p s a d → Calls Tryz.prog 103 #[.pointer (some ⟨p, 0, none⟩), .int .i64 k] w fun e w' => e = .returned (.tuple #[]) ∧ w' = w.setCell ⟨p, 0, none⟩ (.string (tl s b))) := fun w h => by
        have := skip_rd p s a d k w h hs (by omega)
        rw [← hbk] at this; exact this
      have hE := HE.out
      rw [show b - a = k from by omega] at hE
      have HE2 : Hid (x.extract 0 k = s.extract a b) := hE
      clear hE
      go_wp2_with (first | (go_at_call 103; refine (HS.out _ H.out).mono ?_; rintro e w' ⟨rfl, hw'⟩))
      go_ret
      exact ⟨ret_txt HE2.out, by rw [hbk]⟩
end Go.Proofs.YtbpfonmkbbnkcaaGreatDoor

/- strconv.Atoi of one to six figures. -/
namespace Go.Proofs.YtbpfonmkbbnkcaaGreatDoor
open Go Go.RowKit Go.PlainAid
set_option linter.unusedSimpArgs false
set_option linter.unusedVariables false

theorem figTo_at {x : ByteArray} : ∀ {n k : Nat}, figTo x n = true → k < n → figB (bt x k) = true := by
  intro n
  induction n with
  | zero => intro k _ h; omega
  | succ n ih =>
    intro k h hk
    simp [figTo] at h
    by_cases e : k = n
    · subst e; exact h.2
    · exact ih h.1 (by omega)
/-- the bytes of a text, in a row of their own -/
theorem conv_bytes (x : ByteArray) (w : World) : ∃ c1 w1, (convert 9 22 (.string x)).run Tryz.prog w = .ok (.slice (some ⟨w.heap.size, 0, none⟩) x.size c1) w1 ∧ x.size ≤ c1 ∧ (∀ k, k < x.size → w1.cell? ⟨w.heap.size, k, none⟩ = some (.int .u8 (bt x k))) ∧ Below w.heap.size w w1 := by
  refine ⟨_, _, run_bytes_of_string w 9 22 5 x Tryz.underlying9 Tryz.underlying22 Tryz.underlying5, grownCap_ge _ _ _ _, fun k hk => ?_, ?_⟩
  · have h1 := bytesRow_at x (grownCap w x.size 0 5) k hk
    have hh : ∀ (o : Obj), (w.drew.alloc o).heap[w.heap.size]? = some o := fun o => by
      show (w.heap.push o)[w.heap.size]? = _
      simp
    have h2 : ∀ (C : Array Value) (t : TypeId) (fr : Nat × Nat), (w.drew.alloc (.cells C t fr)).cell? ⟨w.heap.size, k, none⟩ = C[k]? := fun C t fr => by
      unfold World.cell?
      simp only [hh]
      rfl
    rw [h2, h1, ← get_bt x k hk]
    rfl
  · exact ((Below.refl _ _).drew).alloc (Nat.le_refl _) _

set_option maxHeartbeats 800000 in
set_option maxRecDepth 100000 in
theorem iAtoi_any (x : ByteArray) (w : World) (h1 : 1 ≤ x.size) (h6 : x.size ≤ 6) (hf : figTo x x.size = true) :
    Calls Tryz.prog 142 #[.string x] w fun e w' => e = .returned (.tuple #[.int .i64 (numTo x x.size), .nilIface]) ∧ Below w.heap.size w w' := by
  have HF : Hid (figTo x x.size = true) := hf
  have hbx := get_bt x
  have hb0 : 48 ≤ bt x 0 ∧ bt x 0 ≤ 57 := by
    have := figTo_at hf (k := 0) (by omega)
    unfold figB at this; simpa using this
  have e45 : (bt x 0 == 45) = false := by simp; omega
  have e43 : (bt x 0 == 43) = false := by simp; omega
  clear hf
  obtain ⟨c1, w1, hcv, hc1, hcell, hb1⟩ := conv_bytes x w
  have HC : Hid (∀ k, k < x.size → w1.cell? ⟨w.heap.size, k, none⟩ = some (.int .u8 (bt x k))) := hcell
  have HB : Hid (Below w.heap.size w w1) := hb1
  clear hcell hb1
  go_enter Tryz.func142, Tryz.ntmps142
  go_wp2_with fail
  go_loop [6, 49] (fun v i => ∃ k : Nat, k ≤ x.size ∧ i = .int .i64 k ∧ v = .int .i64 (numTo x k)) (fun _ i => x.size - (intOf i).toNat)
  case atStart => exact ⟨0, Nat.zero_le _, rfl, rfl⟩
  case round =>
    obtain ⟨k, hk, rfl, rfl⟩ := hrel
    have hfk := figTo_le x hk HF.out
    obtain ⟨n0, n1⟩ := numTo_le hfk (by omega)
    by_cases hlt : k < x.size
    · have hck := HC.out k hlt
      have hbk : 48 ≤ bt x k ∧ bt x k ≤ 57 := by
        have := figTo_at HF.out hlt
        unfold figB at this; simpa using this
      obtain ⟨hb1, hb2⟩ := hbk
      have HN : Hid (numTo x (k + 1) = numTo x k * 10 + (bt x k - 48)) := rfl
      generalize numTo x k = n at *
      go_wp2_with fail
      go_round
      case rel => exact ⟨k + 1, by omega, by go_num, by rw [HN.out]⟩
      case measure => simp [intOf]; omega
    · have hkx : k = x.size := by omega
      subst hkx
      go_wp2_with fail
      go_ret2
      exact ⟨rfl, HB.out⟩
theorem atoi_any (x : ByteArray) (w : World) (h1 : 1 ≤ x.size) (h6 : x.size ≤ 6) (hf : figTo x x.size = true) :
    Calls Tryz.prog 138 #[.string x] w fun e w' => e = .returned (.tuple #[.int .i64 (numTo x x.size), .nilIface]) ∧ Below w.heap.size w w' := by
  obtain ⟨n, hn⟩ : ∃ n, numTo x x.size = n := ⟨_, rfl⟩
  have HA : Hid (∀ w, Calls Tryz.prog 142 #[.string x] w fun e w' => e = .returned (.tuple #[.int .i64 n, .nilIface]) ∧ Below w.heap.size w w') := fun w => by rw [← hn]; exact iAtoi_any x w h1 h6 hf
  rw [hn]
  clear hn hf
  go_enter Tryz.func138, Tryz.ntmps138
  go_wp2_with (go_at_call 142; refine (HA.out _).mono ?_; rintro e w1 ⟨rfl, hb1⟩)
  go_ret2
  exact ⟨rfl, hb1⟩
end Go.Proofs.YtbpfonmkbbnkcaaGreatDoor

/- The program's reader: a number, a single part, what stands in parentheses, signs ahead, climbing. -/
namespace Go.Proofs.YtbpfonmkbbnkcaaGreatDoor
open Go Go.RowKit Go.PlainAid
set_option linter.unusedSimpArgs false
set_option linter.unusedVariables false

/-- a part, as the program holds it -/
def partV : Tree → Value
  | .num n => .iface 149 (.agg #[.int .i64 n])
  | .name x => .iface 151 (.agg #[.string x])
  | .ahead k t => .iface 153 (.agg #[.int .i64 k, partV t])
  | .pair k l r => .iface 140 (.agg #[.int .i64 k, partV l, partV r])
def IsPart (v : Value) : Prop := v = .nilIface ∨ ∃ t x, v = .iface t x
theorem partV_is (t : Tree) : IsPart (partV t) := by cases t <;> exact .inr ⟨_, _, rfl⟩
theorem RdI.below {w w' : World} {p : Nat} {s : ByteArray} {a d : Nat} (h : RdI w p s a d) (hb : Below w.heap.size w w') : RdI w' p s a d :=
  ⟨(hb.cell h.lt).trans h.c0, (hb.cell h.lt).trans h.c1, fun j => (hb.frozen h.lt).trans (h.fz j)⟩
/-- what reading leaves -/
def RdPost (p : Nat) (s : ByteArray) (d : Nat) (w : World) (r : CR) (e : Ending) (w' : World) : Prop :=
  Mv p w w' ∧ match r with
    | none => ∃ v, IsPart v ∧ e = .returned (.tuple #[v, .bool false])
    | some (t, a') => e = .returned (.tuple #[partV t, .bool true]) ∧ RdI w' p s a' d

set_option maxHeartbeats 800000 in
set_option maxRecDepth 100000 in
theorem number_rd (p : Nat) (s : ByteArray) (a d : Nat) (w : World) (h : RdI w p s a d) (hs : s.size ≤ 1048576) (ha : a < s.size) (hf : figB (bt s a) = true) :
    Calls Tryz.prog 130 #[.pointer (some ⟨p, 0, none⟩)] w fun e w' => RdPost p s d w (numberC s a) e w' := by
  have H : Hid (RdI w p s a d) := h
  have hle := figEnd_le (show a ≤ s.size by omega)
  have hst := figEnd_step ha hf
  have hle2 := figEnd_le (show a + 1 ≤ s.size by omega)
  have hab : a < figEnd s a := by rw [hst]; omega
  clear hst hle2
  obtain ⟨f1, f2, f3⟩ := fig_word s (s.size - a) a (Nat.le_refl _)
  have HF : Hid (∀ j, a ≤ j → j < figEnd s a → figB (bt s j) = true) := f2
  have HR : Hid (Calls Tryz.prog 131 #[.pointer (some ⟨p, 0, none⟩), .func (Fn.func 129) #[] #[]] w fun e w' => e = .returned (.string (s.extract a (figEnd s a))) ∧ w' = w.setCell ⟨p, 0, none⟩ (.string (tl s (figEnd s a)))) := runFig_rd p s a d w h hs (by omega)
  unfold numberC
  clear h f1 f2 f3
  generalize figEnd s a = b at *
  have hsz : (s.extract a b).size = b - a := by rw [ByteArray.size_extract]; omega
  have hb0 : bt (s.extract a b) 0 = bt s a := by rw [bt_extract s hle.2 (by omega)]; rfl
  have HFT : Hid (figTo (s.extract a b) (s.extract a b).size = true) := figTo_all _ (fun j hj => by
    rw [bt_extract s hle.2 (by omega)]; exact HF.out _ (by omega) (by omega))
  have HNUM : Hid (numTo (s.extract a b) (s.extract a b).size = numTo (s.extract a b) (b - a)) := by rw [hsz]; rfl
  obtain ⟨n, hn⟩ : ∃ n, numTo (s.extract a b) (b - a) = n := ⟨_, rfl⟩
  rw [hn] at HNUM ⊢
  generalize s.extract a b = x at *
  have hbx := get_bt x
  by_cases h6 : 6 < b - a
  · rw [if_pos (.inl h6)]
    go_enter Tryz.func130, Tryz.ntmps130
    go_wp2_with (go_at_call 131; refine HR.out.mono ?_; rintro e w1 ⟨rfl, hw1⟩; have HW1 : Hid (w1 = w.setCell ⟨p, 0, none⟩ (.string (tl s b))) := hw1; clear hw1)
    go_ret2
    exact ⟨by rw [HW1.out]; exact (Mv.refl p w).cell _ _, _, .inl rfl, rfl⟩
  by_cases h0 : 1 < b - a ∧ bt s a = 48
  · rw [if_pos (.inr h0)]
    obtain ⟨h01, h02⟩ := h0
    rw [h02] at hb0
    go_enter Tryz.func130, Tryz.ntmps130
    go_wp2_with (go_at_call 131; refine HR.out.mono ?_; rintro e w1 ⟨rfl, hw1⟩; have HW1 : Hid (w1 = w.setCell ⟨p, 0, none⟩ (.string (tl s b))) := hw1; clear hw1)
    go_ret2
    exact ⟨by rw [HW1.out]; exact (Mv.refl p w).cell _ _, _, .inl rfl, rfl⟩
  rw [if_neg (by omega)]
  have HA : Hid (∀ w, Calls Tryz.prog 138 #[.string x] w fun e w' => e = .returned (.tuple #[.int .i64 n, .nilIface]) ∧ Below w.heap.size w w') := fun w => by
    rw [← HNUM.out]; exact atoi_any x w (by omega) (by omega) HFT.out
  have key : ∀ w1 w2 : World, w1 = w.setCell ⟨p, 0, none⟩ (.string (tl s b)) → Below w1.heap.size w1 w2 → ∀ k, RdPost p s d w (some (.num n, b)) (.returned (.tuple #[partV (.num n), .bool true])) (w2.drewN k) := by
    intro w1 w2 h1 h2 k
    subst h1
    exact ⟨(((Mv.refl p w).cell _ _).trans (Mv.of_below h2)).drewN k, rfl, ((H.out.at b).below h2).drewN k⟩
  have KEY : Hid (∀ w1 w2 : World, w1 = w.setCell ⟨p, 0, none⟩ (.string (tl s b)) → Below w1.heap.size w1 w2 → ∀ k, RdPost p s d w (some (.num n, b)) (.returned (.tuple #[partV (.num n), .bool true])) (w2.drewN k)) := key
  clear key hn
  by_cases h1 : 1 < b - a
  · have hne : (bt s a == 48) = false := by simp; omega
    clear h0
    go_enter Tryz.func130, Tryz.ntmps130
    go_wp2_with (first | (go_at_call 131; refine HR.out.mono ?_; rintro e w1 ⟨rfl, hw1⟩; clear HR; have HW1 : Hid (w1 = w.setCell ⟨p, 0, none⟩ (.string (tl s b))) := hw1; clear hw1) | (go_at_call 138; refine (HA.out _).mono ?_; rintro e w2 ⟨rfl, hb2⟩))
    go_quiet (fail)
    go_wp2_with fail
    go_ret2
    exact KEY.out w1 w2 HW1.out hb2 _
  · clear h0
    go_enter Tryz.func130, Tryz.ntmps130
    go_wp2_with (first | (go_at_call 131; refine HR.out.mono ?_; rintro e w1 ⟨rfl, hw1⟩; clear HR; have HW1 : Hid (w1 = w.setCell ⟨p, 0, none⟩ (.string (tl s b))) := hw1; clear hw1) | (go_at_call 138; refine (HA.out _).mono ?_; rintro e w2 ⟨rfl, hb2⟩))
    go_quiet (fail)
    go_wp2_with fail
    go_ret2
    exact KEY.out w1 w2 HW1.out hb2 _
end Go.Proofs.YtbpfonmkbbnkcaaGreatDoor

/- The program's reader: what stands in parentheses, a single part, signs ahead. -/
namespace Go.Proofs.YtbpfonmkbbnkcaaGreatDoor
open Go Go.RowKit Go.PlainAid
set_option linter.unusedSimpArgs false
set_option linter.unusedVariables false

/-- climbing from any place behind a -/
def ClimbAt (s : ByteArray) (a : Nat) : Prop := ∀ (p : Nat) (least : Int) (b d : Nat) (w : World), p ≠ 0 → a < b → b ≤ s.size → d ≤ 6 → 1 ≤ least → least ≤ 6 → RdI w p s b d → Signs w →
  Calls Tryz.prog 72 #[.pointer (some ⟨p, 0, none⟩), .int .i64 least] w fun e w' => RdPost p s d w (CC s least b d) e w'
/-- what stands in parentheses -/
def withinC (s : ByteArray) (a d : Nat) : CR :=
  if d = 6 then none else match CC s 1 (a + 1) (d + 1) with | none => none | some (t, a') => if hasAt s a' rpar then some (t, a' + 1) else none

set_option maxHeartbeats 800000 in
set_option maxRecDepth 100000 in
theorem within_rd (p : Nat) (s : ByteArray) (a d : Nat) (w : World) (hp : p ≠ 0) (h : RdI w p s a d) (hg : Signs w) (hs : s.size ≤ 1048576) (ha : a < s.size) (hd : d ≤ 6) (hC : ClimbAt s a) :
    Calls Tryz.prog 128 #[.pointer (some ⟨p, 0, none⟩)] w fun e w' => RdPost p s d w (withinC s a d) e w' := by
  have H : Hid (RdI w p s a d) := h
  have HG : Hid (Signs w) := hg
  have c1 := h.c1
  have f1 := h.fz 1
  have HC : Hid (ClimbAt s a) := hC
  obtain ⟨R, hR⟩ : ∃ R, withinC s a d = R := ⟨_, rfl⟩
  have HRR : Hid (withinC s a d = R) := hR
  rw [hR]
  clear h hg hC hR
  by_cases h6 : d = 6
  · have hR : R = none := by rw [← HRR.out]; unfold withinC; rw [if_pos h6]
    subst h6 hR
    go_enter Tryz.func128, Tryz.ntmps128
    go_wp2_with fail
    go_ret2
    exact ⟨Mv.refl p w, _, .inl rfl, rfl⟩
  have e6 : ((d : Int) == 6) = false := by simp; omega
  have H1 : Hid (RdI (w.setCell ⟨p, 1, none⟩ (.int .i64 ((d : Int) + 1))) p s a (d + 1)) := by
    have := H.out.op (d + 1)
    show RdI _ _ _ _ _
    simpa using this
  go_enter Tryz.func128, Tryz.ntmps128
  go_wp2_with fail
  refine (skip_rd p s a (d + 1) 1 _ (by exact H1.out) hs (by omega)).mono ?_
  rintro e w2 ⟨rfl, hw2⟩
  have H2 : Hid (RdI w2 p s (a + 1) (d + 1)) := by rw [hw2]; exact H1.out.at (a + 1)
  have M2 : Hid (Mv p w w2) := by rw [hw2]; exact ((Mv.refl p w).cell _ _).cell _ _
  have G2 : Hid (Signs w2) := HG.out.mv hp M2.out
  clear hw2 H1 e6 f1 c1
  go_wp2_with fail
  refine (HC.out p 1 (a + 1) (d + 1) w2 hp (by omega) (by omega) (by omega) (by decide) (by decide) H2.out G2.out).mono ?_
  rintro e w3 ⟨hm3, hpost⟩
  have M3 : Hid (Mv p w w3) := M2.out.trans hm3
  clear hm3
  cases hc : CC s 1 (a + 1) (d + 1) with
  | none =>
    rw [hc] at hpost
    obtain ⟨v, hv, rfl⟩ := hpost
    have HV : Hid (IsPart v) := hv
    have hR : R = none := by rw [← HRR.out]; unfold withinC; rw [if_neg h6, hc]
    clear hv hc
    subst hR
    go_wp2_with fail
    go_ret2
    exact ⟨M3.out, _, .inl rfl, rfl⟩
  | some q =>
    obtain ⟨t, a'⟩ := q
    rw [hc] at hpost
    obtain ⟨rfl, hr3⟩ := hpost
    have hadv := advCC s _ _ _ _ _ hc
    have ha' : a' ≤ s.size := hadv.2 (by omega)
    have H3 : Hid (RdI w3 p s a' (d + 1)) := hr3
    have c30 := hr3.c0
    have hRR : R = if hasAt s a' rpar then some (t, a' + 1) else none := by rw [← HRR.out]; unfold withinC; rw [if_neg h6, hc]
    have HP : Hid (∀ w, Calls Tryz.prog 116 #[.string (tl s a'), .string ⟨#[41]⟩] w fun e w' => e = .returned (.bool (hasAt s a' rpar)) ∧ w' = w) := fun w => hasPrefix_any s rpar a' w hs (by decide) ha'
    clear hr3 hc HRR
    cases hh : hasAt s a' rpar
    · rw [hh] at HP
      rw [hh] at hRR
      simp only [Bool.false_eq_true, if_false] at hRR
      subst hRR
      go_wp2_with (go_at_call 116; refine (HP.out _).mono ?_; rintro e w' ⟨rfl, hw'⟩; rw [hw']; clear hw' w')
      go_ret2
      exact ⟨M3.out, _, .inl rfl, rfl⟩
    · rw [hh] at HP
      have hlt := hasAt_lt hh
      have e1 : rpar.size = 1 := rfl
      rw [hh] at hRR
      simp only [if_true] at hRR
      subst hRR
      have HSK : Hid (Calls Tryz.prog 103 #[.pointer (some ⟨p, 0, none⟩), .int .i64 (1 : Nat)] w3 fun e w' => e = .returned (.tuple #[]) ∧ w' = w3.setCell ⟨p, 0, none⟩ (.string (tl s (a' + 1)))) := skip_rd p s a' (d + 1) 1 w3 H3.out hs (by omega)
      go_wp2_with (first | (go_at_call 116; refine (HP.out _).mono ?_; rintro e w' ⟨rfl, hw'⟩; rw [hw']; clear hw' w') | (go_at_call 103; refine HSK.out.mono ?_; rintro e w4 ⟨rfl, hw4⟩; have H4 : Hid (RdI w4 p s (a' + 1) (d + 1)) := (by rw [hw4]; exact H3.out.at (a' + 1)); have M4 : Hid (Mv p w w4) := (by rw [hw4]; exact M3.out.cell _ _); clear hw4 c30; have c41 := H4.out.c1; have f41 := H4.out.fz 1))
      go_ret2
      refine ⟨M4.out.cell _ _, rfl, ?_⟩
      have := H4.out.op d
      simpa using this

/-- a single part -/
theorem singleC_eq (s : ByteArray) (a d : Nat) : singleC (CC s) s a d = if s.size ≤ a then none else if bt s a = 40 then withinC s a d else if figB (bt s a) then numberC s a
    else if nmB (s.extract a (wordTo s a)) then some (.name (s.extract a (wordTo s a)), wordTo s a) else none := rfl
end Go.Proofs.YtbpfonmkbbnkcaaGreatDoor

/- The program's reader: a single part, signs ahead, climbing, all of a text. -/
namespace Go.Proofs.YtbpfonmkbbnkcaaGreatDoor
open Go Go.RowKit Go.PlainAid
set_option linter.unusedSimpArgs false
set_option linter.unusedVariables false

set_option maxHeartbeats 800000 in
set_option maxRecDepth 100000 in
theorem single_rd (p : Nat) (s : ByteArray) (a d : Nat) (w : World) (hp : p ≠ 0) (h : RdI w p s a d) (hg : Signs w) (hs : s.size ≤ 1048576) (ha : a ≤ s.size) (hd : d ≤ 6) (hC : ClimbAt s a) :
    Calls Tryz.prog 117 #[.pointer (some ⟨p, 0, none⟩)] w fun e w' => RdPost p s d w (singleC (CC s) s a d) e w' := by
  have H : Hid (RdI w p s a d) := h
  have HG : Hid (Signs w) := hg
  have HC : Hid (ClimbAt s a) := hC
  have c0 := h.c0
  have hsz := tl_size s a
  rw [singleC_eq]
  by_cases hend : s.size ≤ a
  · rw [if_pos hend]
    have e0 : tl s a = ⟨#[]⟩ := empty_of (by omega)
    rw [e0] at c0
    clear e0
    clear h hg hC
    go_enter Tryz.func117, Tryz.ntmps117
    go_wp2_with fail
    go_ret2
    exact ⟨Mv.refl p w, _, .inl rfl, rfl⟩
  rw [if_neg hend]
  have hbx := get_bt (tl s a)
  have hb0 := tl_bt s a 0
  rw [Nat.add_zero] at hb0
  have hpos : 0 < (tl s a).size := by omega
  have hl : ¬ (tl s a).toList = [] := by
    intro h
    rw [Lib.toList_data] at h
    have : (tl s a).size = 0 := by
      show (tl s a).data.size = 0
      rw [← Array.length_toList, h]; rfl
    omega
  have he : (tl s a).toList.isEmpty = false := by simpa using hl
  have HT : Hid (tl s a = tl s a) := rfl
  obtain ⟨x, hx⟩ : ∃ x, tl s a = x := ⟨_, rfl⟩
  rw [hx] at c0 hsz hbx hb0 hpos hl he
  clear hx HT
  by_cases h40 : bt s a = 40
  · rw [if_pos h40]
    rw [h40] at hb0
    have HW : Hid (Calls Tryz.prog 128 #[.pointer (some ⟨p, 0, none⟩)] w fun e w' => RdPost p s d w (withinC s a d) e w') := within_rd p s a d w hp h hg hs (by omega) hd hC
    generalize withinC s a d = R at *
    clear h hg hC
    go_enter Tryz.func117, Tryz.ntmps117
    go_wp2_with fail
    refine HW.out.mono ?_
    rintro e w1 ⟨hm, hpost⟩
    have HM : Hid (Mv p w w1) := hm
    clear hm
    cases R with
    | none =>
      obtain ⟨v, hv, rfl⟩ := hpost
      have HV : Hid (IsPart v) := hv
      clear hv
      go_wp2_with fail
      go_ret2
      exact ⟨HM.out, _, HV.out, rfl⟩
    | some q =>
      obtain ⟨t, a'⟩ := q
      obtain ⟨rfl, hr⟩ := hpost
      have HR : Hid (RdI w1 p s a' d) := hr
      clear hr
      go_wp2_with fail
      go_ret2
      exact ⟨HM.out, rfl, HR.out⟩
  rw [if_neg h40]
  have e40 : (bt s a == 40) = false := by simp [h40]
  cases hf : figB (bt s a)
  · rw [if_neg (by simp)]
    have HRW : Hid (Calls Tryz.prog 131 #[.pointer (some ⟨p, 0, none⟩), .func (Fn.func 125) #[] #[]] w fun e w' => e = .returned (.string (s.extract a (wordTo s a))) ∧ w' = w.setCell ⟨p, 0, none⟩ (.string (tl s (wordTo s a)))) := runWord_rd p s a d w h hs ha
    have hxz : (s.extract a (wordTo s a)).size ≤ maxLen := by have := extract_le s a (wordTo s a); unfold maxLen; omega
    have HNM : Hid (∀ w, Calls Tryz.prog 112 #[.string (s.extract a (wordTo s a))] w fun e w' => e = .returned (.bool (nmB (s.extract a (wordTo s a)))) ∧ w' = w) := fun w => implNameOk_any _ w hxz
    clear h hg hC hxz
    generalize wordTo s a = b at *
    generalize s.extract a b = y at *
    cases hn : nmB y
    · rw [hn] at HNM
      rw [if_neg (by decide)]
      go_enter Tryz.func117, Tryz.ntmps117
      go_wp2_with (first | (go_at_call 129; refine (isFigure_is hf _).mono ?_; rintro e w' ⟨rfl, hw'⟩; rw [hw']; clear hw' w') | (go_at_call 131; refine HRW.out.mono ?_; rintro e w1 ⟨rfl, hw1⟩; have H1 : Hid (RdI w1 p s b d) := (by rw [hw1]; exact H.out.at b); have M1 : Hid (Mv p w w1) := (by rw [hw1]; exact (Mv.refl p w).cell _ _); clear hw1 HRW c0) | (go_at_call 112; refine (HNM.out _).mono ?_; rintro e w' ⟨rfl, hw'⟩; rw [hw']; clear hw' w'))
      go_ret2
      exact ⟨M1.out, _, partV_is (.name y), rfl⟩
    · rw [hn] at HNM
      rw [if_pos rfl]
      go_enter Tryz.func117, Tryz.ntmps117
      go_wp2_with (first | (go_at_call 129; refine (isFigure_is hf _).mono ?_; rintro e w' ⟨rfl, hw'⟩; rw [hw']; clear hw' w') | (go_at_call 131; refine HRW.out.mono ?_; rintro e w1 ⟨rfl, hw1⟩; have H1 : Hid (RdI w1 p s b d) := (by rw [hw1]; exact H.out.at b); have M1 : Hid (Mv p w w1) := (by rw [hw1]; exact (Mv.refl p w).cell _ _); clear hw1 HRW c0) | (go_at_call 112; refine (HNM.out _).mono ?_; rintro e w' ⟨rfl, hw'⟩; rw [hw']; clear hw' w'))
      go_ret2
      exact ⟨M1.out, rfl, H1.out⟩
  · rw [if_pos rfl]
    have HW : Hid (Calls Tryz.prog 130 #[.pointer (some ⟨p, 0, none⟩)] w fun e w' => RdPost p s d w (numberC s a) e w') := number_rd p s a d w h hs (by omega) hf
    generalize numberC s a = R at *
    clear h hg hC
    go_enter Tryz.func117, Tryz.ntmps117
    go_wp2_with (first | (go_at_call 129; refine (isFigure_is hf _).mono ?_; rintro e w' ⟨rfl, hw'⟩; rw [hw']; clear hw' w'))
    refine HW.out.mono ?_
    rintro e w1 ⟨hm, hpost⟩
    have HM : Hid (Mv p w w1) := hm
    clear hm
    cases R with
    | none =>
      obtain ⟨v, hv, rfl⟩ := hpost
      have HV : Hid (IsPart v) := hv
      clear hv
      go_wp2_with fail
      go_ret2
      exact ⟨HM.out, _, HV.out, rfl⟩
    | some q =>
      obtain ⟨t, a'⟩ := q
      obtain ⟨rfl, hr⟩ := hpost
      have HR : Hid (RdI w1 p s a' d) := hr
      clear hr
      go_wp2_with fail
      go_ret2
      exact ⟨HM.out, rfl, HR.out⟩

theorem minus_at (s : ByteArray) (k : Nat) : hasAt s k (sgI 3) = decide (bt s k = 45) := by
  have e : sgI 3 = ⟨#[45]⟩ := rfl
  by_cases h : bt s k = 45
  · rw [decide_eq_true h]
    have := bt_lt h (by decide)
    refine hasAt_of (by show k + 1 ≤ s.size; omega) (fun j hj => ?_)
    have h1 : j < 1 := hj
    have : j = 0 := by omega
    subst this; rw [Nat.add_zero, h]; decide
  · rw [decide_eq_false h]
    cases e : hasAt s k (sgI 3) with
    | false => rfl
    | true => exact absurd ((hasAt_bt e (j := 0) (by decide)).trans (by decide)) h
theorem bang_at (s : ByteArray) (k : Nat) : hasAt s k (sgI 4) = decide (bt s k = 33) := by
  by_cases h : bt s k = 33
  · rw [decide_eq_true h]
    have := bt_lt h (by decide)
    refine hasAt_of (by show k + 1 ≤ s.size; omega) (fun j hj => ?_)
    have h1 : j < 1 := hj
    have : j = 0 := by omega
    subst this; rw [Nat.add_zero, h]; decide
  · rw [decide_eq_false h]
    cases e : hasAt s k (sgI 4) with
    | false => rfl
    | true => exact absurd ((hasAt_bt e (j := 0) (by decide)).trans (by decide)) h
theorem aheadC_at (s : ByteArray) (d n a : Nat) : aheadC (CC s) s d (n + 1) a = if bt s (skipTo s a) = 45 then (match aheadC (CC s) s d n (skipTo s a + 1) with | none => none | some (t, a') => some (.ahead 3 t, a'))
    else if bt s (skipTo s a) = 33 then (match aheadC (CC s) s d n (skipTo s a + 1) with | none => none | some (t, a') => some (.ahead 4 t, a')) else singleC (CC s) s (skipTo s a) d := rfl

set_option maxHeartbeats 1600000 in
set_option maxRecDepth 100000 in
theorem ahead_rd (p : Nat) (s : ByteArray) (d : Nat) (hp : p ≠ 0) (hs : s.size ≤ 1048576) (hd : d ≤ 6) : ∀ (n a : Nat) (w : World), s.size - a < n → RdI w p s a d → Signs w → a ≤ s.size → ClimbAt s a →
    Calls Tryz.prog 101 #[.pointer (some ⟨p, 0, none⟩)] w fun e w' => RdPost p s d w (aheadC (CC s) s d n a) e w' := by
  intro n
  induction n with
  | zero => intro a w hn; omega
  | succ n ih =>
    intro a w hn h hg ha hC
    have H : Hid (RdI w p s a d) := h
    have HG : Hid (Signs w) := hg
    have HC : Hid (ClimbAt s a) := hC
    have hsk := skipTo_le ha
    obtain ⟨R, hR⟩ : ∃ R, aheadC (CC s) s d (n + 1) a = R := ⟨_, rfl⟩
    have HRR : Hid (aheadC (CC s) s d (n + 1) a = R) := hR
    rw [hR]
    rw [aheadC_at] at hR
    obtain ⟨b, hb⟩ : ∃ b, skipTo s a = b := ⟨_, rfl⟩
    rw [hb] at hR hsk
    have HB : Hid (skipTo s a = b) := hb
    have HR2 : Hid ((if bt s b = 45 then (match aheadC (CC s) s d n (b + 1) with | none => none | some (t, a') => some (.ahead 3 t, a')) else if bt s b = 33 then (match aheadC (CC s) s d n (b + 1) with | none => none | some (t, a') => some (.ahead 4 t, a')) else singleC (CC s) s b d) = R) := hR
    have HIH : Hid (∀ (w : World), b < s.size → RdI w p s (b + 1) d → Signs w → Calls Tryz.prog 101 #[.pointer (some ⟨p, 0, none⟩)] w fun e w' => RdPost p s d w (aheadC (CC s) s d n (b + 1)) e w') := fun w hlt h1 h2 =>
      ih (b + 1) w (by omega) h1 h2 (by omega) (fun p' l' b' d' w' q1 q2 => hC p' l' b' d' w' q1 (by omega))
    have HSG : Hid (∀ (w : World), RdI w p s b d → Signs w → Calls Tryz.prog 117 #[.pointer (some ⟨p, 0, none⟩)] w fun e w' => RdPost p s d w (singleC (CC s) s b d) e w') := fun w h1 h2 =>
      single_rd p s b d w hp h1 h2 hs (by omega) hd (fun p' l' b' d' w' q1 q2 => hC p' l' b' d' w' q1 (by omega))
    clear h hg hC hR hb ih HRR
    go_enter Tryz.func101, Tryz.ntmps101
    go_wp2_with fail
    refine (skipBlanks_rd p s a d w H.out hs ha).mono ?_
    rintro e w1 ⟨rfl, hw1⟩
    rw [HB.out] at hw1
    have H1 : Hid (RdI w1 p s b d) := by rw [hw1]; exact H.out.at b
    have M1 : Hid (Mv p w w1) := by rw [hw1]; exact (Mv.refl p w).cell _ _
    clear hw1
    go_wp2_with fail
    go_loopw [4] (fun i wr => ∃ k : Nat, 3 ≤ k ∧ k ≤ 5 ∧ i = .int .i64 k ∧ Hid ((3 < k → bt s b ≠ 45) ∧ (4 < k → bt s b ≠ 33)) ∧ Hid (RdI wr p s b d) ∧ Hid (Mv p w wr)) (fun i _ => 5 - (intOf i).toNat)
    case atStart => exact ⟨3, by omega, by omega, rfl, ⟨fun h => by omega, fun h => by omega⟩, H1.out, M1.out⟩
    case round =>
      obtain ⟨k, hk3, hk5, rfl, HN, HR, HM⟩ := hrel
      by_cases hlt : k < 5
      · have c0 := HR.out.c0
        have hgs := HG.out.mv hp HM.out
        obtain ⟨g0, g1⟩ := hgs k (by omega)
        have hsz : (sgI k).size ≤ 1048576 := by have := sgI_size k; omega
        have HP : Hid (∀ w, Calls Tryz.prog 116 #[.string (tl s b), .string (sgI k)] w fun e w' => e = .returned (.bool (hasAt s b (sgI k))) ∧ w' = w) := fun w => hasPrefix_any s (sgI k) b w hs hsz hsk.2
        have HHK : Hid (hasAt s b (sgI k) = decide (bt s b = if k = 3 then 45 else 33)) := by
          show hasAt s b (sgI k) = _
          have : k = 3 ∨ k = 4 := by omega
          rcases this with rfl | rfl
          · rw [minus_at]; rfl
          · rw [bang_at]; rfl
        have hs1 : (sgI k).size = 1 := by
          have : k = 3 ∨ k = 4 := by omega
          rcases this with rfl | rfl <;> rfl
        have HGS : Hid (Signs wr) := hgs
        generalize sgI k = y at *
        clear g1 hsz hgs
        cases hh : hasAt s b y
        · rw [hh] at HP
          go_wp2_with fail
          go_quiet ((go_at_call 116; exact Calls.quiet_of_same (HP.out _)))
          go_wp2_with fail
          go_roundw
          case rel => exact ⟨k + 1, by omega, by omega, by go_num, by
              have h1 := HHK.out
              rw [hh] at h1
              have h2 := of_decide_eq_false h1.symm
              have : k = 3 ∨ k = 4 := by omega
              rcases this with rfl | rfl
              · exact ⟨fun _ => by simpa using h2, fun h => by omega⟩
              · exact ⟨fun _ => HN.out.1 (by omega), fun _ => by simpa using h2⟩, HR.out.drewN _, HM.out.drewN _⟩
          case measure => simp [intOf]; omega
        · rw [hh] at HP
          have hbk : bt s b = if k = 3 then 45 else 33 := of_decide_eq_true (HHK.out.symm.trans hh)
          have hblt : b < s.size := bt_lt hbk (by split <;> decide)
          have hRk : R = match aheadC (CC s) s d n (b + 1) with | none => none | some (t, a') => some (.ahead k t, a') := by
            rw [← HR2.out]
            have : k = 3 ∨ k = 4 := by omega
            rcases this with rfl | rfl
            · rw [if_pos (by simpa using hbk)]; rfl
            · have h33 : bt s b = 33 := by simpa using hbk
              rw [if_neg (by omega), if_pos h33]; rfl
          have HRk : Hid (R = match aheadC (CC s) s d n (b + 1) with | none => none | some (t, a') => some (.ahead k t, a')) := hRk
          have HSK : Hid (∀ w, RdI w p s b d → Calls Tryz.prog 103 #[.pointer (some ⟨p, 0, none⟩), .int .i64 (1 : Nat)] w fun e w' => e = .returned (.tuple #[]) ∧ w' = w.setCell ⟨p, 0, none⟩ (.string (tl s (b + 1)))) := fun w h => skip_rd p s b d 1 w h hs (by omega)
          clear hbk hRk HR2 HHK
          go_wp2_with fail
          go_quiet ((go_at_call 116; exact Calls.quiet_of_same (HP.out _)))
          go_wp2_with fail
          refine (HSK.out _ (HR.out.drewN _)).mono ?_
          rintro e w2 ⟨rfl, hw2⟩
          have H2 : Hid (RdI w2 p s (b + 1) d) := by rw [hw2]; exact (HR.out.drewN _).at (b + 1)
          have M2 : Hid (Mv p w w2) := by rw [hw2]; exact (HM.out.drewN _).cell _ _
          have G2 : Hid (Signs w2) := HG.out.mv hp M2.out
          clear hw2 HP c0 g0 hh hs1
          go_wp2_with fail
          refine (HIH.out w2 hblt H2.out G2.out).mono ?_
          rintro e w3 ⟨hm3, hpost⟩
          have M3 : Hid (Mv p w w3) := M2.out.trans hm3
          clear hm3 HIH HSG
          generalize aheadC (CC s) s d n (b + 1) = Q at *
          cases Q with
          | none =>
            obtain ⟨v, hv, rfl⟩ := hpost
            have hRn : R = none := HRk.out
            subst hRn
            rcases hv with rfl | ⟨tv, xv, rfl⟩
            · go_wp2_with fail
              go_ret2
              exact ⟨M3.out, _, .inr ⟨_, _, rfl⟩, rfl⟩
            · go_wp2_with fail
              go_ret2
              exact ⟨M3.out, _, .inr ⟨_, _, rfl⟩, rfl⟩
          | some q =>
            obtain ⟨t, a'⟩ := q
            obtain ⟨rfl, hr3⟩ := hpost
            have hRs : R = some (.ahead k t, a') := HRk.out
            have H3 : Hid (RdI w3 p s a' d) := hr3
            subst hRs
            obtain ⟨tv, xv, hpv⟩ : ∃ tv xv, partV t = .iface tv xv := by cases t <;> exact ⟨_, _, rfl⟩
            have HPV : Hid (partV t = .iface tv xv) := hpv
            rw [hpv]
            clear hr3 HRk hpv
            go_wp2_with fail
            go_ret2
            exact ⟨M3.out, by rw [partV, HPV.out]; rfl, H3.out⟩
      · have hRk : R = singleC (CC s) s b d := by
          rw [← HR2.out, if_neg (HN.out.1 (by omega)), if_neg (HN.out.2 (by omega))]
        have G2 : Hid (Signs wr) := HG.out.mv hp HM.out
        clear HR2 HIH
        go_wp2_with fail
        refine (HSG.out wr HR.out G2.out).mono ?_
        rintro e w3 ⟨hm3, hpost⟩
        rw [← hRk] at hpost
        have M3 : Hid (Mv p w w3) := HM.out.trans hm3
        clear hm3 HSG hRk
        cases R with
        | none =>
          obtain ⟨v, hv, rfl⟩ := hpost
          have HV : Hid (IsPart v) := hv
          clear hv
          go_wp2_with fail
          go_ret2
          exact ⟨M3.out, _, HV.out, rfl⟩
        | some q =>
          obtain ⟨t, a'⟩ := q
          obtain ⟨rfl, hr⟩ := hpost
          have HRR : Hid (RdI w3 p s a' d) := hr
          clear hr
          go_wp2_with fail
          go_ret2
          exact ⟨M3.out, rfl, HRR.out⟩
end Go.Proofs.YtbpfonmkbbnkcaaGreatDoor

/- The program's reader: climbing. -/
namespace Go.Proofs.YtbpfonmkbbnkcaaGreatDoor
open Go Go.RowKit Go.PlainAid
set_option linter.unusedSimpArgs false
set_option linter.unusedVariables false

theorem loopC_at (s : ByteArray) (least : Int) (d n : Nat) (t : Tree) (a : Nat) : loopC (CC s) s least d (n + 1) t a = if pairAt s (skipTo s a) = 0 ∨ lvl (pairAt s (skipTo s a)) < least then some (t, skipTo s a)
    else thenC (fun r a' => loopC (CC s) s least d n (.pair (pairAt s (skipTo s a)) t r) a') (CC s (lvl (pairAt s (skipTo s a)) + 1) (skipTo s a + (sg (pairAt s (skipTo s a))).size) d) := by
  conv => lhs; unfold loopC
  split
  · rfl
  · cases CC s (lvl (pairAt s (skipTo s a)) + 1) (skipTo s a + (sg (pairAt s (skipTo s a))).size) d with
    | none => rfl
    | some q => rfl
theorem CC_then (s : ByteArray) (least : Int) (a d : Nat) : CC s least a d = thenC (fun t a' => loopC (CC s) s least d (s.size - a' + 1) t a') (aheadC (CC s) s d (s.size - a + 1) a) := by
  rw [CC_eq]
  cases aheadC (CC s) s d (s.size - a + 1) a with
  | none => rfl
  | some q => rfl
theorem partV_form (t : Tree) : ∃ tv xv, partV t = .iface tv xv := by cases t <;> exact ⟨_, _, rfl⟩

set_option maxHeartbeats 1600000 in
set_option maxRecDepth 100000 in
theorem climb_rd (s : ByteArray) (hs : s.size ≤ 1048576) : ∀ (f : Nat) (p : Nat) (least : Int) (a d : Nat) (w : World), s.size - a < f → p ≠ 0 → a ≤ s.size → d ≤ 6 → 1 ≤ least → least ≤ 6 → RdI w p s a d → Signs w →
    Calls Tryz.prog 72 #[.pointer (some ⟨p, 0, none⟩), .int .i64 least] w fun e w' => RdPost p s d w (CC s least a d) e w' := by
  intro f
  induction f with
  | zero => intro p least a d w hf; omega
  | succ f ih =>
    intro p least a d w hf hp ha hd hl1 hl6 h hg
    have hC : ClimbAt s a := fun p' l' b' d' w' q1 q2 q3 q4 q5 q6 q7 q8 => ih p' l' b' d' w' (by omega) q1 q3 q4 q5 q6 q7 q8
    have H : Hid (RdI w p s a d) := h
    have HG : Hid (Signs w) := hg
    have HC : Hid (ClimbAt s a) := hC
    obtain ⟨R, hR⟩ : ∃ R, CC s least a d = R := ⟨_, rfl⟩
    rw [hR]
    rw [CC_then] at hR
    have HA : Hid (Calls Tryz.prog 101 #[.pointer (some ⟨p, 0, none⟩)] w fun e w' => RdPost p s d w (aheadC (CC s) s d (s.size - a + 1) a) e w') := ahead_rd p s d hp hs hd (s.size - a + 1) a w (by omega) h hg ha hC
    have hadv : ∀ t a', aheadC (CC s) s d (s.size - a + 1) a = some (t, a') → a ≤ a' ∧ (a ≤ s.size → a' ≤ s.size) := fun t a' h => advC_ahead (advCC s) _ _ h
    have HADV : Hid (∀ t a', aheadC (CC s) s d (s.size - a + 1) a = some (t, a') → a ≤ a' ∧ (a ≤ s.size → a' ≤ s.size)) := hadv
    clear h hg hC ih hadv
    generalize aheadC (CC s) s d (s.size - a + 1) a = Q at *
    have HRR : Hid (thenC (fun t a' => loopC (CC s) s least d (s.size - a' + 1) t a') Q = R) := hR
    clear hR
    go_enter Tryz.func72, Tryz.ntmps72
    go_wp2_with fail
    refine HA.out.mono ?_
    rintro e w1 ⟨hm1, hpost⟩
    have M1 : Hid (Mv p w w1) := hm1
    clear hm1 HA
    cases Q with
    | none =>
      obtain ⟨v, hv, rfl⟩ := hpost
      have hRn : R = none := HRR.out.symm
      subst hRn
      go_wp2_with fail
      go_ret2
      exact ⟨M1.out, _, .inl rfl, rfl⟩
    | some q =>
      obtain ⟨t0, a0⟩ := q
      obtain ⟨rfl, hr1⟩ := hpost
      have hL : loopC (CC s) s least d (s.size - a0 + 1) t0 a0 = R := HRR.out
      have HL : Hid (loopC (CC s) s least d (s.size - a0 + 1) t0 a0 = R) := hL
      have H1 : Hid (RdI w1 p s a0 d) := hr1
      obtain ⟨ha1, ha2⟩ := HADV.out t0 a0 rfl
      have ha3 := ha2 ha
      clear hr1 hL HRR HADV ha2
      go_wp2_with fail
      go_loopw [6] (fun v wr => ∃ (t : Tree) (b : Nat), v = partV t ∧ a ≤ b ∧ b ≤ s.size ∧ Hid (loopC (CC s) s least d (s.size - b + 1) t b = R) ∧ Hid (RdI wr p s b d) ∧ Hid (Mv p w wr)) (fun _ wr => match wr.cell? ⟨p, 0, none⟩ with | some (.string x) => x.size | _ => 0)
      case atStart => exact ⟨t0, a0, rfl, ha1, ha3, HL.out, H1.out, M1.out⟩
      case round =>
        obtain ⟨t, b, rfl, hab, hbs, HLb, HR, HM⟩ := hrel
        have hms : (match wr.cell? ⟨p, 0, none⟩ with | some (.string x) => x.size | _ => 0) = s.size - b := by rw [HR.out.c0]; exact tl_size s b
        have HMS : Hid ((match wr.cell? ⟨p, 0, none⟩ with | some (.string x) => x.size | _ => 0) = s.size - b) := hms
        have hsk := skipTo_le hbs
        have hL := HLb.out
        rw [loopC_at] at hL
        obtain ⟨tv, xv, hpv⟩ := partV_form t
        have HPV : Hid (partV t = .iface tv xv) := hpv
        rw [hpv]
        have GR : Hid (Signs wr) := HG.out.mv hp HM.out
        have HNP : Hid (Calls Tryz.prog 102 #[.pointer (some ⟨p, 0, none⟩)] wr fun e w' => e = .returned (.tuple #[.int .i64 (pairAt s (skipTo s b)), .bool (!(pairAt s (skipTo s b) == 0))]) ∧ RdI w' p s (skipTo s b) d ∧ Mv p wr w') := nextPair_rd p s b d wr hp HR.out GR.out hs hbs
        have hpl : pairAt s (skipTo s b) ≠ 0 → skipTo s b + (sg (pairAt s (skipTo s b))).size ≤ s.size ∧ 1 ≤ (sg (pairAt s (skipTo s b))).size ∧ 5 ≤ pairAt s (skipTo s b) ∧ pairAt s (skipTo s b) ≤ 13 := fun h => ⟨(pair_lt h).1, (pair_lt h).2.1, (pairAt_is h).1.1, (pairAt_is h).1.2⟩
        generalize skipTo s b = c at *
        generalize pairAt s c = k at *
        have HLL : Hid ((if k = 0 ∨ lvl k < least then some (t, c) else thenC (fun r a' => loopC (CC s) s least d (s.size - b) (.pair k t r) a') (CC s (lvl k + 1) (c + (sg k).size) d)) = R) := hL
        clear hL hpv hms HLb
        by_cases hk0 : k = 0
        · subst hk0
          have hRs : R = some (t, c) := by rw [← HLL.out, if_pos (.inl rfl)]
          subst hRs
          go_wp2_with (go_at_call 102; refine HNP.out.mono ?_; rintro e w2 ⟨rfl, hr2, hm2⟩; have H2 : Hid (RdI w2 p s c d) := hr2; have M2 : Hid (Mv p w w2) := HM.out.trans hm2; clear hr2 hm2)
          go_ret2
          exact ⟨M2.out, by rw [HPV.out]; rfl, H2.out⟩
        · obtain ⟨hp1, hp2, hp3, hp4⟩ := hpl hk0
          have e0 : (k == 0) = false := by simp [hk0]
          have HGK : Hid (∀ w2, Mv p w w2 → w2.cell? ⟨0, k * 2, none⟩ = some (.string (sg k)) ∧ w2.cell? ⟨0, k * 2 + 1, none⟩ = some (.int .i64 (lvl k))) := fun w2 hm2 => by
            have := (HG.out.mv hp hm2) k (by omega)
            have e1 : sgI k = sg k := by unfold sgI; rw [if_neg (by omega), if_neg (by omega)]
            have e2 : tgI k = lvl k := by unfold tgI; rw [if_neg (by omega), if_pos (by omega)]
            rw [e1, e2] at this
            exact this
          have hlv := lvl_range k
          rw [e0] at HNP
          clear hpl
          by_cases hlow : lvl k < least
          · have hRs : R = some (t, c) := by rw [← HLL.out, if_pos (.inr hlow)]
            subst hRs
            generalize lvl (k : Int) = lv at *
            go_wp2_with (go_at_call 102; refine HNP.out.mono ?_; rintro e w2 ⟨rfl, hr2, hm2⟩; have H2 : Hid (RdI w2 p s c d) := hr2; have M2 : Hid (Mv p w w2) := HM.out.trans hm2; clear hr2 hm2; obtain ⟨g0, g1⟩ := HGK.out w2 M2.out)
            go_ret2
            exact ⟨M2.out, by rw [HPV.out]; rfl, H2.out⟩
          · have HLT : Hid (thenC (fun r a' => loopC (CC s) s least d (s.size - b) (.pair k t r) a') (CC s (lvl k + 1) (c + (sg k).size) d) = R) := by
              show thenC _ _ = R
              rw [← HLL.out, if_neg (by omega)]
            have HCL : Hid (∀ w3, RdI w3 p s (c + (sg k).size) d → Signs w3 → Calls Tryz.prog 72 #[.pointer (some ⟨p, 0, none⟩), .int .i64 (lvl k + 1)] w3 fun e w' => RdPost p s d w3 (CC s (lvl k + 1) (c + (sg k).size) d) e w') := fun w3 h3 g3 =>
              HC.out p (lvl k + 1) (c + (sg k).size) d w3 hp (by omega) hp1 hd (by omega) (by omega) h3 g3
            have HADV : Hid (∀ r a', CC s (lvl k + 1) (c + (sg k).size) d = some (r, a') → c + (sg k).size ≤ a' ∧ a' ≤ s.size) := fun r a' h => ⟨(advCC s _ _ _ _ _ h).1, (advCC s _ _ _ _ _ h).2 hp1⟩
            have HSK : Hid (∀ w2, RdI w2 p s c d → Calls Tryz.prog 103 #[.pointer (some ⟨p, 0, none⟩), .int .i64 (sg k).size] w2 fun e w' => e = .returned (.tuple #[]) ∧ w' = w2.setCell ⟨p, 0, none⟩ (.string (tl s (c + (sg k).size)))) := fun w2 h2 => skip_rd p s c d (sg k).size w2 h2 hs hp1
            clear HLL
            generalize lvl (k : Int) = lv at *
            have hlv1 := hlv.1
            have hlv2 := hlv.2
            clear hlv
            generalize sg k = y at *
            generalize CC s (lv + 1) (c + y.size) d = Q at *
            go_wp2_with (first | (go_at_call 102; refine HNP.out.mono ?_; rintro e w2 ⟨rfl, hr2, hm2⟩; have H2 : Hid (RdI w2 p s c d) := hr2; have M2 : Hid (Mv p w w2) := HM.out.trans hm2; clear hr2 hm2; obtain ⟨g0, g1⟩ := HGK.out w2 M2.out) | (go_at_call 103; refine (HSK.out _ H2.out).mono ?_; rintro e w3 ⟨rfl, hw3⟩; have H3 : Hid (RdI w3 p s (c + y.size) d) := (by rw [hw3]; exact H2.out.at _); have M3 : Hid (Mv p w w3) := (by rw [hw3]; exact M2.out.cell _ _); clear hw3 g0 g1; obtain ⟨g0, g1⟩ := HGK.out w3 M3.out))
            refine (HCL.out w3 H3.out (HG.out.mv hp M3.out)).mono ?_
            rintro e w4 ⟨hm4, hpost⟩
            have M4 : Hid (Mv p w w4) := M3.out.trans hm4
            clear hm4 g0 g1 HNP HSK HCL
            cases Q with
            | none =>
              obtain ⟨v, hv, rfl⟩ := hpost
              have hRn : R = none := HLT.out.symm
              subst hRn
              go_wp2_with fail
              go_ret2
              exact ⟨M4.out, _, .inl rfl, rfl⟩
            | some q =>
              obtain ⟨r, a'⟩ := q
              obtain ⟨rfl, hr4⟩ := hpost
              obtain ⟨hv1, hv2⟩ := HADV.out r a' rfl
              have H4 : Hid (RdI w4 p s a' d) := hr4
              have HLn : Hid (loopC (CC s) s least d (s.size - a' + 1) (.pair k t r) a' = R) := by
                show loopC _ _ _ _ _ _ _ = R
                rw [← HLT.out]
                exact fuelLoopC s least d _ _ _ _ (by omega) (by omega)
              obtain ⟨tr, xr, hpr⟩ := partV_form r
              have HPR : Hid (partV r = .iface tr xr) := hpr
              rw [hpr]
              clear hr4 hpr HLT HADV
              go_wp2_with fail
              go_roundw
              case rel => exact ⟨.pair k t r, a', by rw [partV, HPV.out, HPR.out], by omega, hv2, HLn.out, H4.out, M4.out⟩
              case measure =>
                have e1 : (match w4.cell? ⟨p, 0, none⟩ with | some (.string x) => x.size | _ => 0) = s.size - a' := by rw [H4.out.c0]; exact tl_size s a'
                have e2 := HMS.out
                show (match w4.cell? ⟨p, 0, none⟩ with | some (.string x) => x.size | _ => 0) < (match wr.cell? ⟨p, 0, none⟩ with | some (.string x) => x.size | _ => 0)
                rw [e1, e2]
                omega
end Go.Proofs.YtbpfonmkbbnkcaaGreatDoor

/- The nodes of a part, by its methods. -/
namespace Go.Proofs.YtbpfonmkbbnkcaaGreatDoor
open Go Go.RowKit Go.PlainAid
set_option linter.unusedSimpArgs false
set_option linter.unusedVariables false

def partT : Tree → TypeId
  | .num _ => 149
  | .name _ => 151
  | .ahead _ _ => 153
  | .pair _ _ _ => 140
def partX : Tree → Value
  | .num n => .agg #[.int .i64 n]
  | .name x => .agg #[.string x]
  | .ahead k t => .agg #[.int .i64 k, partV t]
  | .pair k l r => .agg #[.int .i64 k, partV l, partV r]
theorem partV_eq (t : Tree) : partV t = .iface (partT t) (partX t) := by cases t <;> rfl
def nodesFn : Tree → FuncId
  | .num _ => 198
  | .name _ => 202
  | .ahead _ _ => 206
  | .pair _ _ _ => 193
theorem nodes_method (t : Tree) (y : Value) (u : World) : (callMethod (.iface (partT t) (partX t)) "loop.example/telltale/impl.nodes" #[y]).run Tryz.prog u = .ok (.enter (nodesFn t) #[partX t, y]) u := by
  cases t
  · kernel_rfl
  · kernel_rfl
  · kernel_rfl
  · kernel_rfl

theorem OwnNd.grow {B : Nat} {w1 : World} {v' : Value} {l : List Nd} {x : Nd} (h : w1.ownsRow B 38 3 v' (l.length + 1) (ndCells l ++ [.int .i64 x.1, .int .i64 x.2.1, .string x.2.2])) : OwnNd B w1 v' (l ++ [x]) := by
  unfold OwnNd
  rw [ndCells_snoc]
  simpa using h
theorem OwnNd.form {B : Nat} {w : World} {v : Value} {l : List Nd} (h : OwnNd B w v l) : ∃ a cap, v = .slice a l.length cap ∧ l.length ≤ cap := by
  rcases h.2 with ⟨h1, h2⟩ | ⟨g, cap, cur, h1, _, _, h3, _⟩
  · exact ⟨none, 0, by rw [h1, h2], by omega⟩
  · exact ⟨_, cap, h1, h3⟩
theorem three_newN (w : World) (x y z : Value) (t : TypeId) (N : Nat) (hN : N = w.heap.size) : ∀ j u, [x, y, z][j]? = some u → (w.alloc (.cells #[x, y, z] t)).cell? ((⟨N, 0, none⟩ : Addr).add j) = some u := by
  subst hN; exact three_new w x y z t

/-- only the row that v owns, and new blocks, were written; v' owns that row, or a new one -/
structure Gr (v : Value) (w w' : World) (v' : Value) : Prop where
  os : w'.os = w.os
  tape : w'.tape = w.tape
  output : w'.output = w.output
  size : w.heap.size ≤ w'.heap.size
  block : ∀ k, k < w.heap.size → some k ≠ v.ownBlock → w'.heap[k]? = w.heap[k]?
  own : v'.ownBlock = v.ownBlock ∨ ∀ g, v'.ownBlock = some g → w.heap.size ≤ g
theorem Gr.of {v : Value} {w w' : World} {g n cap : Nat} (h : w.grownBy w' v.ownBlock) (hat : v.ownBlock = some g ∨ g = w.heap.size) : Gr v w w' (.slice (some ⟨g, 0, none⟩) n cap) :=
  ⟨h.os, h.tape, h.output, h.size, h.block, by
    rcases hat with e | e
    · exact .inl e.symm
    · exact .inr fun k hk => by simp [Value.ownBlock] at hk; omega⟩
theorem Gr.alloc0 {v v' : Value} {w w' : World} {o : Obj} (h : Gr v (w.alloc o) w' v') : Gr v w w' v' :=
  ⟨h.os, h.tape, h.output, by have := h.size; simp at this; omega, fun k hk hv => (h.block k (by simp; omega) hv).trans (Below.heap_alloc _ _ _ hk), by
    rcases h.own with e | e
    · exact .inl e
    · exact .inr fun g hg => by have := e g hg; simp at this; omega⟩
theorem Gr.drew0 {v v' : Value} {w w' : World} (h : Gr v w.drew w' v') : Gr v w w' v' := ⟨h.os, h.tape, h.output, h.size, h.block, h.own⟩
theorem Gr.trans {v v1 v2 : Value} {w w1 w2 : World} (h : Gr v w w1 v1) (k : Gr v1 w1 w2 v2) : Gr v w w2 v2 :=
  ⟨k.os.trans h.os, k.tape.trans h.tape, k.output.trans h.output, Nat.le_trans h.size k.size, fun b hb hv => by
    have hne : some b ≠ v1.ownBlock := by
      rcases h.own with e | e
      · rw [e]; exact hv
      · intro hh; have := e b hh.symm; omega
    exact (k.block b (Nat.lt_of_lt_of_le hb h.size) hne).trans (h.block b hb hv), by
    rcases k.own with e | e
    · rcases h.own with e2 | e2
      · exact .inl (e.trans e2)
      · exact .inr fun g hg => e2 g (by rw [← e]; exact hg)
    · exact .inr fun g hg => Nat.le_trans h.size (e g hg)⟩
theorem Gr.end_alloc {v v' : Value} {w w' : World} (h : Gr v w w' v') (o : Obj) : Gr v w (w'.alloc o) v' :=
  ⟨h.os, h.tape, h.output, by have := h.size; simp; omega, fun k hk hv => (Below.heap_alloc _ _ _ (by have := h.size; omega)).trans (h.block k hk hv), h.own⟩
/-- blocks that the row does not lie in read as before -/
theorem Gr.cell {v v' : Value} {w w' : World} {B0 : Nat} (h : Gr v w w' v') (hv : ∀ k, v.ownBlock = some k → k < B0) : ∀ b o, B0 ≤ b → b < w.heap.size → w'.cell? ⟨b, o, none⟩ = w.cell? ⟨b, o, none⟩ := fun b o h1 h2 =>
  World.cell?_of_block (w := w) (h.block b h2 (fun e => by have := hv b e.symm; omega))
theorem hidOf {p : Prop} (h : p) : Hid p := h
/-- where what is owned then lies -/
theorem Gr.far {v v' : Value} {W W' : World} {B0 : Nat} (h : Gr v W W' v') (hv : ∀ q, v.ownBlock = some q → q < B0) : ∀ q, v'.ownBlock = some q → q < B0 ∨ W.heap.size ≤ q := fun q hq => by
  rcases h.own with e | e
  · exact .inl (hv q (by rw [← e]; exact hq))
  · exact .inr (e q hq)
theorem Gr.cell2 {v v' : Value} {W W' : World} {B0 N : Nat} (h : Gr v W W' v') (hv : ∀ q, v.ownBlock = some q → q < B0 ∨ N ≤ q) (hN : N ≤ W.heap.size) : ∀ b o, B0 ≤ b → b < N → W'.cell? ⟨b, o, none⟩ = W.cell? ⟨b, o, none⟩ := fun b o h1 h2 =>
  World.cell?_of_block (w := W) (h.block b (by omega) (fun e => by have := hv b e.symm; omega))
theorem Gr.below {B : Nat} {v v' : Value} {w w' : World} (h : Gr v w w' v') (hB : B ≤ w.heap.size) (hv : ∀ k, v.ownBlock = some k → B ≤ k) : Below B w w' :=
  ⟨h.os, h.tape, h.output, h.size, fun k hk => h.block k (by omega) (fun e => by have := hv k e.symm; omega)⟩

set_option maxHeartbeats 800000 in
set_option maxRecDepth 100000 in
theorem numNodes_any (B : Nat) (n : Int) (v : Value) (l : List Nd) (w : World) (hB : B ≤ w.heap.size) (h : OwnNd B w v l) (hl : l.length ≤ 1000) :
    Calls Tryz.prog 198 #[.agg #[.int .i64 n], v] w fun e w' => ∃ v', e = .returned v' ∧ OwnNd B w' v' (l ++ [(1, n, noName)]) ∧ Gr v w w' v' := by
  obtain ⟨i0, hi, hz0, hz1, hz2⟩ := info_parts infoNode
  obtain ⟨a, cap, rfl, hcap⟩ := h.form
  obtain ⟨m, hm⟩ : ∃ m, l.length = m := ⟨_, rfl⟩
  have HM : Hid (l.length = m) := hm
  have HO : Hid (w.ownsRow B 38 3 (.slice a m cap) m (ndCells l)) := by rw [← hm]; exact h
  rw [hm] at hcap hl ⊢
  clear h hm
  go_enter Tryz.func198, Tryz.ntmps198
  go_wp2_with (at_builtin; (refine wpList_append_lies _ rfl (.tmp 5) (.tmp 9) 23 rfl B 38 i0 (.agg #[.int .i64 0, .int .i64 0, .string ByteArray.empty]) 3 32 Tryz.underlying23 hi hz0 hz1 hz2 rfl (by decide) _ m (ndCells l) rfl (by exact ((HO.out.alloc _).alloc _)) ⟨w.heap.size + 1, 0, none⟩ 1 1 [.int .i64 1, .int .i64 n, .string noName] rfl rfl (by exact three_newN _ _ _ _ _ _ (by simp)) (by intro u hu; simp at hu; rcases hu with rfl | rfl | rfl <;> rfl) (by decide) (by unfold maxLen; omega) (by omega) (by simp; omega) _ rfl ?_))
  intro g cap' w1 hown' hgrow hat hlt
  have hgr : Gr (.slice a m cap) w w1 (.slice (some ⟨g, 0, none⟩) (m + 1) cap') := Gr.alloc0 (Gr.alloc0 (Gr.of hgrow (by simpa using hat)))
  go_wp2_with fail
  go_ret
  exact ⟨_, rfl, OwnNd.grow (by rw [HM.out]; exact hown'), hgr⟩
set_option maxHeartbeats 800000 in
set_option maxRecDepth 100000 in
theorem nameNodes_any (B : Nat) (x : ByteArray) (v : Value) (l : List Nd) (w : World) (hB : B ≤ w.heap.size) (h : OwnNd B w v l) (hl : l.length ≤ 1000) :
    Calls Tryz.prog 202 #[.agg #[.string x], v] w fun e w' => ∃ v', e = .returned v' ∧ OwnNd B w' v' (l ++ [(2, 0, x)]) ∧ Gr v w w' v' := by
  obtain ⟨i0, hi, hz0, hz1, hz2⟩ := info_parts infoNode
  obtain ⟨a, cap, rfl, hcap⟩ := h.form
  obtain ⟨m, hm⟩ : ∃ m, l.length = m := ⟨_, rfl⟩
  have HM : Hid (l.length = m) := hm
  have HO : Hid (w.ownsRow B 38 3 (.slice a m cap) m (ndCells l)) := by rw [← hm]; exact h
  rw [hm] at hcap hl ⊢
  clear h hm
  go_enter Tryz.func202, Tryz.ntmps202
  go_wp2_with (at_builtin; (refine wpList_append_lies _ rfl (.tmp 5) (.tmp 9) 23 rfl B 38 i0 (.agg #[.int .i64 0, .int .i64 0, .string ByteArray.empty]) 3 32 Tryz.underlying23 hi hz0 hz1 hz2 rfl (by decide) _ m (ndCells l) rfl (by exact ((HO.out.alloc _).alloc _)) ⟨w.heap.size + 1, 0, none⟩ 1 1 [.int .i64 2, .int .i64 0, .string x] rfl rfl (by exact three_newN _ _ _ _ _ _ (by simp)) (by intro u hu; simp at hu; rcases hu with rfl | rfl | rfl <;> rfl) (by decide) (by unfold maxLen; omega) (by omega) (by simp; omega) _ rfl ?_))
  intro g cap' w1 hown' hgrow hat hlt
  have hgr : Gr (.slice a m cap) w w1 (.slice (some ⟨g, 0, none⟩) (m + 1) cap') := Gr.alloc0 (Gr.alloc0 (Gr.of hgrow (by simpa using hat)))
  go_wp2_with fail
  go_ret
  exact ⟨_, rfl, OwnNd.grow (by rw [HM.out]; exact hown'), hgr⟩

/-- a call through an interface, at a step of a region that draws -/
theorem step_invoke {P : Program} {w : World} {ops : Array Oper} {o : Oper} {a : Act} {K : Act → World → Prop} {Q : Exit → Act → World → Prop} {E : Prop} (hgd : o.guard = none) (recv x : Operand) (name : String) (ts : Array TypeId)
    (ho : o.op = .call { callee := .invoke recv name, args := #[x], argTypes := ts }) (pt : TypeId) (px y : Value) (fn : FuncId) (hr : a.eval recv = .iface pt px) (hx : a.eval x = y)
    (hcm : (callMethod (.iface pt px) name #[y]).run P w = .ok (.enter fn #[px, y]) w) {post : Ending → World → Prop} (hc : Calls P fn #[px, y] w post) (h : ∀ e w', post e w' → ∃ v, e = .returned v ∧ K (a.put o.dst v) w') :
    if Region.wanted o (yielded ops a.tmps) = true then Oper.wp P o a w K Q else E := by
  have hw : Region.wanted o (yielded ops a.tmps) = true := by simp [Region.wanted, hgd]
  rw [if_pos hw]
  unfold Oper.wp execOp
  simp only [ho, resolve, invoke, Sem.run_bind, Sem.run_pure, Result.andThen_ok, List.map_toArray, List.map_cons, List.map_nil, hr, hx]
  have e1 : (#[Value.iface pt px] ++ #[y])[0]? = some (.iface pt px) := rfl
  have e2 : (#[Value.iface pt px] ++ #[y]).extract 1 = #[y] := rfl
  rw [e1, e2]
  simp only [hcm]
  refine hc.mono ?_
  intro e w' he
  obtain ⟨v, rfl, hk⟩ := h e w' he
  exact hk

/-- .. at a plain region's operations -/
theorem wpList_invoke {P : Program} {w : World} {ops : Array Oper} {rest : List Oper} {o : Oper} {a : Act} {Q : Exit → Act → World → Prop} (hgd : o.guard = none) (recv x : Operand) (name : String) (ts : Array TypeId)
    (ho : o.op = .call { callee := .invoke recv name, args := #[x], argTypes := ts }) (pt : TypeId) (px y : Value) (fn : FuncId) (hr : a.eval recv = .iface pt px) (hx : a.eval x = y)
    (hcm : (callMethod (.iface pt px) name #[y]).run P w = .ok (.enter fn #[px, y]) w) {post : Ending → World → Prop} (hc : Calls P fn #[px, y] w post) (h : ∀ e w', post e w' → ∃ v, e = .returned v ∧ wpList P ops Q rest (a.put o.dst v) w') : wpList P ops Q (o :: rest) a w :=
  wpList_plain hgd fun K hK => by
    have h2 := step_invoke (ops := ops) (E := False) (Q := Q) (K := K) hgd recv x name ts ho pt px y fn hr hx hcm hc (fun e w' he => by
      obtain ⟨v, hv, hk⟩ := h e w' he
      exact ⟨v, hv, hK _ _ hk⟩)
    have hw : Region.wanted o (yielded ops a.tmps) = true := by simp [Region.wanted, hgd]
    rw [if_pos hw] at h2
    exact h2

/-- what the nodes of a part are asked for -/
def NodesOk (t : Tree) : Prop := ∀ (B : Nat) (v : Value) (l : List Nd) (w : World), B ≤ w.heap.size → OwnNd B w v l → l.length + t.nodes.length ≤ 1000 →
  Calls Tryz.prog (nodesFn t) #[partX t, v] w fun e w' => ∃ v', e = .returned v' ∧ OwnNd B w' v' (l ++ t.nodes) ∧ Gr v w w' v'

set_option maxHeartbeats 1600000 in
set_option maxRecDepth 100000 in
theorem aheadNodes_any (B : Nat) (k : Int) (t : Tree) (v : Value) (l : List Nd) (w : World) (hB : B ≤ w.heap.size) (h : OwnNd B w v l) (hl : l.length + t.nodes.length + 1 ≤ 1000) (hT : NodesOk t) :
    Calls Tryz.prog 206 #[.agg #[.int .i64 k, partV t], v] w fun e w' => ∃ v', e = .returned v' ∧ OwnNd B w' v' (l ++ t.nodes ++ [sgn k]) ∧ Gr v w w' v' := by
  obtain ⟨i0, hi, hz0, hz1, hz2⟩ := info_parts infoNode
  have HO : Hid (OwnNd B w v l) := h
  have HV : Hid (∀ q, v.ownBlock = some q → q < w.heap.size) := fun q hq => (World.ownsRow.lt h q hq).2
  have HT : Hid (∀ (w : World), B ≤ w.heap.size → OwnNd B w v l → Calls Tryz.prog (nodesFn t) #[partX t, v] w fun e w' => ∃ v', e = .returned v' ∧ OwnNd B w' v' (l ++ t.nodes) ∧ Gr v w w' v') := fun w h1 h2 => hT B v l w h1 h2 (by omega)
  have hcm := nodes_method t v
  have HCM : Hid (∀ u, (callMethod (.iface (partT t) (partX t)) "loop.example/telltale/impl.nodes" #[v]).run Tryz.prog u = .ok (.enter (nodesFn t) #[partX t, v]) u) := hcm
  rw [partV_eq]
  generalize partX t = px at *
  generalize partT t = pt at *
  generalize nodesFn t = fn at *
  obtain ⟨l1, hl1⟩ : ∃ l1, l ++ t.nodes = l1 := ⟨_, rfl⟩
  rw [hl1] at HT ⊢
  have hl1' : l1.length + 1 ≤ 1000 := by rw [← hl1]; simp; omega
  obtain ⟨m, hm⟩ : ∃ m, l1.length = m := ⟨_, rfl⟩
  have HM : Hid (l1.length = m) := hm
  rw [hm] at hl1'
  clear h hT hcm hl1 hl hm
  go_enter Tryz.func206, Tryz.ntmps206
  go_wp2_with fail
  go_region_law (first
    | (refine step_invoke rfl (.tmp 6) (.tmp 7) _ _ rfl pt px v fn rfl rfl (HCM.out _) (HT.out _ (by simp; omega) (by first | exact HO.out.alloc _ | exact World.ownsRow.alloc (World.ownsRow.alloc HO.out _) _)) ?_
       rintro e w1 ⟨v1, rfl, hown1, hgr1⟩
       refine ⟨v1, rfl, ?_⟩
       have hc1 := hgr1.cell (B0 := w.heap.size) HV.out
       have hs1 := hgr1.size
       simp at hs1
       have HO1 : Hid (OwnNd B w1 v1 l1) := hown1
       have HG1 : Hid (Gr v _ w1 v1) := hgr1
       clear hown1 hgr1)
    | (refine step_append_lies _ rfl (.tmp 8) (.tmp 12) 23 rfl B 38 i0 (.agg #[.int .i64 0, .int .i64 0, .string ByteArray.empty]) 3 32 Tryz.underlying23 hi hz0 hz1 hz2 rfl (by decide) v1 m (ndCells l1) rfl (by rw [← HM.out]; first | exact HO1.out | exact HO1.out.alloc _) _ 1 1 [.int .i64 k, .int .i64 0, .string noName] rfl rfl (by intro j u hj; match j, hj with | 0, hj => (simp at hj; subst hj; simp [Addr.add, hc1]) | 1, hj => (simp at hj; subst hj; simp [Addr.add, hc1]) | 2, hj => (simp at hj; subst hj; simp [Addr.add, hc1, noName])) (by intro u hu; simp at hu; rcases hu with rfl | rfl | rfl <;> rfl) (by decide) (by unfold maxLen; omega) (by omega) (by first | omega | (simp; omega)) _ rfl ?_
       intro g cap' w2 hown2 hgrow2 hat2 hlt2))
  all_goals
    go_wp2_with fail
    go_ret
    have HG : Gr v w w1 v1 := by
      first
      | exact Gr.alloc0 (Gr.drew0 HG1.out)
      | exact Gr.alloc0 (Gr.drew0 (Gr.alloc0 HG1.out))
      | exact Gr.alloc0 (Gr.alloc0 (Gr.drew0 HG1.out))
    refine ⟨_, rfl, OwnNd.grow (by rw [HM.out]; exact hown2), ?_⟩
    first
    | exact HG.trans (Gr.alloc0 (Gr.of hgrow2 hat2))
    | exact HG.trans (Gr.of hgrow2 hat2)
    | exact HG.trans (Gr.of hgrow2 (by simpa using hat2))
    | exact HG.trans (Gr.alloc0 (Gr.of hgrow2 (by simpa using hat2)))
set_option maxHeartbeats 3200000 in
set_option maxRecDepth 100000 in
theorem pairNodes_any (B : Nat) (k : Int) (t r : Tree) (v : Value) (l : List Nd) (w : World) (hB : B ≤ w.heap.size) (h : OwnNd B w v l) (hl : l.length + t.nodes.length + r.nodes.length + 1 ≤ 1000) (hT : NodesOk t) (hR : NodesOk r) :
    Calls Tryz.prog 193 #[.agg #[.int .i64 k, partV t, partV r], v] w fun e w' => ∃ v', e = .returned v' ∧ OwnNd B w' v' (l ++ t.nodes ++ r.nodes ++ [sgn k]) ∧ Gr v w w' v' := by
  obtain ⟨i0, hi, hz0, hz1, hz2⟩ := info_parts infoNode
  have HO : Hid (OwnNd B w v l) := h
  have HV : Hid (∀ q, v.ownBlock = some q → q < w.heap.size) := fun q hq => (World.ownsRow.lt h q hq).2
  have HT : Hid (∀ (w : World), B ≤ w.heap.size → OwnNd B w v l → Calls Tryz.prog (nodesFn t) #[partX t, v] w fun e w' => ∃ v', e = .returned v' ∧ OwnNd B w' v' (l ++ t.nodes) ∧ Gr v w w' v') := fun w h1 h2 => hT B v l w h1 h2 (by omega)
  have HR : Hid (∀ (v : Value) (w : World), B ≤ w.heap.size → OwnNd B w v (l ++ t.nodes) → Calls Tryz.prog (nodesFn r) #[partX r, v] w fun e w' => ∃ v', e = .returned v' ∧ OwnNd B w' v' (l ++ t.nodes ++ r.nodes) ∧ Gr v w w' v') := fun v w h1 h2 => hR B v (l ++ t.nodes) w h1 h2 (by simp; omega)
  have HCM : Hid (∀ u, (callMethod (.iface (partT t) (partX t)) "loop.example/telltale/impl.nodes" #[v]).run Tryz.prog u = .ok (.enter (nodesFn t) #[partX t, v]) u) := nodes_method t v
  have HCR : Hid (∀ y u, (callMethod (.iface (partT r) (partX r)) "loop.example/telltale/impl.nodes" #[y]).run Tryz.prog u = .ok (.enter (nodesFn r) #[partX r, y]) u) := nodes_method r
  rw [partV_eq t, partV_eq r]
  generalize partX t = px at *
  generalize partT t = pt at *
  generalize nodesFn t = fn at *
  generalize partX r = qx at *
  generalize partT r = qt at *
  generalize nodesFn r = fr at *
  obtain ⟨l2, hl2⟩ : ∃ l2, l ++ t.nodes ++ r.nodes = l2 := ⟨_, rfl⟩
  rw [hl2] at HR ⊢
  have hl2' : l2.length + 1 ≤ 1000 := by rw [← hl2]; simp; omega
  obtain ⟨l1, hl1⟩ : ∃ l1, l ++ t.nodes = l1 := ⟨_, rfl⟩
  rw [hl1] at HT HR
  obtain ⟨m, hm⟩ : ∃ m, l2.length = m := ⟨_, rfl⟩
  have HM : Hid (l2.length = m) := hm
  rw [hm] at hl2'
  clear h hT hR hl1 hl2 hl hm
  go_enter Tryz.func193, Tryz.ntmps193
  go_wp2_with fail
  go_region_law (first
    | (refine step_invoke rfl (.tmp 8) (.tmp 9) _ _ rfl pt px v fn rfl rfl (HCM.out _) (HT.out _ (by simp; omega) (by first | exact HO.out.alloc _ | exact World.ownsRow.alloc (World.ownsRow.alloc HO.out _) _)) ?_
       rintro e w1 ⟨v1, rfl, hown1, hgr1⟩
       refine ⟨v1, rfl, ?_⟩
       have hc1 := hgr1.cell (B0 := w.heap.size) HV.out
       have hs1 := hgr1.size
       simp at hs1
       have hs1' : w.heap.size < w1.heap.size := (by omega)
       have hf1 := hgr1.far HV.out
       simp at hf1
       have HV1 := hidOf hf1
       have HO1 : Hid (OwnNd B w1 v1 l1) := hown1
       have HG1 : Hid (Gr v w w1 v1) := (by
         first
         | exact Gr.alloc0 (Gr.drew0 hgr1)
         | exact Gr.alloc0 (Gr.drew0 (Gr.alloc0 hgr1))
         | exact Gr.alloc0 (Gr.alloc0 (Gr.drew0 hgr1)))
       clear hown1 hgr1 hf1)
    | (refine step_invoke rfl (.tmp 12) (.tmp 10) _ _ rfl qt qx v1 fr rfl rfl (HCR.out _ _) (HR.out _ _ (by first | omega | (simp; omega)) (by first | exact HO1.out | exact HO1.out.alloc _)) ?_
       rintro e w2 ⟨v2, rfl, hown2, hgr2⟩
       refine ⟨v2, rfl, ?_⟩
       have hs2 := hgr2.size
       try simp at hs2
       have hs2' : w.heap.size < w2.heap.size := (by omega)
       have hc2 := hgr2.cell2 HV1.out (by first | omega | (simp; omega))
       have hc3 := hgr2.cell (B0 := w1.heap.size) (fun q hq => (World.ownsRow.lt HO1.out q hq).2)
       have HO2 : Hid (OwnNd B w2 v2 l2) := hown2
       have HG2 : Hid (Gr v w w2 v2) := (by
         first
         | exact HG1.out.trans hgr2
         | exact HG1.out.trans (Gr.alloc0 hgr2)
         | exact HG1.out.trans (Gr.drew0 hgr2))
       clear hown2 hgr2)
    | (refine step_append_lies _ rfl (.tmp 13) (.tmp 17) 23 rfl B 38 i0 (.agg #[.int .i64 0, .int .i64 0, .string ByteArray.empty]) 3 32 Tryz.underlying23 hi hz0 hz1 hz2 rfl (by decide) v2 m (ndCells l2) rfl (by rw [← HM.out]; first | exact HO2.out | exact HO2.out.alloc _) _ 1 1 [.int .i64 k, .int .i64 0, .string noName] rfl rfl (by intro j u hj; match j, hj with | 0, hj => (simp at hj; subst hj; simp [Addr.add, hc1, hc2, hc3]) | 1, hj => (simp at hj; subst hj; simp [Addr.add, hc1, hc2, hc3]) | 2, hj => (simp at hj; subst hj; simp [Addr.add, hc1, hc2, hc3, noName])) (by intro u hu; simp at hu; rcases hu with rfl | rfl | rfl <;> rfl) (by decide) (by unfold maxLen; omega) (by omega) (by first | omega | (simp; omega)) _ rfl ?_
       intro g cap' w3 hown3 hgrow3 hat3 hlt3))
  all_goals
    go_wp2_with fail
    go_ret
    refine ⟨_, rfl, OwnNd.grow (by rw [HM.out]; exact hown3), ?_⟩
    first
    | exact HG2.out.trans (Gr.alloc0 (Gr.of hgrow3 hat3))
    | exact HG2.out.trans (Gr.of hgrow3 hat3)
    | exact HG2.out.trans (Gr.of hgrow3 (by simpa using hat3))
    | exact HG2.out.trans (Gr.alloc0 (Gr.of hgrow3 (by simpa using hat3)))
end Go.Proofs.YtbpfonmkbbnkcaaGreatDoor

/- readSum: the program reads what the model reads. -/
namespace Go.Proofs.YtbpfonmkbbnkcaaGreatDoor
open Go Go.RowKit Go.PlainAid
set_option linter.unusedSimpArgs false
set_option linter.unusedVariables false

theorem nodes_ok (t : Tree) : NodesOk t := by
  induction t with
  | num n => exact fun B v l w h1 h2 h3 => numNodes_any B n v l w h1 h2 (by omega)
  | name x => exact fun B v l w h1 h2 h3 => nameNodes_any B x v l w h1 h2 (by omega)
  | ahead k t ih =>
    intro B v l w h1 h2 h3
    have := aheadNodes_any B k t v l w h1 h2 (by simp [Tree.nodes] at h3; omega) ih
    rw [List.append_assoc] at this
    exact this
  | pair k l r ihl ihr =>
    intro B v l' w h1 h2 h3
    have := pairNodes_any B k l r v l' w h1 h2 (by simp [Tree.nodes] at h3; omega) ihl ihr
    rw [List.append_assoc, List.append_assoc, ← List.append_assoc l.nodes] at this
    exact this

/-! ### each node takes a byte -/
def LenC (rec : Int → Nat → Nat → CR) : Prop := ∀ lev a d t a', rec lev a d = some (t, a') → t.nodes.length + a ≤ a'
theorem len_single {s : ByteArray} {rec : Int → Nat → Nat → CR} (hr : LenC rec) {a d : Nat} {t : Tree} {a' : Nat} (h : singleC rec s a d = some (t, a')) : t.nodes.length + a ≤ a' := by
  unfold singleC at h
  split at h
  · cases h
  · rename_i hs
    split at h
    · split at h
      · cases h
      · split at h
        · cases h
        · rename_i t2 a2 hr2
          have h3 := hr _ _ _ _ _ hr2
          split at h
          · cases h; omega
          · cases h
    · split at h
      · rename_i hf
        unfold numberC at h
        split at h
        · cases h
        · cases h
          have := figEnd_step (show a < s.size by omega) hf
          have h2 := (figF_le s (s.size - (a + 1)) (a + 1)).1
          have e : figF s (s.size - (a + 1)) (a + 1) = figEnd s (a + 1) := rfl
          simp [Tree.nodes]; omega
      · split at h
        · rename_i hn
          cases h
          have h1 : 1 ≤ (s.extract a (wordTo s a)).size := by
            unfold nmB at hn
            rw [Bool.and_eq_true, decide_eq_true_eq] at hn
            exact hn.1.1
          rw [ByteArray.size_extract] at h1
          have h2 := Nat.min_le_left (wordTo s a) s.size
          simp [Tree.nodes]; omega
        · cases h
theorem len_ahead {s : ByteArray} {rec : Int → Nat → Nat → CR} (hr : LenC rec) (d n : Nat) : ∀ {a : Nat} {t : Tree} {a' : Nat}, aheadC rec s d n a = some (t, a') → t.nodes.length + a ≤ a' := by
  induction n with
  | zero => intro a t a' h; cases h
  | succ n ih =>
    intro a t a' h
    have h1 := skipTo_mono s a
    unfold aheadC at h
    split at h
    · split at h
      · cases h
      · rename_i t2 a2 h3
        cases h
        have := ih h3
        simp [Tree.nodes]; omega
    · split at h
      · split at h
        · cases h
        · rename_i t2 a2 h3
          cases h
          have := ih h3
          simp [Tree.nodes]; omega
      · have := len_single hr h
        omega
theorem len_loop {s : ByteArray} {rec : Int → Nat → Nat → CR} (hr : LenC rec) (least : Int) (d n : Nat) : ∀ {t : Tree} {a : Nat} {t' : Tree} {a' : Nat}, loopC rec s least d n t a = some (t', a') → t'.nodes.length + a ≤ t.nodes.length + a' := by
  induction n with
  | zero => intro t a t' a' h; cases h
  | succ n ih =>
    intro t a t' a' h
    have h1 := skipTo_mono s a
    unfold loopC at h
    split at h
    · cases h; omega
    · rename_i hk
      have hk0 : pairAt s (skipTo s a) ≠ 0 := fun e => hk (.inl e)
      have h2 := pair_lt hk0
      split at h
      · cases h
      · rename_i r a2 h3
        have h4 := hr _ _ _ _ _ h3
        have h5 := ih h
        simp [Tree.nodes] at h5
        omega
theorem len_climb (s : ByteArray) (f : Nat) : LenC (climbF s f) := by
  induction f with
  | zero => intro lev a d t a' h; cases h
  | succ f ih =>
    intro lev a d t a' h
    unfold climbF at h
    split at h
    · cases h
    · rename_i t2 a2 h2
      have h3 := len_ahead ih _ _ h2
      have h4 := len_loop ih _ _ _ h
      omega
theorem len_CC {s : ByteArray} {least : Int} {a d : Nat} {t : Tree} {a' : Nat} (h : CC s least a d = some (t, a')) : t.nodes.length + a ≤ a' := len_climb s _ _ _ _ _ _ h

theorem own_nil (w : World) (B : Nat) : OwnNd B w (.slice none 0 0) [] := ⟨rfl, .inl ⟨rfl, rfl⟩⟩

/-- what reading all of a text leaves -/
def ReadPost (w : World) (R : Option (List Nd)) (e : Ending) (w' : World) : Prop :=
  Below w.heap.size w w' ∧ match R with
    | none => e = .returned (.tuple #[.slice none 0 0, .bool false])
    | some l => ∃ v, e = .returned (.tuple #[v, .bool true]) ∧ OwnNd w.heap.size w' v l

set_option maxHeartbeats 800000 in
set_option maxRecDepth 100000 in
theorem readSum_any (s : ByteArray) (w : World) (hs : s.size ≤ maxLen) (hg : Signs w) :
    Calls Tryz.prog 47 #[.string s] w fun e w' => ReadPost w (getM s) e w' := by
  unfold maxLen at hs
  rw [← readC_getM]
  obtain ⟨R, hR⟩ : ∃ R, readC s = R := ⟨_, rfl⟩
  have HRR : Hid (readC s = R) := hR
  rw [hR]
  have HG : Hid (Signs w) := hg
  have h0 := hg.lt
  clear hR hg
  by_cases h60 : 60 < s.size
  · have hRn : R = none := by rw [← HRR.out]; unfold readC; rw [if_pos h60]
    subst hRn
    go_enter Tryz.func47, Tryz.ntmps47
    go_wp2_with fail
    go_ret2
    exact ⟨Below.refl _ _, rfl⟩
  have H1 : Hid (RdI (w.alloc (.cells #[.string s, .int .i64 0] 109)) w.heap.size s 0 0) := ⟨by rw [tl_zero]; simp, by simp, fun j => by simp⟩
  have B1 : Hid (Below w.heap.size w (w.alloc (.cells #[.string s, .int .i64 0] 109))) := (Below.refl _ _).alloc (Nat.le_refl _) _
  have G1 : Hid (Signs (w.alloc (.cells #[.string s, .int .i64 0] 109))) := HG.out.mv (p := w.heap.size) (by omega) (Mv.of_below B1.out)
  go_enter Tryz.func47, Tryz.ntmps47
  go_wp2_with fail
  refine (climb_rd s (by omega) (s.size + 1) w.heap.size 1 0 0 _ (by omega) (by omega) (by omega) (by omega) (by decide) (by decide) H1.out G1.out).mono ?_
  rintro e w2 ⟨hm2, hpost⟩
  have hsz2 : w.heap.size < w2.heap.size := by have := hm2.size; simp at this; omega
  have B2 : Hid (Below w.heap.size w w2) := B1.out.trans ⟨hm2.os, hm2.tape, hm2.output, hm2.size, fun g hg => hm2.block g (by simp; omega) (by omega)⟩
  clear hm2 H1 B1 G1
  cases hc : CC s 1 0 0 with
  | none =>
    rw [hc] at hpost
    obtain ⟨v, hv, rfl⟩ := hpost
    have hRn : R = none := by rw [← HRR.out]; unfold readC; rw [if_neg h60, hc]
    subst hRn
    rcases hv with rfl | ⟨tv, xv, rfl⟩
    · go_wp2_with fail
      go_ret2
      exact ⟨B2.out, rfl⟩
    · go_wp2_with fail
      go_ret2
      exact ⟨B2.out, rfl⟩
  | some q =>
    obtain ⟨t, a'⟩ := q
    rw [hc] at hpost
    obtain ⟨rfl, hr2⟩ := hpost
    have c2 := hr2.c0
    have hadv := (advCC s _ _ _ _ _ hc).2 (by omega)
    have hlen := len_CC hc
    have hRR : R = if a' < s.size then none else if 24 < t.nodes.length then none else some t.nodes := by rw [← HRR.out]; unfold readC; rw [if_neg h60, hc]
    have hsz := tl_size s a'
    clear hr2 hc HRR
    rw [partV_eq]
    by_cases hlt : a' < s.size
    · rw [if_pos hlt] at hRR
      subst hRR
      have hl : ¬ (tl s a').toList = [] := by
        intro h
        rw [Lib.toList_data] at h
        have : (tl s a').size = 0 := by
          show (tl s a').data.size = 0
          rw [← Array.length_toList, h]; rfl
        omega
      have he : (tl s a').toList.isEmpty = false := by simpa using hl
      generalize tl s a' = x at *
      go_wp2_with fail
      go_ret2
      exact ⟨B2.out, rfl⟩
    rw [if_neg hlt] at hRR
    have ht0 : tl s a' = ⟨#[]⟩ := empty_of (by omega)
    rw [ht0] at c2
    have HN : Hid (Calls Tryz.prog (nodesFn t) #[partX t, .slice none 0 0] w2 fun e w' => ∃ v', e = .returned v' ∧ OwnNd w.heap.size w' v' ([] ++ t.nodes) ∧ Gr (.slice none 0 0) w2 w' v') := nodes_ok t w.heap.size _ [] w2 (by omega) (own_nil _ _) (by simp; omega)
    have HCM : Hid (∀ u, (callMethod (.iface (partT t) (partX t)) "loop.example/telltale/impl.nodes" #[.slice none 0 0]).run Tryz.prog u = .ok (.enter (nodesFn t) #[partX t, .slice none 0 0]) u) := nodes_method t (.slice none 0 0)
    generalize partX t = px at *
    generalize partT t = pt at *
    generalize nodesFn t = fn at *
    clear ht0 hsz
    go_wp2_with (refine wpList_invoke rfl (.tmp 24) (.const (.slice none 0 0)) _ _ rfl pt px (.slice none 0 0) fn rfl rfl (HCM.out _) HN.out ?_)
    intro e w3 v3 he hown3 hgr3
    subst he
    refine ⟨v3, rfl, ?_⟩
    have B3 : Hid (Below w.heap.size w w3) := B2.out.trans (hgr3.below (by omega) (fun k hk => by cases hk))
    have HO3 : Hid (OwnNd w.heap.size w3 v3 t.nodes) := hown3
    obtain ⟨a3, c3, rfl, hcap3⟩ := hown3.form
    clear hown3 hgr3 HN HCM
    generalize t.nodes = l at *
    by_cases h24 : 24 < l.length
    · rw [if_pos h24] at hRR
      subst hRR
      generalize l.length = n at *
      go_wp2_with fail
      go_ret2
      exact ⟨B3.out, rfl⟩
    · rw [if_neg h24] at hRR
      subst hRR
      obtain ⟨n, hn⟩ : ∃ n, l.length = n := ⟨_, rfl⟩
      rw [hn] at h24 hcap3 HO3 ⊢
      clear hn hlen
      go_wp2_with fail
      go_ret2
      exact ⟨B3.out, _, rfl, HO3.out⟩
end Go.Proofs.YtbpfonmkbbnkcaaGreatDoor
