/- The program's reader: signs, words. -/
import Derived.Test.YtcajjngjojegfaaGreatDoorReader
namespace Go.Proofs.YtcajjngjojegfaaGreatDoor
open Go Go.RowKit Go.PlainAid
set_option linter.unusedSimpArgs false
set_option linter.unusedVariables false

theorem slitePrefix_any (s g : ByteArray) (a : Nat) (w : World) (hs : s.size ≤ 1048576) (hg : g.size ≤ 1048576) (ha : a ≤ s.size) : Calls Tryz.prog 127 #[.string (tl s a), .string g] w fun e w' => e = .returned (.bool (hasAt s a g)) ∧ w' = w := by
  have hsz := tl_size s a
  by_cases hl : g.size ≤ s.size - a
  · have HE : Hid (((tl s a).extract 0 g.size).toList = (s.extract a (a + g.size)).toList) := by
      show ((tl s a).extract 0 g.size).toList = _
      unfold tl
      rw [extract_extract' s a s.size 0 g.size (Nat.le_refl _) (by omega), Nat.add_zero]
    have HH : Hid (hasAt s a g = ((s.extract a (a + g.size)).toList == g.toList)) := by
      show hasAt s a g = _
      unfold hasAt
      rw [decide_eq_true (by omega), Bool.true_and]
    generalize tl s a = x at *
    go_enter Tryz.func127, Tryz.ntmps127
    go_wp2
    go_ret
    exact ⟨ret_bool (by rw [HH.out, HE.out]), rfl⟩
  · have HH : hasAt s a g = false := by
      unfold hasAt
      rw [decide_eq_false (by omega), Bool.false_and]
    rw [HH]
    generalize tl s a = x at *
    go_enter Tryz.func127, Tryz.ntmps127
    go_wp2
    go_ret
    exact ⟨rfl, rfl⟩
theorem hasPrefix_any (s g : ByteArray) (a : Nat) (w : World) (hs : s.size ≤ 1048576) (hg : g.size ≤ 1048576) (ha : a ≤ s.size) : Calls Tryz.prog 116 #[.string (tl s a), .string g] w fun e w' => e = .returned (.bool (hasAt s a g)) ∧ w' = w := by
  go_enter Tryz.func116, Tryz.ntmps116
  go_wp2_with (go_at_call 127; refine (slitePrefix_any _ _ _ _ hs hg ha).mono ?_; rintro e w' ⟨rfl, rfl⟩)
  go_ret
  exact ⟨rfl, rfl⟩

/-- how a sign is written, those ahead too -/
def sgI (k : Nat) : ByteArray := if k = 3 then ⟨#[45]⟩ else if k = 4 then ⟨#[33]⟩ else sg k
/-- how tightly it binds -/
def tgI (k : Nat) : Int := if k = 3 ∨ k = 4 then 6 else if 5 ≤ k then lvl k else 0
/-- the program's table of signs, in memory -/
def Signs (w : World) : Prop := ∀ k, k < 14 → w.cell? ⟨0, k * 2, none⟩ = some (.string (sgI k)) ∧ w.cell? ⟨0, k * 2 + 1, none⟩ = some (.int .i64 (tgI k))
theorem Signs.lt {w : World} (h : Signs w) : 0 < w.heap.size := World.block_lt_of_cell? w _ (h 0 (by omega)).1
theorem Signs.mv {p : Nat} {w w' : World} (h : Signs w) (hp : p ≠ 0) (hm : Mv p w w') : Signs w' := fun k hk => by
  have hb := hm.block 0 h.lt (Ne.symm hp)
  exact ⟨(World.cell?_of_block (w := w) hb).trans (h k hk).1, (World.cell?_of_block (w := w) hb).trans (h k hk).2⟩
theorem sgI_size (k : Nat) : (sgI k).size ≤ 2 := by
  unfold sgI
  split
  · decide
  · split
    · decide
    · exact sg_size k

theorem pairAt_none {s : ByteArray} {a : Nat} (h : ∀ j, 5 ≤ j → j < 14 → hasAt s a (sg j) = false) : pairAt s a = 0 := by
  by_cases e : pairAt s a = 0
  · exact e
  · have := pairAt_is e
    rw [h _ this.1.1 (by omega)] at this
    cases this.2

set_option maxHeartbeats 800000 in
theorem nextPair_rd (p : Nat) (s : ByteArray) (a d : Nat) (w : World) (hp : p ≠ 0) (h : RdI w p s a d) (hg : Signs w) (hs : s.size ≤ 1048576) (ha : a ≤ s.size) :
    Calls Tryz.prog 102 #[.pointer (some ⟨p, 0, none⟩)] w fun e w' => e = .returned (.tuple #[.int .i64 (pairAt s (skipTo s a)), .bool (!(pairAt s (skipTo s a) == 0))]) ∧ RdI w' p s (skipTo s a) d ∧ Mv p w w' := by
  have H : Hid (RdI w p s a d) := h
  have HG : Hid (Signs w) := hg
  have hsk := (skipTo_le ha).2
  obtain ⟨b, hb⟩ : ∃ b, skipTo s a = b := ⟨_, rfl⟩
  rw [hb] at hsk ⊢
  have HB : Hid (skipTo s a = b) := hb
  clear h hg hb
  go_enter Tryz.func102, Tryz.ntmps102
  go_wp2_with fail
  refine (skipBlanks_rd p s a d w H.out hs ha).mono ?_
  rintro e w1 ⟨rfl, hw1⟩
  rw [HB.out] at hw1
  have H1 : Hid (RdI w1 p s b d) := by rw [hw1]; exact H.out.at b
  have M1 : Hid (Mv p w w1) := by rw [hw1]; exact (Mv.refl p w).cell _ _
  have G1 : Hid (Signs w1) := HG.out.mv hp M1.out
  clear hw1
  go_wp2_with fail
  go_loopw [4] (fun i wr => ∃ k : Nat, 5 ≤ k ∧ k ≤ 14 ∧ i = .int .i64 k ∧ Hid (∀ j, 5 ≤ j → j < k → hasAt s b (sg j) = false) ∧ Hid (RdI wr p s b d) ∧ Hid (Mv p w wr)) (fun i _ => 14 - (intOf i).toNat)
  case atStart => exact ⟨5, by omega, by omega, rfl, fun j h1 h2 => by omega, H1.out, M1.out⟩
  case round =>
    obtain ⟨k, hk5, hk14, rfl, HN, HR, HM⟩ := hrel
    by_cases hlt : k < 14
    · have c0 := HR.out.c0
      obtain ⟨g0, g1⟩ := HG.out.mv hp HM.out k hlt
      have hsg : sgI k = sg k := by unfold sgI; rw [if_neg (by omega), if_neg (by omega)]
      rw [hsg] at g0
      have hsz : (sg k).size ≤ 1048576 := by have := sg_size k; omega
      have HP : Hid (∀ w, Calls Tryz.prog 116 #[.string (tl s b), .string (sg k)] w fun e w' => e = .returned (.bool (hasAt s b (sg k))) ∧ w' = w) := fun w => hasPrefix_any s (sg k) b w hs hsz hsk
      have HKK : Hid (hasAt s b (sg k) = true → pairAt s b = k) := fun h => pairAt_yes ⟨hk5, by omega⟩ h
      clear hsg g1 hsz
      cases hh : hasAt s b (sg k)
      · rw [hh] at HP
        go_wp2_with fail
        go_quiet ((go_at_call 116; exact Calls.quiet_of_same (HP.out _)))
        go_wp2_with fail
        go_roundw
        case rel => exact ⟨k + 1, by omega, by omega, by go_num, fun j h1 h2 => by
            rcases Nat.lt_or_ge j k with h3 | h3
            · exact HN.out j h1 h3
            · have : j = k := by omega
              subst this; exact hh, HR.out.drewN _, HM.out.drewN _⟩
        case measure => simp [intOf]; omega
      · rw [hh] at HP
        have hpk := HKK.out hh
        go_wp2_with fail
        go_quiet ((go_at_call 116; exact Calls.quiet_of_same (HP.out _)))
        go_wp2_with fail
        go_ret2
        exact ⟨by rw [hpk]; simp; omega, HR.out.drewN _, HM.out.drewN _⟩
    · have hpk : pairAt s b = 0 := pairAt_none (fun j h1 h2 => HN.out j h1 (by omega))
      go_wp2_with fail
      go_ret2
      exact ⟨by rw [hpk]; rfl, HR.out, HM.out⟩
end Go.Proofs.YtcajjngjojegfaaGreatDoor
