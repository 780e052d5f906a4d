/- The reader's word, and numbers. -/
import Derived.Test.YtnkeibahaiibpaaGreatDoorBunY3
namespace Go.Proofs.YtnkeibahaiibpaaGreatDoor
open Go.RowKit Go.PlainAid
set_option linter.unusedSimpArgs false
set_option linter.unusedVariables false

def alnB (n : Int) : Bool := letB n || figB n
/-- the place of the next byte that is no letter and no figure -/
def wordF (s : ByteArray) : Nat → Nat → Nat
  | 0, a => a
  | f + 1, a => if a < s.size ∧ alnB (bt s a) = true then wordF s f (a + 1) else a
def wordTo (s : ByteArray) (a : Nat) : Nat := wordF s (s.size - a) a
theorem wordTo_step {s : ByteArray} {a : Nat} (h : a < s.size) (hb : alnB (bt s a) = true) : wordTo s a = wordTo s (a + 1) := by
  unfold wordTo
  rw [show s.size - a = (s.size - (a + 1)) + 1 from by omega, wordF, if_pos ⟨h, hb⟩]
theorem wordTo_stop {s : ByteArray} {a : Nat} (h : ¬ (a < s.size ∧ alnB (bt s a) = true)) : wordTo s a = a := by
  unfold wordTo
  cases s.size - a with
  | zero => rfl
  | succ f => rw [wordF, if_neg h]
theorem wordF_le (s : ByteArray) (f : Nat) : ∀ a, a ≤ wordF s f a ∧ (a ≤ s.size → wordF s f a ≤ s.size) := by
  induction f with
  | zero => intro a; simp [wordF]
  | succ f ih =>
    intro a
    unfold wordF
    split
    · have := ih (a + 1); omega
    · omega
theorem wordTo_le {s : ByteArray} {a : Nat} (h : a ≤ s.size) : a ≤ wordTo s a ∧ wordTo s a ≤ s.size := ⟨(wordF_le s _ a).1, (wordF_le s _ a).2 h⟩

theorem l1Letter_is {n : Int} {b : Bool} (h : letB n = b) (w : World) : Calls Tryz.prog 180 #[.int .u8 n] w fun e w' => e = .returned (.bool b) ∧ w' = w := by
  rw [← h]; exact l1Letter_any n w
theorem l1Figure_is {n : Int} {b : Bool} (h : figB n = b) (w : World) : Calls Tryz.prog 181 #[.int .u8 n] w fun e w' => e = .returned (.bool b) ∧ w' = w := by
  rw [← h]; exact l1Figure_any n w

set_option maxHeartbeats 1600000 in
set_option maxRecDepth 100000 in
theorem word_any (p : Nat) (s : ByteArray) (st : Par) (v : Value) (w : World) (hs : s.size ≤ 1048576) (ha : st.at_ ≤ s.size) (h : ParAt p w s st v) :
    Calls Tryz.prog 261 #[.pointer (some ⟨p, 0, none⟩)] w fun e w' => e = .returned (.string (s.extract st.at_ (wordTo s st.at_))) ∧ ParAt p w' s { st with at_ := wordTo s st.at_ } v ∧ Touch p v w w' v := by
  have hb := get_bt s
  have HP : Hid (ParAt p w s st v) := h
  obtain ⟨a0, hat⟩ : ∃ a0, st.at_ = a0 := ⟨_, rfl⟩
  have HA : Hid (st.at_ = a0) := hat
  have c1 := h.c1
  rw [hat] at c1 ha
  have hle := wordTo_le ha
  clear h hat
  go_enter Tryz.func261, Tryz.ntmps261
  go_wp2_with fail
  go_loopw [] (fun wr => ∃ k : Nat, k ≤ s.size ∧ a0 ≤ k ∧ Hid (wordTo s k = wordTo s a0) ∧ Hid (ParAt p wr s { st with at_ := k } v) ∧ Touch p v w wr v) (fun wr => s.size - (intOf ((wr.cell? ⟨p, 1, none⟩).getD undef)).toNat)
  case atStart => exact ⟨a0, ha, Nat.le_refl _, rfl, by have h1 := HP.out; rw [show st = { st with at_ := a0 } from by rw [← HA.out]] at h1; exact h1, Touch.refl _ _ _⟩
  case round =>
    clear c1
    obtain ⟨k, hk, hk0, hsk, hpar, ht⟩ := hrel
    obtain ⟨c0, c1, c2, c3, c4, ho, hown⟩ := hpar.out
    simp only at c1 c2 c3 c4
    clear c2 c3 c4 hown
    by_cases hlt : k < s.size
    · have hltI : (k : Int) < s.size := by omega
      cases hl : letB (bt s k)
      · cases hf : figB (bt s k)
        · have HN : Hid (k = wordTo s a0) := (wordTo_stop (fun h => by simp [alnB, hl, hf] at h)).symm.trans hsk.out
          go_wp2_with fail
          go_quiet ((first | (go_at_call 180; exact Calls.quiet_of_same (l1Letter_any _ _)) | (go_at_call 181; exact Calls.quiet_of_same (l1Figure_any _ _))))
          go_wp2_with fail
          go_quiet (fail)
          go_wp2_with fail
          go_ret
          rw [HA.out]
          exact ⟨by rw [← HN.out]; rfl, by rw [← HN.out]; exact (hpar.out.drewN _).drewN _, (ht.drewN _).drewN _⟩
        · have HN : Hid (wordTo s (k + 1) = wordTo s a0) := (wordTo_step hlt (by simp [alnB, hf])).symm.trans hsk.out
          go_wp2_with fail
          go_quiet ((first | (go_at_call 180; exact Calls.quiet_of_same (l1Letter_any _ _)) | (go_at_call 181; exact Calls.quiet_of_same (l1Figure_any _ _))))
          go_wp2_with fail
          go_roundw
          case rel => exact ⟨k + 1, by omega, by omega, HN.out, (hpar.out.drewN _).at1 (k + 1), (ht.drewN _).setCell _ _⟩
          case measure =>
            rw [World.cell?_setCell_same (wr.drewN nq) ⟨p, 1, none⟩ _ (u := .int .i64 k) c1, c1]
            simp [intOf]; omega
      · have HN : Hid (wordTo s (k + 1) = wordTo s a0) := (wordTo_step hlt (by simp [alnB, hl])).symm.trans hsk.out
        go_wp2_with fail
        go_quiet ((go_at_call 180; exact Calls.quiet_of_same (l1Letter_is hl _)))
        go_wp2_with fail
        go_roundw
        case rel => exact ⟨k + 1, by omega, by omega, HN.out, (hpar.out.drewN _).at1 (k + 1), (ht.drewN _).setCell _ _⟩
        case measure =>
          rw [World.cell?_setCell_same (wr.drewN nq) ⟨p, 1, none⟩ _ (u := .int .i64 k) c1, c1]
          simp [intOf]; omega
    · have hd : decide ((k : Int) < s.size) = false := by simp; omega
      have HN : Hid (k = wordTo s a0) := (wordTo_stop (fun h => hlt h.1)).symm.trans hsk.out
      go_wp2_with fail
      go_quiet ((first | (go_at_call 180; exact Calls.quiet_of_same (l1Letter_any _ _)) | (go_at_call 181; exact Calls.quiet_of_same (l1Figure_any _ _))))
      go_wp2_with fail
      go_quiet (fail)
      go_wp2_with fail
      go_ret
      rw [HA.out]
      exact ⟨by rw [← HN.out]; rfl, by rw [← HN.out]; exact (hpar.out.drewN _).drewN _, (ht.drewN _).drewN _⟩
end Go.Proofs.YtnkeibahaiibpaaGreatDoor
