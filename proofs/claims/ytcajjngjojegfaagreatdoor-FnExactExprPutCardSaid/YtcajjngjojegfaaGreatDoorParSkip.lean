/- The reader's skip, look and take. -/
import Derived.Test.YtcajjngjojegfaaGreatDoorParMem
namespace Go.Proofs.YtcajjngjojegfaaGreatDoor
open Go.RowKit Go.PlainAid
set_option linter.unusedSimpArgs false
set_option linter.unusedVariables false

/-- the place of the next byte that is no blank -/
def skipF (s : ByteArray) : Nat → Nat → Nat
  | 0, a => a
  | f + 1, a => if a < s.size ∧ bt s a = 32 then skipF s f (a + 1) else a
def skipTo (s : ByteArray) (a : Nat) : Nat := skipF s (s.size - a) a
theorem skipTo_step {s : ByteArray} {a : Nat} (h : a < s.size) (hb : bt s a = 32) : skipTo s a = skipTo s (a + 1) := by
  unfold skipTo
  rw [show s.size - a = (s.size - (a + 1)) + 1 from by omega, skipF, if_pos ⟨h, hb⟩]
theorem skipTo_stop {s : ByteArray} {a : Nat} (h : ¬ (a < s.size ∧ bt s a = 32)) : skipTo s a = a := by
  unfold skipTo
  cases s.size - a with
  | zero => rfl
  | succ f => rw [skipF, if_neg h]
theorem skipF_le (s : ByteArray) (f : Nat) : ∀ a, a ≤ skipF s f a ∧ (a ≤ s.size → skipF s f a ≤ s.size) := by
  induction f with
  | zero => intro a; simp [skipF]
  | succ f ih =>
    intro a
    unfold skipF
    split
    · have := ih (a + 1); omega
    · omega
theorem skipTo_le {s : ByteArray} {a : Nat} (h : a ≤ s.size) : a ≤ skipTo s a ∧ skipTo s a ≤ s.size := ⟨(skipF_le s _ a).1, (skipF_le s _ a).2 h⟩

set_option maxHeartbeats 800000 in
theorem skip_any (p : Nat) (s : ByteArray) (st : Par) (v : Value) (w : World) (hs : s.size ≤ maxLen) (ha : st.at_ ≤ s.size) (h : ParAt p w s st v) :
    Calls Tryz.prog 74 #[.pointer (some ⟨p, 0, none⟩)] w fun e w' => e = .returned (.tuple #[]) ∧ ParAt p w' s { st with at_ := skipTo s st.at_ } v ∧ Touch p v w w' v := by
  unfold maxLen at hs
  have hb := get_bt s
  have HP : Hid (ParAt p w s st v) := h
  clear h
  go_enter Tryz.func74, Tryz.ntmps74
  go_wp2_with fail
  go_loopw [] (fun wr => ∃ k : Nat, k ≤ s.size ∧ Hid (skipTo s k = skipTo s st.at_) ∧ Hid (ParAt p wr s { st with at_ := k } v) ∧ Touch p v w wr v) (fun wr => s.size - (intOf ((wr.cell? ⟨p, 1, none⟩).getD undef)).toNat)
  case atStart => exact ⟨st.at_, ha, rfl, HP.out, Touch.refl _ _ _⟩
  case round =>
    obtain ⟨k, hk, hsk, hpar, ht⟩ := hrel
    obtain ⟨c0, c1, c2, c3, c4, ho, hown⟩ := hpar.out
    simp only at c1 c2 c3 c4
    clear c2 c3 c4 hown
    by_cases hlt : k < s.size
    · have hltI : (k : Int) < s.size := by omega
      by_cases h32 : bt s k = 32
      · have h32' : (bt s k == 32) = true := by simp [h32]
        have HN : Hid (skipTo s (k + 1) = skipTo s st.at_) := (skipTo_step hlt h32).symm.trans hsk.out
        clear h32
        go_wp2_with fail
        go_quiet (fail)
        go_wp2_with fail
        go_roundw
        case rel => exact ⟨k + 1, by omega, HN.out, (hpar.out.drewN _).at1 (k + 1), (ht.drewN _).setCell _ _⟩
        case measure =>
          rw [World.cell?_setCell_same (wr.drewN nq) ⟨p, 1, none⟩ _ (u := .int .i64 k) c1, c1]
          simp [intOf]; omega
      · have h32' : (bt s k == 32) = false := by simp [h32]
        have HN : Hid (k = skipTo s st.at_) := (skipTo_stop (fun h => h32 h.2)).symm.trans hsk.out
        clear h32
        go_wp2_with fail
        go_quiet (fail)
        go_wp2_with fail
        go_end0
        refine ⟨rfl, ?_, ht.drewN _⟩
        rw [← HN.out]; exact hpar.out.drewN _
    · have hd : decide ((k : Int) < s.size) = false := by simp; omega
      have HN : Hid (k = skipTo s st.at_) := (skipTo_stop (fun h => hlt h.1)).symm.trans hsk.out
      go_wp2_with fail
      go_quiet (fail)
      go_wp2_with fail
      go_end0
      refine ⟨rfl, ?_, ht.drewN _⟩
      rw [← HN.out]; exact hpar.out.drewN _

/-- the byte at a place; 0 behind the end -/
theorem look_any (p : Nat) (s : ByteArray) (st : Par) (v : Value) (w : World) (hs : s.size ≤ maxLen) (ha : st.at_ ≤ s.size) (h : ParAt p w s st v) :
    Calls Tryz.prog 118 #[.pointer (some ⟨p, 0, none⟩)] w fun e w' => e = .returned (.int .u8 (bt s (skipTo s st.at_))) ∧ ParAt p w' s { st with at_ := skipTo s st.at_ } v ∧ Touch p v w w' v := by
  have hb := get_bt s
  have HP : Hid (ParAt p w s st v) := h
  have hle := skipTo_le ha
  clear h
  go_enter Tryz.func118, Tryz.ntmps118
  go_wp2_with fail
  refine (skip_any p s st v _ hs ha HP.out).mono ?_
  rintro e w1 ⟨rfl, hp1, ht1⟩
  have HP1 : Hid (ParAt p w1 s { st with at_ := skipTo s st.at_ } v) := hp1
  obtain ⟨c0, c1, c2, c3, c4, ho, hown⟩ := hp1
  simp only at c1
  unfold maxLen at hs
  obtain ⟨k, hk⟩ : ∃ k, skipTo s st.at_ = k := ⟨_, rfl⟩
  have HK : Hid (skipTo s st.at_ = k) := hk
  rw [hk] at HP1 c1 hle
  clear c2 c3 c4 hown ho hk
  by_cases hlt : k < s.size
  · have hltI : (k : Int) < s.size := by omega
    have hd : decide ((k : Int) < s.size) = true := by simp; omega
    go_wp2_with fail
    go_quiet (fail)
    go_wp2_with fail
    go_quiet (fail)
    go_wp2_with fail
    go_ret
    rw [HK.out]
    exact ⟨rfl, (HP1.out.drewN _).drewN _, (ht1.drewN _).drewN _⟩
  · have hd : decide ((k : Int) < s.size) = false := by simp; omega
    have HB : Hid (bt s k = 0) := bt_end s (by omega)
    go_wp2_with fail
    go_quiet (fail)
    go_wp2_with fail
    go_ret
    rw [HK.out]
    exact ⟨by rw [HB.out]; rfl, HP1.out.drewN _, ht1.drewN _⟩
end Go.Proofs.YtcajjngjojegfaaGreatDoor
