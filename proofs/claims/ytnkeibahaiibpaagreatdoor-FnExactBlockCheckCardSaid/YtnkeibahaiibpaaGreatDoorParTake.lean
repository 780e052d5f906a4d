/- The reader's take. -/
import Derived.Test.YtnkeibahaiibpaaGreatDoorBunY1
import Derived.WalkSpells
namespace Go.Proofs.YtnkeibahaiibpaaGreatDoor
open Go.RowKit Go.PlainAid
set_option linter.unusedSimpArgs false
set_option linter.unusedVariables false

/-- whether g stands at place k -/
def hasAt (s : ByteArray) (k : Nat) (g : ByteArray) : Bool := decide (k + g.size ≤ s.size) && ((s.extract k (k + g.size)).toList == g.toList)
/-- the place behind g, if it stands at place k -/
def takeAt (s : ByteArray) (k : Nat) (g : ByteArray) : Nat := if hasAt s k g then k + g.size else k

set_option maxHeartbeats 800000 in
theorem take_any (p : Nat) (s g : ByteArray) (st : Par) (v : Value) (w : World) (hs : s.size ≤ 1048576) (hg : g.size ≤ 1048576) (ha : st.at_ ≤ s.size) (h : ParAt p w s st v) :
    Calls Tryz.prog 248 #[.pointer (some ⟨p, 0, none⟩), .string g] w fun e w' => e = .returned (.bool (hasAt s (skipTo s st.at_) g)) ∧
      ParAt p w' s { st with at_ := takeAt s (skipTo s st.at_) g } v ∧ Touch p v w w' v := by
  have hb := get_bt s
  have HP : Hid (ParAt p w s st v) := h
  have hle := skipTo_le ha
  clear h
  go_enter Tryz.func248, Tryz.ntmps248
  go_wp2_with fail
  refine (skip_any p s st v _ (by unfold maxLen; omega) ha HP.out).mono ?_
  rintro e w1 ⟨rfl, hp1, ht1⟩
  have HP1 : Hid (ParAt p w1 s { st with at_ := skipTo s st.at_ } v) := hp1
  obtain ⟨c0, c1, c2, c3, c4, ho, hown⟩ := hp1
  simp only at c1
  obtain ⟨k, hk⟩ : ∃ k, skipTo s st.at_ = k := ⟨_, rfl⟩
  have HK : Hid (skipTo s st.at_ = k) := hk
  rw [hk] at HP1 c1 hle
  clear c2 c3 c4 hown hk
  by_cases hlt : k + g.size ≤ s.size
  · have hd : decide ((s.size : Int) < k + g.size) = false := by simp; omega
    cases he : ((s.extract k (k + g.size)).toList == g.toList)
    · have HH : Hid (hasAt s k g = false) := by
        show hasAt s k g = false
        simp only [hasAt, he, Bool.and_false]
      go_wp2_with fail
      go_quiet (fail)
      go_wp2_with fail
      go_ret
      rw [HK.out]
      refine ⟨by rw [HH.out]; rfl, ?_, ht1.drewN _⟩
      unfold takeAt; rw [HH.out]; exact HP1.out.drewN _
    · have HH : Hid (hasAt s k g = true) := by
        show hasAt s k g = true
        simp only [hasAt, he, Bool.and_true]; simp [hlt]
      go_wp2_with fail
      go_quiet (fail)
      go_wp2_with fail
      go_ret
      rw [HK.out]
      refine ⟨by rw [HH.out]; rfl, ?_, (ht1.drewN _).setCell _ _⟩
      unfold takeAt; rw [HH.out]; exact (HP1.out.drewN _).at1 (k + g.size)
  · have hd : decide ((s.size : Int) < k + g.size) = true := by simp; omega
    have HH : Hid (hasAt s k g = false) := by
      show hasAt s k g = false
      rw [hasAt, decide_eq_false (by omega)]; rfl
    go_wp2_with fail
    go_quiet (fail)
    go_wp2_with fail
    go_ret
    rw [HK.out]
    refine ⟨by rw [HH.out]; rfl, ?_, ht1.drewN _⟩
    unfold takeAt; rw [HH.out]; exact HP1.out.drewN _
end Go.Proofs.YtnkeibahaiibpaaGreatDoor
