/- The program's reader: words and figures. -/
import Derived.Test.YtchemhjcknkbgaaGreatDoorBunY15
namespace Go.Proofs.YtchemhjcknkbgaaGreatDoor
open Go Go.RowKit Go.PlainAid
set_option linter.unusedSimpArgs false
set_option linter.unusedVariables false

theorem figEnd_step {s : ByteArray} {a : Nat} (h : a < s.size) (hb : figB (bt s a) = true) : figEnd s a = figEnd s (a + 1) := by
  unfold figEnd
  rw [show s.size - a = (s.size - (a + 1)) + 1 from by omega, figF, if_pos ⟨h, hb⟩]
theorem figEnd_stop {s : ByteArray} {a : Nat} (h : ¬ (a < s.size ∧ figB (bt s a) = true)) : figEnd s a = a := by
  unfold figEnd
  cases s.size - a with
  | zero => rfl
  | succ n => rw [figF, if_neg h]
theorem tl_pre (s : ByteArray) {a n : Nat} (h : a + n ≤ s.size) : (tl s a).extract 0 n = s.extract a (a + n) := by
  unfold tl
  rw [extract_extract' s a s.size 0 n (Nat.le_refl _) (by omega), Nat.add_zero]

theorem isNameByte_is {n : Int} {b : Bool} (h : (letB n || figB n) = b) (w : World) : Calls Tryz.prog 164 #[.int .u8 n] w fun e w' => e = .returned (.bool b) ∧ w' = w := by
  rw [← h]; exact isNameByte_any n w
theorem isFigure_is {n : Int} {b : Bool} (h : figB n = b) (w : World) : Calls Tryz.prog 203 #[.int .u8 n] w fun e w' => e = .returned (.bool b) ∧ w' = w := by
  rw [← h]; exact isFigure_any n w

theorem figEnd_le {s : ByteArray} {a : Nat} (h : a ≤ s.size) : a ≤ figEnd s a ∧ figEnd s a ≤ s.size := ⟨(figF_le s _ a).1, (figF_le s _ a).2 h⟩

set_option maxHeartbeats 800000 in
theorem runWord_rd (p : Nat) (s : ByteArray) (a d : Nat) (w : World) (h : RdI w p s a d) (hs : s.size ≤ 1048576) (ha : a ≤ s.size) :
    Calls Tryz.prog 235 #[.pointer (some ⟨p, 0, none⟩), .func (Fn.func 164) #[] #[]] w fun e w' => e = .returned (.string (s.extract a (wordTo s a))) ∧ w' = w.setCell ⟨p, 0, none⟩ (.string (tl s (wordTo s a))) := by
  have H : Hid (RdI w p s a d) := h
  obtain ⟨c0, c1, fz⟩ := h
  have hsz := tl_size s a
  obtain ⟨b, hb⟩ : ∃ b, wordTo s a = b := ⟨_, rfl⟩
  have hle := wordTo_le ha
  rw [hb] at hle ⊢
  have HB : Hid (wordTo s a = b) := hb
  have HT : Hid (∀ k, bt (tl s a) k = bt s (a + k)) := tl_bt s a
  have HE : Hid ((tl s a).extract 0 (b - a) = s.extract a b) := by
    show (tl s a).extract 0 (b - a) = _
    rw [tl_pre s (by omega), show a + (b - a) = b from by omega]
  obtain ⟨x, hx⟩ : ∃ x, tl s a = x := ⟨_, rfl⟩
  rw [hx] at c0 hsz HT HE
  have hbx := get_bt x
  clear hb hx c1 fz
  go_enter Tryz.func235, Tryz.ntmps235
  go_wp2_with fail
  go_loop [5] (fun i => ∃ k : Nat, a + k ≤ s.size ∧ i = .int .i64 k ∧ Hid (wordTo s (a + k) = b)) (fun i => s.size - (intOf i).toNat)
  case atStart => exact ⟨0, by omega, rfl, HB.out⟩
  case round =>
    obtain ⟨k, hk, rfl, HK⟩ := hrel
    by_cases hlt : a + k < s.size
    · have hkx : k < x.size := by omega
      have hq := HT.out k
      cases hf : (letB (bt s (a + k)) || figB (bt s (a + k)))
      · have hbk : b = a + k := by rw [← HK.out, wordTo_stop (by unfold alnB; rw [hf]; simp)]
        have HS : Hid (∀ w, RdI w p s a d → Calls Tryz.prog 184 #[.pointer (some ⟨p, 0, none⟩), .int .i64 k] w fun e w' => e = .returned (.tuple #[]) ∧ w' = w.setCell ⟨p, 0, none⟩ (.string (tl s b))) := fun w h => by
          have := skip_rd p s a d k w h hs (by omega)
          rw [← hbk] at this; exact this
        have hE := HE.out
        rw [show b - a = k from by omega] at hE
        have HE2 : Hid (x.extract 0 k = s.extract a b) := hE
        clear hE
        go_wp2_with (first | (go_at_call 164; refine (isNameByte_is hf _).mono ?_; rintro e w' ⟨rfl, hw'⟩; rw [hw']; clear hw' w') | (go_at_call 184; refine (HS.out _ H.out).mono ?_; rintro e w' ⟨rfl, hw'⟩))
        go_ret
        exact ⟨ret_txt HE2.out, by rw [hbk]⟩
      · have HK1 : Hid (wordTo s (a + (k + 1)) = b) := by
          show wordTo s (a + (k + 1)) = b
          rw [← Nat.add_assoc, ← wordTo_step hlt (by unfold alnB; exact hf)]; exact HK.out
        go_wp2_with (first | (go_at_call 164; refine (isNameByte_is hf _).mono ?_; rintro e w' ⟨rfl, hw'⟩; rw [hw']; clear hw' w'))
        go_round
        case rel => exact ⟨k + 1, by omega, by go_num, HK1.out⟩
        case measure => simp [intOf]; omega
    · have hbk : b = a + k := by rw [← HK.out, wordTo_stop (by omega)]
      have HS : Hid (∀ w, RdI w p s a d → Calls Tryz.prog 184 #[.pointer (some ⟨p, 0, none⟩), .int .i64 k] w fun e w' => e = .returned (.tuple #[]) ∧ w' = w.setCell ⟨p, 0, none⟩ (.string (tl s b))) := fun w h => by
        have := skip_rd p s a d k w h hs (by omega)
        rw [← hbk] at this; exact this
      have hE := HE.out
      rw [show b - a = k from by omega] at hE
      have HE2 : Hid (x.extract 0 k = s.extract a b) := hE
      clear hE
      go_wp2_with (first | (go_at_call 184; refine (HS.out _ H.out).mono ?_; rintro e w' ⟨rfl, hw'⟩))
      go_ret
      exact ⟨ret_txt HE2.out, by rw [hbk]⟩
set_option maxHeartbeats 800000 in
theorem runFig_rd (p : Nat) (s : ByteArray) (a d : Nat) (w : World) (h : RdI w p s a d) (hs : s.size ≤ 1048576) (ha : a ≤ s.size) :
    Calls Tryz.prog 235 #[.pointer (some ⟨p, 0, none⟩), .func (Fn.func 203) #[] #[]] w fun e w' => e = .returned (.string (s.extract a (figEnd s a))) ∧ w' = w.setCell ⟨p, 0, none⟩ (.string (tl s (figEnd s a))) := by
  have H : Hid (RdI w p s a d) := h
  obtain ⟨c0, c1, fz⟩ := h
  have hsz := tl_size s a
  obtain ⟨b, hb⟩ : ∃ b, figEnd s a = b := ⟨_, rfl⟩
  have hle := figEnd_le ha
  rw [hb] at hle ⊢
  have HB : Hid (figEnd s a = b) := hb
  have HT : Hid (∀ k, bt (tl s a) k = bt s (a + k)) := tl_bt s a
  have HE : Hid ((tl s a).extract 0 (b - a) = s.extract a b) := by
    show (tl s a).extract 0 (b - a) = _
    rw [tl_pre s (by omega), show a + (b - a) = b from by omega]
  obtain ⟨x, hx⟩ : ∃ x, tl s a = x := ⟨_, rfl⟩
  rw [hx] at c0 hsz HT HE
  have hbx := get_bt x
  clear hb hx c1 fz
  go_enter Tryz.func235, Tryz.ntmps235
  go_wp2_with fail
  go_loop [5] (fun i => ∃ k : Nat, a + k ≤ s.size ∧ i = .int .i64 k ∧ Hid (figEnd s (a + k) = b)) (fun i => s.size - (intOf i).toNat)
  case atStart => exact ⟨0, by omega, rfl, HB.out⟩
  case round =>
    obtain ⟨k, hk, rfl, HK⟩ := hrel
    by_cases hlt : a + k < s.size
    · have hkx : k < x.size := by omega
      have hq := HT.out k
      cases hf : (figB (bt s (a + k)))
      · have hbk : b = a + k := by rw [← HK.out, figEnd_stop (by rw [hf]; simp)]
        have HS : Hid (∀ w, RdI w p s a d → Calls Tryz.prog 184 #[.pointer (some ⟨p, 0, none⟩), .int .i64 k] w fun e w' => e = .returned (.tuple #[]) ∧ w' = w.setCell ⟨p, 0, none⟩ (.string (tl s b))) := fun w h => by
          have := skip_rd p s a d k w h hs (by omega)
          rw [← hbk] at this; exact this
        have hE := HE.out
        rw [show b - a = k from by omega] at hE
        have HE2 : Hid (x.extract 0 k = s.extract a b) := hE
        clear hE
        go_wp2_with (first | (go_at_call 203; refine (isFigure_is hf _).mono ?_; rintro e w' ⟨rfl, hw'⟩; rw [hw']; clear hw' w') | (go_at_call 184; refine (HS.out _ H.out).mono ?_; rintro e w' ⟨rfl, hw'⟩))
        go_ret
        exact ⟨ret_txt HE2.out, by rw [hbk]⟩
      · have HK1 : Hid (figEnd s (a + (k + 1)) = b) := by
          show figEnd s (a + (k + 1)) = b
          rw [← Nat.add_assoc, ← figEnd_step hlt hf]; exact HK.out
        go_wp2_with (first | (go_at_call 203; refine (isFigure_is hf _).mono ?_; rintro e w' ⟨rfl, hw'⟩; rw [hw']; clear hw' w'))
        go_round
        case rel => exact ⟨k + 1, by omega, by go_num, HK1.out⟩
        case measure => simp [intOf]; omega
    · have hbk : b = a + k := by rw [← HK.out, figEnd_stop (by omega)]
      have HS : Hid (∀ w, RdI w p s a d → Calls Tryz.prog 184 #[.pointer (some ⟨p, 0, none⟩), .int .i64 k] w fun e w' => e = .returned (.tuple #[]) ∧ w' = w.setCell ⟨p, 0, none⟩ (.string (tl s b))) := fun w h => by
        have := skip_rd p s a d k w h hs (by omega)
        rw [← hbk] at this; exact this
      have hE := HE.out
      rw [show b - a = k from by omega] at hE
      have HE2 : Hid (x.extract 0 k = s.extract a b) := hE
      clear hE
      go_wp2_with (first | (go_at_call 184; refine (HS.out _ H.out).mono ?_; rintro e w' ⟨rfl, hw'⟩))
      go_ret
      exact ⟨ret_txt HE2.out, by rw [hbk]⟩
end Go.Proofs.YtchemhjcknkbgaaGreatDoor
