/- The program's reader: what stands in parentheses, a single part, signs ahead. -/
import Derived.Test.YtcajjngjojegfaaGreatDoorParts
namespace Go.Proofs.YtcajjngjojegfaaGreatDoor
open Go Go.RowKit Go.PlainAid
set_option linter.unusedSimpArgs false
set_option linter.unusedVariables false

/-- climbing from any place behind a -/
def ClimbAt (s : ByteArray) (a : Nat) : Prop := ∀ (p : Nat) (least : Int) (b d : Nat) (w : World), p ≠ 0 → a < b → b ≤ s.size → d ≤ 6 → 1 ≤ least → least ≤ 6 → RdI w p s b d → Signs w →
  Calls Tryz.prog 72 #[.pointer (some ⟨p, 0, none⟩), .int .i64 least] w fun e w' => RdPost p s d w (CC s least b d) e w'
/-- what stands in parentheses -/
def withinC (s : ByteArray) (a d : Nat) : CR :=
  if d = 6 then none else match CC s 1 (a + 1) (d + 1) with | none => none | some (t, a') => if hasAt s a' rpar then some (t, a' + 1) else none

set_option maxHeartbeats 800000 in
set_option maxRecDepth 100000 in
theorem within_rd (p : Nat) (s : ByteArray) (a d : Nat) (w : World) (hp : p ≠ 0) (h : RdI w p s a d) (hg : Signs w) (hs : s.size ≤ 1048576) (ha : a < s.size) (hd : d ≤ 6) (hC : ClimbAt s a) :
    Calls Tryz.prog 128 #[.pointer (some ⟨p, 0, none⟩)] w fun e w' => RdPost p s d w (withinC s a d) e w' := by
  have H : Hid (RdI w p s a d) := h
  have HG : Hid (Signs w) := hg
  have c1 := h.c1
  have f1 := h.fz 1
  have HC : Hid (ClimbAt s a) := hC
  obtain ⟨R, hR⟩ : ∃ R, withinC s a d = R := ⟨_, rfl⟩
  have HRR : Hid (withinC s a d = R) := hR
  rw [hR]
  clear h hg hC hR
  by_cases h6 : d = 6
  · have hR : R = none := by rw [← HRR.out]; unfold withinC; rw [if_pos h6]
    subst h6 hR
    go_enter Tryz.func128, Tryz.ntmps128
    go_wp2_with fail
    go_ret2
    exact ⟨Mv.refl p w, _, .inl rfl, rfl⟩
  have e6 : ((d : Int) == 6) = false := by simp; omega
  have H1 : Hid (RdI (w.setCell ⟨p, 1, none⟩ (.int .i64 ((d : Int) + 1))) p s a (d + 1)) := by
    have := H.out.op (d + 1)
    show RdI _ _ _ _ _
    simpa using this
  go_enter Tryz.func128, Tryz.ntmps128
  go_wp2_with fail
  refine (skip_rd p s a (d + 1) 1 _ (by exact H1.out) hs (by omega)).mono ?_
  rintro e w2 ⟨rfl, hw2⟩
  have H2 : Hid (RdI w2 p s (a + 1) (d + 1)) := by rw [hw2]; exact H1.out.at (a + 1)
  have M2 : Hid (Mv p w w2) := by rw [hw2]; exact ((Mv.refl p w).cell _ _).cell _ _
  have G2 : Hid (Signs w2) := HG.out.mv hp M2.out
  clear hw2 H1 e6 f1 c1
  go_wp2_with fail
  refine (HC.out p 1 (a + 1) (d + 1) w2 hp (by omega) (by omega) (by omega) (by decide) (by decide) H2.out G2.out).mono ?_
  rintro e w3 ⟨hm3, hpost⟩
  have M3 : Hid (Mv p w w3) := M2.out.trans hm3
  clear hm3
  cases hc : CC s 1 (a + 1) (d + 1) with
  | none =>
    rw [hc] at hpost
    obtain ⟨v, hv, rfl⟩ := hpost
    have HV : Hid (IsPart v) := hv
    have hR : R = none := by rw [← HRR.out]; unfold withinC; rw [if_neg h6, hc]
    clear hv hc
    subst hR
    go_wp2_with fail
    go_ret2
    exact ⟨M3.out, _, .inl rfl, rfl⟩
  | some q =>
    obtain ⟨t, a'⟩ := q
    rw [hc] at hpost
    obtain ⟨rfl, hr3⟩ := hpost
    have hadv := advCC s _ _ _ _ _ hc
    have ha' : a' ≤ s.size := hadv.2 (by omega)
    have H3 : Hid (RdI w3 p s a' (d + 1)) := hr3
    have c30 := hr3.c0
    have hRR : R = if hasAt s a' rpar then some (t, a' + 1) else none := by rw [← HRR.out]; unfold withinC; rw [if_neg h6, hc]
    have HP : Hid (∀ w, Calls Tryz.prog 116 #[.string (tl s a'), .string ⟨#[41]⟩] w fun e w' => e = .returned (.bool (hasAt s a' rpar)) ∧ w' = w) := fun w => hasPrefix_any s rpar a' w hs (by decide) ha'
    clear hr3 hc HRR
    cases hh : hasAt s a' rpar
    · rw [hh] at HP
      rw [hh] at hRR
      simp only [Bool.false_eq_true, if_false] at hRR
      subst hRR
      go_wp2_with (go_at_call 116; refine (HP.out _).mono ?_; rintro e w' ⟨rfl, hw'⟩; rw [hw']; clear hw' w')
      go_ret2
      exact ⟨M3.out, _, .inl rfl, rfl⟩
    · rw [hh] at HP
      have hlt := hasAt_lt hh
      have e1 : rpar.size = 1 := rfl
      rw [hh] at hRR
      simp only [if_true] at hRR
      subst hRR
      have HSK : Hid (Calls Tryz.prog 103 #[.pointer (some ⟨p, 0, none⟩), .int .i64 (1 : Nat)] w3 fun e w' => e = .returned (.tuple #[]) ∧ w' = w3.setCell ⟨p, 0, none⟩ (.string (tl s (a' + 1)))) := skip_rd p s a' (d + 1) 1 w3 H3.out hs (by omega)
      go_wp2_with (first | (go_at_call 116; refine (HP.out _).mono ?_; rintro e w' ⟨rfl, hw'⟩; rw [hw']; clear hw' w') | (go_at_call 103; refine HSK.out.mono ?_; rintro e w4 ⟨rfl, hw4⟩; have H4 : Hid (RdI w4 p s (a' + 1) (d + 1)) := (by rw [hw4]; exact H3.out.at (a' + 1)); have M4 : Hid (Mv p w w4) := (by rw [hw4]; exact M3.out.cell _ _); clear hw4 c30; have c41 := H4.out.c1; have f41 := H4.out.fz 1))
      go_ret2
      refine ⟨M4.out.cell _ _, rfl, ?_⟩
      have := H4.out.op d
      simpa using this

/-- a single part -/
theorem singleC_eq (s : ByteArray) (a d : Nat) : singleC (CC s) s a d = if s.size ≤ a then none else if bt s a = 40 then withinC s a d else if figB (bt s a) then numberC s a
    else if nmB (s.extract a (wordTo s a)) then some (.name (s.extract a (wordTo s a)), wordTo s a) else none := rfl
end Go.Proofs.YtcajjngjojegfaaGreatDoor
