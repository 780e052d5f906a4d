/- CodeOf of the model, and what the law does with ops that are an answer. -/
import Derived.Test.YtbpfonmkbbnkcaaGreatDoorCodeOfP
import Derived.Test.YtbpfonmkbbnkcaaGreatDoorMarks2
import Derived.Test.YtbpfonmkbbnkcaaGreatDoorStrWalks
namespace Go.Proofs.YtbpfonmkbbnkcaaGreatDoor
open Go Go.RowKit Go.PlainAid
set_option linter.unusedSimpArgs false
set_option linter.unusedVariables false

set_option maxHeartbeats 800000 in
set_option maxRecDepth 100000 in
theorem specCodeOf_any (B0 : Nat) (a : Option Addr) (n cap : Nat) (l : List Nd) (a1 : Option Addr) (n1 c1 : Nat) (names : List ByteArray) (w : World) (hn : n ≤ 1048576) (hB0 : B0 ≤ w.heap.size) (hsz : ∀ x ∈ l, x.2.2.size ≤ 1048576) (hz : IsNds B0 w a n l)
    (h1 : n1 ≤ 1048576) (hls : ∀ y ∈ names, y.size ≤ 1048576) (hs : IsStrs B0 w a1 n1 names) :
    Calls Tryz.prog 25 #[.slice a n cap, .slice a1 n1 c1] w fun e w' => CodePost w (codeOfM names l) e w' := by
  have HP : Hid (Calls Tryz.prog 46 #[.slice a n cap] w fun e w' => e = .returned (.string (putM l)) ∧ Below w.heap.size w w') := l1Put_any B0 a n cap l w hn hB0 hsz hz
  have HPE := hidOf (putM_empty l)
  have hnl := hs.1
  have HZ : Hid (IsNds B0 w a n l) := hz
  have HS : Hid (IsStrs B0 w a1 n1 names) := hs
  have HLS : Hid (∀ y ∈ names, y.size ≤ 1048576) := hls
  clear hz hs hls hsz
  obtain ⟨P, hP⟩ : ∃ P, putM l = P := ⟨_, rfl⟩
  rw [hP] at HP HPE
  clear hP
  obtain ⟨R, hR⟩ : ∃ R, codeOfM names l = R := ⟨_, rfl⟩
  have HRR := hidOf hR
  rw [hR]
  clear hR
  cases ht : sumM l with
  | none =>
    have he : P.toList.isEmpty = true := HPE.out.2 ht
    have hRn : R = none := by rw [← HRR.out]; unfold codeOfM; rw [if_pos (.inl ht)]
    subst hRn
    go_enter Tryz.func25, Tryz.ntmps25
    go_wp2_with (go_at_call 46; refine HP.out.mono ?_; rintro e w1 ⟨rfl, hb1⟩)
    go_ret2
    exact ⟨hb1, rfl⟩
  | some t =>
    have he : P.toList.isEmpty = false := by
      cases h : P.toList.isEmpty with
      | false => rfl
      | true => rw [HPE.out.1 h] at ht; cases ht
    have HSM := hidOf (sum_summy ht)
    by_cases h16 : 16 < n1
    · have hRn : R = none := by rw [← HRR.out]; unfold codeOfM; rw [if_pos (.inr (by omega))]
      subst hRn
      go_enter Tryz.func25, Tryz.ntmps25
      go_wp2_with (go_at_call 46; refine HP.out.mono ?_; rintro e w1 ⟨rfl, hb1⟩)
      go_ret2
      exact ⟨hb1, rfl⟩
    have HRC : Hid (codeM names l = R) := by
      show codeM names l = R
      rw [← HRR.out]; unfold codeOfM; rw [if_neg (by simp [ht]; omega)]
    clear ht HRR
    go_enter Tryz.func25, Tryz.ntmps25
    go_wp2_with (go_at_call 46; refine HP.out.mono ?_; rintro e w1 ⟨rfl, hb1⟩)
    have HB1 := hidOf hb1
    have hs1 := hb1.size
    have HL2 : Hid (Calls Tryz.prog 58 #[.slice a n cap, .slice a1 n1 c1] w1 fun e w' => CodePost w1 R e w') := by
      refine (l2Of_any B0 a n cap l a1 n1 c1 names w1 (by omega) HSM.out (HZ.out.below (hb1.mono hB0)) (HS.out.below (hb1.mono hB0)) h1 HLS.out).mono ?_
      rintro e w' ⟨h1, h2⟩
      rw [HRC.out] at h1
      exact ⟨h2, h1⟩
    clear hb1 HRC
    cases R with
    | none =>
      go_wp2_with (go_at_call 58; refine HL2.out.mono ?_; rintro e w2 ⟨hb2, rfl⟩)
      go_ret2
      exact ⟨below_up HB1.out hs1 hb2, rfl⟩
    | some st =>
      go_wp2_with (go_at_call 58; refine HL2.out.mono ?_; rintro e w2 ⟨hb2, v, rfl, ho⟩; have HO2 := hidOf ho; clear ho)
      go_ret2
      exact ⟨below_up HB1.out hs1 hb2, v, rfl, ownsRow_mono HO2.out hs1⟩

/-- ops that are an answer: they lie in a block of their own -/
def OpAns (B : Nat) (w : World) (a : Option Addr) (n : Nat) (zs : List (Int × Int)) : Prop :=
  ∃ g, B ≤ g ∧ (n = 0 ∨ a = some ⟨g, 0, none⟩ ∧ Open g (n * 2) w) ∧ IsOps w a n zs
def codeZs (R : Option (List (Int × Int))) : List (Int × Int) := (R.getD []).reverse
theorem CodePost.ans {w w' : World} {R : Option (List (Int × Int))} {e : Ending} (h : CodePost w R e w') : ∃ a c, e = .returned (.tuple #[.slice a (codeZs R).length c, .bool R.isSome]) ∧ OpAns w.heap.size w' a (codeZs R).length (codeZs R) ∧ Below w.heap.size w w' := by
  obtain ⟨hb, h⟩ := h
  cases R with
  | none => exact ⟨none, 0, h, ⟨_, Nat.le_refl _, .inl rfl, rfl, .inl rfl⟩, hb⟩
  | some st =>
    obtain ⟨v, rfl, ho⟩ := h
    have hl : (codeZs (some st)).length = st.length := by simp [codeZs]
    rw [hl]
    rcases ho.2 with ⟨hv, hn⟩ | ⟨g, cap, cur, hv, h3, h4, h5, h6, h7, h8⟩
    · subst hv
      have : st = [] := List.eq_nil_of_length_eq_zero hn
      subst this
      exact ⟨none, 0, rfl, ⟨_, Nat.le_refl _, .inl rfl, rfl, .inl rfl⟩, hb⟩
    · subst hv
      have hlt := (World.ownsRow.lt ho g rfl).2
      have hio := OwnOp.last (R := 0) (t := st.length) (zt := st.reverse) (r := []) (by rw [List.reverse_reverse, List.append_nil, Nat.zero_add]; exact ho) rfl (by simp)
      refine ⟨_, cap, rfl, ⟨g, h3, .inr ⟨rfl, hlt, fun j hj => ⟨⟨_, (World.ownsRow.cellAt ho j hj).trans (List.getElem?_eq_getElem (by rw [opRow_len]; exact hj))⟩, World.ownsRow.frozenAt ho j⟩⟩, ?_⟩, hb⟩
      simpa [codeZs] using hio
theorem IsOps.mv {p : Nat} {w w' : World} {a : Option Addr} {n : Nat} {zs : List (Int × Int)} (h : IsOps w a n zs) (hm : Mv p w w') (hne : ∀ q o, a = some ⟨q, o, none⟩ → n ≠ 0 → q ≠ p) : IsOps w' a n zs := by
  obtain ⟨h1, h2⟩ := h
  refine ⟨h1, ?_⟩
  by_cases h0 : n = 0
  · exact .inl h0
  rcases h2 with h2 | ⟨b, o, rfl, hb, hc⟩
  · exact .inl h2
  · have he := hm.block b hb (hne b o rfl h0)
    exact .inr ⟨b, o, rfl, Nat.lt_of_lt_of_le hb hm.size, fun i hi => ⟨(World.cell?_of_block he).trans (hc i hi).1, (World.cell?_of_block he).trans (hc i hi).2⟩⟩
theorem OpAns.mv {B p : Nat} {w w' : World} {a : Option Addr} {n : Nat} {zs : List (Int × Int)} (h : OpAns B w a n zs) (hm : Mv p w w') (hp : p < B) : OpAns B w' a n zs := by
  obtain ⟨g, h1, h2, h3⟩ := h
  have hgp : g ≠ p := by omega
  refine ⟨g, h1, ?_, h3.mv hm (fun q o e hn => ?_)⟩
  · rcases h2 with h2 | ⟨h2, h4⟩
    · exact .inl h2
    · exact .inr ⟨h2, h4.mv hm hgp⟩
  · rcases h2 with h2 | ⟨h2, _⟩
    · exact absurd h2 hn
    · rw [h2] at e; cases e; exact hgp
theorem OpAns.up {B : Nat} {w w' : World} {a : Option Addr} {n : Nat} {zs : List (Int × Int)} (h : OpAns B w a n zs) (hb : Below w.heap.size w w') : OpAns B w' a n zs := by
  obtain ⟨g, h1, h2, h3⟩ := h
  refine ⟨g, h1, ?_, ops_below h3 hb⟩
  rcases h2 with h2 | ⟨h2, h4⟩
  · exact .inl h2
  · exact .inr ⟨h2, h4.below hb⟩
theorem OpAns.ops {B : Nat} {w : World} {a : Option Addr} {n : Nat} {zs : List (Int × Int)} (h : OpAns B w a n zs) : IsOps w a n zs := by
  obtain ⟨g, h1, h2, h3⟩ := h; exact h3

set_option maxHeartbeats 800000 in
theorem markOpS_zero (a : Option Addr) (cap : Nat) (k : Int) (w : World) : Calls Tryz.prog 41 #[.slice a 0 cap, .int .i64 k] w fun e w' => e = .returned (.int .i64 k) ∧ w' = w := by
  go_enter Tryz.func41, Tryz.ntmps41
  go_wp2_with fail
  go_loopw [1, 5] (fun q i wr => i = .int .i64 0 ∧ q = .int .i64 k ∧ wr = w) (fun _ i _ => 0)
  case atStart => exact ⟨rfl, rfl, rfl⟩
  case round =>
    obtain ⟨rfl, rfl, rfl⟩ := hrel
    go_wp2_with fail
    go_ret
    exact ⟨rfl, rfl⟩
/-- marks in ops that are an answer: they are found again, and nothing that was there before is written -/
theorem markOpS_ans {B : Nat} {a : Option Addr} {n : Nat} {zs : List (Int × Int)} {w : World} (h : OpAns B w a n zs) (cap : Nat) (hl : n ≤ 1048576) :
    Calls Tryz.prog 41 #[.slice a n cap, .int .i64 1] w fun e w' => e = .returned (.int .i64 (1 + 2 * n)) ∧ Below B w w' ∧ IsOps w' a n (markO n 1) := by
  obtain ⟨g, h1, h2, h3⟩ := h
  by_cases h0 : n = 0
  · subst h0
    refine (markOpS_zero a cap 1 w).mono ?_
    rintro e w' ⟨rfl, rfl⟩
    exact ⟨rfl, Below.refl _ _, rfl, .inl rfl⟩
  · rcases h2 with h2 | ⟨rfl, h4⟩
    · exact absurd h2 h0
    refine (markOpS_open g n cap 1 w h4 hl (by decide) (by decide)).mono ?_
    rintro e w' ⟨rfl, hm, hi⟩
    exact ⟨rfl, ⟨hm.os, hm.tape, hm.output, hm.size, fun q hq => hm.block q (by have := h4.1; omega) (by omega)⟩, hi⟩
end Go.Proofs.YtbpfonmkbbnkcaaGreatDoor
