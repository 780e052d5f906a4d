/- The program's CodeOf. -/
import Derived.Test.YtbpfonmkbbnkcaaGreatDoorPutFold4
import Derived.Test.YtbpfonmkbbnkcaaGreatDoorBunH
import Derived.Test.YtbpfonmkbbnkcaaGreatDoorLift
namespace Go.Proofs.YtbpfonmkbbnkcaaGreatDoor
open Go Go.RowKit Go.PlainAid
set_option linter.unusedSimpArgs false
set_option linter.unusedVariables false

/-- the code of nodes; none, if they are no sum, names are too many, or one is not there -/
def codeOfM (names : List ByteArray) (l : List Nd) : Option (List (Int × Int)) := if sumM l = none ∨ 16 < names.length then none else codeM names l
/-- what CodeOf leaves -/
def CodePost (w : World) (R : Option (List (Int × Int))) (e : Ending) (w' : World) : Prop :=
  Below w.heap.size w w' ∧ match R with
    | none => e = .returned (.tuple #[.slice none 0 0, .bool false])
    | some st => ∃ v, e = .returned (.tuple #[v, .bool true]) ∧ OwnOp w.heap.size w' v st
theorem sum_summy {l : List Nd} {t : Tree} (h : sumM l = some t) : Summy l := by
  have he : (putM l).toList.isEmpty = false := by
    cases e : (putM l).toList.isEmpty with
    | false => rfl
    | true => rw [(putM_empty l).1 e] at h; cases h
  exact ⟨_, (put_get he).1⟩

set_option maxHeartbeats 1600000 in
set_option maxRecDepth 100000 in
theorem implCodeOf_any (B0 : Nat) (a : Option Addr) (n cap : Nat) (l : List Nd) (a1 : Option Addr) (n1 c1 : Nat) (names : List ByteArray) (w : World) (hw : Tabs w) (hn : n ≤ 1048576) (hB0 : B0 ≤ w.heap.size) (hsz : ∀ x ∈ l, x.2.2.size ≤ 1048576) (h64 : Nums64 l) (hz : IsNds B0 w a n l)
    (h1 : n1 ≤ 1048576) (hs : IsStrs B0 w a1 n1 names) :
    Calls Tryz.prog 24 #[.slice a n cap, .slice a1 n1 c1] w fun e w' => CodePost w (codeOfM names l) e w' := by
  have HT : Hid (Calls Tryz.prog 45 #[.slice a n cap] w fun e w' => TreePost w (sumM l) e w') := sumOf_any B0 a n cap l w hw hn hB0 hsz h64 hz
  have hlen := hz.1
  have hnl := hs.1
  have HZ : Hid (IsNds B0 w a n l) := hz
  have HSS : Hid (IsStrs B0 w a1 n1 names) := hs
  obtain ⟨R, hR⟩ : ∃ R, codeOfM names l = R := ⟨_, rfl⟩
  have HRR := hidOf hR
  rw [hR]
  clear hz hw hsz hs hR
  cases ht : sumM l with
  | none =>
    rw [ht] at HT
    have hRn : R = none := by rw [← HRR.out]; unfold codeOfM; rw [if_pos (.inl ht)]
    subst hRn
    go_enter Tryz.func24, Tryz.ntmps24
    go_wp2_with fail
    refine HT.out.mono ?_
    rintro e w1 ⟨hb1, v, hv, rfl⟩
    rcases hv with rfl | ⟨tv, xv, rfl⟩
    · go_wp2_with fail
      go_ret2
      exact ⟨hb1, rfl⟩
    · go_wp2_with fail
      go_ret2
      exact ⟨hb1, rfl⟩
  | some t =>
    rw [ht] at HT
    have HSM := hidOf (sum_summy ht)
    have h24 := (sumM_some ht).1
    have HOK := hidOf (sumM_some ht).2.2.2
    rw [hlen] at h24
    obtain ⟨tv, xv, hpv⟩ := partV_form t
    by_cases h16 : 16 < n1
    · have hRn : R = none := by rw [← HRR.out]; unfold codeOfM; rw [if_pos (.inr (by omega))]
      subst hRn
      go_enter Tryz.func24, Tryz.ntmps24
      go_wp2_with fail
      refine HT.out.mono ?_
      rintro e w1 ⟨hb1, rfl⟩
      rw [hpv]
      go_wp2_with fail
      go_ret2
      exact ⟨hb1, rfl⟩
    have HRC : Hid (codeTo names l n = R) := by
      show codeTo names l n = R
      rw [← HRR.out]; unfold codeOfM codeM; rw [if_neg (by simp [ht]; omega), hlen]
    clear HRR ht
    go_enter Tryz.func24, Tryz.ntmps24
    go_wp2_with fail
    refine HT.out.mono ?_
    rintro e w1 ⟨hb1, rfl⟩
    rw [hpv]
    have HB1 : Hid (Below w.heap.size w w1) := hb1
    have hs1 := hb1.size
    clear hb1 HT hpv
    have HS0 : Hid (StkO w1.heap.size (w1.alloc (.cells #[.slice none 0 0] 80)) []) := ⟨.slice none 0 0, by simp, by simp, rfl, .inl ⟨rfl, rfl⟩⟩
    go_wp2_with fail
    go_loopw [26] (fun i wr => ∃ (k : Nat) (st : List (Int × Int)), k ≤ n ∧ i = .int .i64 k ∧ Hid (codeTo names l k = some st) ∧ Hid (StkO w1.heap.size wr st) ∧ Below w1.heap.size w1 wr) (fun i _ => n - (intOf i).toNat)
    case atStart => exact ⟨0, [], Nat.zero_le _, rfl, rfl, HS0, (Below.refl _ _).alloc (Nat.le_refl _) _⟩
    case round =>
      obtain ⟨k, st, hk, rfl, HC, HS, hbel⟩ := hrel
      have hpw := HS.out.lt
      by_cases hlt : k < n
      · obtain ⟨stk, hstk⟩ := good_to HSM.out k (by omega)
        obtain ⟨i1, i2, i3⟩ := code_len HSM.out k (by omega) HC.out hstk
        obtain ⟨stk', hstk', hcond⟩ := good_at HSM.out (show k < l.length by omega) hstk
        have hok := HOK.out k (by omega)
        rcases HZ.out.2 with h0 | ⟨b, off, rfl, hb, hc⟩
        · omega
        obtain ⟨⟨xk, xn, xs⟩, hx⟩ : ∃ x, l[k]'(by omega) = x := ⟨_, rfl⟩
        have hgx : l.getD k (0, 0, noName) = (xk, xn, xs) := by rw [List.getD_eq_getElem?_getD, List.getElem?_eq_getElem (by omega), hx]; rfl
        have cc := hc k (by omega)
        rw [hx] at cc hcond
        rw [hgx] at hok
        have HX : Hid (codeTo names l (k + 1) = codeStep names (xk, xn, xs) st) := by
          show codeTo names l (k + 1) = _
          simp only [codeTo, HC.out, Option.bind_some]; rw [hgx]
        have hbw : Below w.heap.size w wr := HB1.out.trans (hbel.mono hs1)
        have c0 := (hbw.cell (p := ⟨b, off + k * 3, none⟩) (by simp; omega)).trans cc.1
        have c1' := (hbw.cell (p := ⟨b, off + k * 3 + 1, none⟩) (by simp; omega)).trans cc.2.1
        have c2' := (hbw.cell (p := ⟨b, off + k * 3 + 1 + 1, none⟩) (by simp; omega)).trans cc.2.2
        simp only at hcond
        have HST : Hid (IsStrs B0 wr a1 n1 names) := HSS.out.below (hbw.mono hB0)
        have HCO : Hid ((xk = 1 ∨ xk = 2) ∨ ((xk = 3 ∨ xk = 4) ∧ 1 ≤ st.length ∧ xn = 0) ∨ ((5 ≤ xk ∧ xk ≤ 13) ∧ 2 ≤ st.length ∧ xn = 0)) := by
          obtain ⟨o1, o2, o3⟩ := hok
          simp only at o1 o2 o3
          rcases hcond with h | h | h
          · exact .inl h.1
          · exact .inr (.inl ⟨h.1, by omega, (o3 (by omega) (by omega)).1⟩)
          · exact .inr (.inr ⟨h.1, by omega, (o3 (by omega) (by omega)).1⟩)
        have H3 : Hid (Nums st) := i3
        have hbr : b < wr.heap.size := by have := hbw.size; omega
        have HBW := hidOf hbw
        have hwr := hbw.size
        have hstl : st.length ≤ 24 := by omega
        clear hc cc hx hcond hok hstk hstk' i2 i3 hgx hbw
        by_cases hk2 : xk = 2
        · subst hk2
          obtain ⟨F, hF⟩ : ∃ F, findM names xs = F := ⟨_, rfl⟩
          have HF := hidOf hF
          clear hF
          have HIX : Hid (∀ W, Below wr.heap.size wr W → Calls Tryz.prog 56 #[.slice a1 n1 c1, .string xs] W fun e w' => e = .returned (.int .i64 F) ∧ w' = W) := fun W hb => by
            rw [← HF.out]
            exact index_any B0 a1 n1 c1 names xs W h1 (HST.out.below (hb.mono (by omega)))
          obtain ⟨W, hW⟩ : ∃ W, W = (wr.alloc (.cells #[.int .i64 2, .int .i64 xn, .string xs] 38)).alloc (.cells #[.int .i64 2, .int .i64 xn] 82) := ⟨_, rfl⟩
          have HW := hidOf hW
          have HBW0 : Hid (Below wr.heap.size wr W) := by
            show Below _ _ _
            rw [hW]; exact ((Below.refl _ _).alloc (Nat.le_refl _) _).alloc (by simp) _
          clear hW
          by_cases hF : F < 0
          · have hRn : R = none := by
              rw [← HRC.out]
              exact codeTo_none (show k + 1 ≤ n by omega) (by rw [HX.out]; unfold codeStep; rw [if_pos ⟨rfl, by simp only; rw [HF.out]; exact hF⟩])
            subst hRn
            go_wp2_with (go_at_call 56; refine (HIX.out _ (by rw [← HW.out]; exact HBW0.out)).mono ?_; rintro e w' ⟨rfl, hw'⟩; rw [hw']; clear hw' w')
            go_ret2
            exact ⟨(HBW.out.alloc hwr _).alloc (by simp; omega) _, rfl⟩
          · have HN2 : Hid (codeTo names l (k + 1) = some (foldOp (2, F) st)) := by
              show codeTo names l (k + 1) = _
              rw [HX.out]; unfold codeStep opOf; rw [if_neg (by simp only; rw [HF.out]; omega)]; simp only [if_true]; rw [HF.out]
            obtain ⟨W2, hW2⟩ : ∃ W2, W2 = (wr.alloc (.cells #[.int .i64 2, .int .i64 xn, .string xs] 38)).alloc (.cells #[.int .i64 2, .int .i64 F] 82) := ⟨_, rfl⟩
            have HW2 := hidOf hW2
            have HBW2 : Hid (Below wr.heap.size wr W2) := by
              show Below _ _ _
              rw [hW2]; exact ((Below.refl _ _).alloc (Nat.le_refl _) _).alloc (by simp) _
            have HP2 := hidOf (putFolded_any w1.heap.size 2 F st W2 (HS.out.keep HBW2.out) (by omega) H3.out (.inl (.inr rfl)))
            clear hW2
            go_wp2_with (first
              | (go_at_call 56; refine (HIX.out _ (by rw [← HW.out]; exact HBW0.out)).mono ?_; rintro e w' ⟨rfl, hw'⟩; rw [hw']; clear hw' w')
              | (go_at_call 57; rw [← HW2.out]; refine HP2.out.mono ?_; rintro e w4 ⟨rfl, hs4, hb4⟩; have HS4 := hidOf hs4; have HB4 : Hid (Below w1.heap.size w1 w4) := (hbel.trans (HBW2.out.mono (by omega))).trans hb4; clear hs4 hb4))
            go_roundw
            case rel => exact ⟨k + 1, _, by omega, by go_num, HN2, HS4, HB4.out⟩
            case measure => simp [intOf]; omega
        · have HN2 : Hid (codeTo names l (k + 1) = some (foldOp (xk, xn) st)) := by
            show codeTo names l (k + 1) = _
            rw [HX.out]; unfold codeStep opOf; rw [if_neg (by simp only; omega)]; simp only; rw [if_neg hk2]
          have hk2b : (xk == 2) = false := by simp [hk2]
          obtain ⟨W, hW⟩ : ∃ W, W = (wr.alloc (.cells #[.int .i64 xk, .int .i64 xn, .string xs] 38)).alloc (.cells #[.int .i64 xk, .int .i64 xn] 82) := ⟨_, rfl⟩
          have HW := hidOf hW
          have HBW0 : Hid (Below wr.heap.size wr W) := by
            show Below _ _ _
            rw [hW]; exact ((Below.refl _ _).alloc (Nat.le_refl _) _).alloc (by simp) _
          have HP2 := hidOf (putFolded_any w1.heap.size xk xn st W (HS.out.keep HBW0.out) (by omega) H3.out HCO.out)
          clear hW hk2
          go_wp2_with (go_at_call 57; rw [← HW.out]; refine HP2.out.mono ?_; rintro e w4 ⟨rfl, hs4, hb4⟩; have HS4 := hidOf hs4; have HB4 : Hid (Below w1.heap.size w1 w4) := (hbel.trans (HBW0.out.mono (by omega))).trans hb4; clear hs4 hb4)
          go_roundw
          case rel => exact ⟨k + 1, _, by omega, by go_num, HN2, HS4, HB4.out⟩
          case measure => simp [intOf]; omega
      · have : k = n := by omega
        subst this
        obtain ⟨v, hcv, hfv, hown⟩ := HS.out
        have hRs : R = some st := by rw [← HRC.out]; exact HC.out
        subst hRs
        have HOW : Hid (OwnOp w.heap.size wr v st) := ownsRow_mono hown (by omega)
        have HBW : Hid (Below w.heap.size w wr) := HB1.out.trans (hbel.mono hs1)
        clear hown hfv
        go_wp2_with fail
        go_ret2
        exact ⟨HBW.out, v, rfl, HOW.out⟩
end Go.Proofs.YtbpfonmkbbnkcaaGreatDoor
