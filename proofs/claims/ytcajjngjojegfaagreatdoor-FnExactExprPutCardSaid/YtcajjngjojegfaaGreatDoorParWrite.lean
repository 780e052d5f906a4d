/- The model's l1Put, ExprPut and ExprGet, walked. -/
import Derived.Test.YtcajjngjojegfaaGreatDoorParShow2
import Derived.Test.YtcajjngjojegfaaGreatDoorParSame
namespace Go.Proofs.YtcajjngjojegfaaGreatDoor
open Go Go.RowKit Go.PlainAid
set_option linter.unusedSimpArgs false
set_option linter.unusedVariables false

/-- the text of nodes that are a sum; the empty one of others -/
def putM (l : List Nd) : ByteArray := if 24 < l.length then noName else match showM l with | some t => if getM t = some l then t else noName | none => noName

theorem showM_size {l : List Nd} {t : ByteArray} (h : showM l = some t) : t.size ≤ 6 * l.length := by
  unfold showM at h
  split at h
  · rename_i t' lv he
    cases h
    have := (total_to he).1
    simp [total] at this
    omega
  · cases h

set_option maxHeartbeats 800000 in
set_option maxRecDepth 100000 in
theorem l1Put_any (B0 : Nat) (a : Option Addr) (n cap : Nat) (l : List Nd) (w : World) (hn : n ≤ 1048576) (hB0 : B0 ≤ w.heap.size) (hsz : ∀ x ∈ l, x.2.2.size ≤ 1048576) (hz : IsNds B0 w a n l) :
    Calls Tryz.prog 46 #[.slice a n cap] w fun e w' => e = .returned (.string (putM l)) ∧ Below w.heap.size w w' := by
  have hlen := hz.1
  have HZ : Hid (IsNds B0 w a n l) := hz
  have HSZ : Hid (∀ x ∈ l, x.2.2.size ≤ 1048576) := hsz
  clear hz hsz
  obtain ⟨D, hD⟩ : ∃ D, putM l = D := ⟨_, rfl⟩
  have HD : Hid (putM l = D) := hD
  rw [hD]; clear hD
  by_cases h24 : 24 < n
  · have HN : Hid (D = noName) := by
      show D = noName
      rw [← HD.out]; unfold putM; rw [if_pos (by omega)]
    go_enter Tryz.func46, Tryz.ntmps46
    go_wp2_with fail
    go_ret
    exact ⟨ret_str HN.out.symm, Below.refl _ _⟩
  · have HP : Hid (D = match showM l with | some t => if getM t = some l then t else noName | none => noName) := by
      show D = _
      rw [← HD.out]; unfold putM; rw [if_neg (by omega)]
    cases hsh : showM l with
    | none =>
      have HN : Hid (D = noName) := by
        show D = noName
        rw [HP.out, hsh]
      have HS : Hid (showRes l = (noName, false)) := showRes_no hsh
      clear hsh
      go_enter Tryz.func46, Tryz.ntmps46
      go_wp2_with fail
      refine (l1Show_any B0 a n cap l _ (by omega) hB0 HSZ.out HZ.out).mono ?_
      rw [HS.out]
      rintro e w1 ⟨rfl, hb1⟩
      go_wp2_with fail
      refine (l1Get_any noName _ (by decide)).mono ?_
      rintro e w2 ⟨v, b, rfl, _, _, hb2⟩
      have HB : Hid (Below w.heap.size w w2) := hb1.trans (hb2.mono hb1.size)
      clear hb1 hb2
      go_wp2_with fail
      go_ret
      exact ⟨ret_str HN.out.symm, HB.out⟩
    | some t =>
      have HS : Hid (showRes l = (t, true)) := by
        show showRes l = _
        unfold showRes; rw [hsh]
      have hts := showM_size hsh
      have HT : Hid (D = if getM t = some l then t else noName) := by
        show D = _
        rw [HP.out, hsh]
      clear hsh
      go_enter Tryz.func46, Tryz.ntmps46
      go_wp2_with fail
      refine (l1Show_any B0 a n cap l _ (by omega) hB0 HSZ.out HZ.out).mono ?_
      rw [HS.out]
      rintro e w1 ⟨rfl, hb1⟩
      have HZ1 : Hid (IsNds B0 w1 a n l) := HZ.out.below (hb1.mono hB0)
      go_wp2_with fail
      refine (l1Get_any t _ (by omega)).mono ?_
      rintro e w2 ⟨v, b, rfl, hno, hyes, hb2⟩
      have HB : Hid (Below w.heap.size w w2) := hb1.trans (hb2.mono hb1.size)
      have HZ2 : Hid (IsNds w2.heap.size w2 a n l) := (HZ1.out.below (hb2.mono (by have := hb1.size; omega))).mono (by have := hb1.size; have := hb2.size; omega)
      cases hg : getM t with
      | none =>
        have HN : Hid (D = noName) := by
          show D = noName
          rw [HT.out, hg]; rfl
        obtain ⟨rfl, rfl⟩ := hno hg
        clear hb1 hb2 hno hyes hg
        go_wp2_with fail
        go_ret
        exact ⟨ret_str HN.out.symm, HB.out⟩
      | some l' =>
        obtain ⟨rfl, ho⟩ := hyes l' hg
        have hl' := getM_len hg
        obtain ⟨a', cap', rfl, hi'⟩ := ho.is
        have HI : Hid (IsNds w2.heap.size w2 a' l'.length l') := hi'
        have HR : Hid (D = if l' = l then t else noName) := by
          show D = _
          rw [HT.out, hg]; simp
        clear hb1 hb2 hno hyes hg ho hi'
        obtain ⟨n', hn'⟩ : ∃ n', l'.length = n' := ⟨_, rfl⟩
        rw [hn'] at HI hl'
        rw [hn']
        clear hn'
        go_wp2_with fail
        refine (l1Same_any _ a' a n' n cap' cap l' l _ (by omega) hn HI.out HZ2.out).mono ?_
        rintro e w3 ⟨rfl, hb3⟩
        have HB3 : Hid (Below w.heap.size w w3) := HB.out.trans (hb3.mono HB.out.size)
        clear hb3
        cases hd : decide (l' = l)
        · have HN : Hid (D = noName) := by
            show D = noName
            rw [HR.out, if_neg (by simpa using hd)]
          clear hd
          go_wp2_with fail
          go_ret
          exact ⟨ret_str HN.out.symm, HB3.out⟩
        · have HN : Hid (D = t) := by
            show D = t
            rw [HR.out, if_pos (by simpa using hd)]
          clear hd
          go_wp2_with fail
          go_ret
          exact ⟨ret_str HN.out.symm, HB3.out⟩
end Go.Proofs.YtcajjngjojegfaaGreatDoor
