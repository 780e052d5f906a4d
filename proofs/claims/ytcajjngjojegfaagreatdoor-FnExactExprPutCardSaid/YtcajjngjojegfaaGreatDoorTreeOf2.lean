/- treeOf: the part that a list of nodes is. -/
import Derived.Test.YtcajjngjojegfaaGreatDoorTreeOf
import Derived.Test.YtcajjngjojegfaaGreatDoorParWrite
namespace Go.Proofs.YtcajjngjojegfaaGreatDoor
open Go Go.RowKit Go.PlainAid
set_option linter.unusedSimpArgs false
set_option linter.unusedVariables false

def treeNext (x : Nd) (st : List Tree) : Option (List Tree) := match treeStep x st with | none => none | some (t, st') => some (t :: st')
/-- what stands behind the first k nodes -/
def treeTo (l : List Nd) : Nat → Option (List Tree)
  | 0 => some []
  | k + 1 => (treeTo l k).bind (treeNext (l.getD k (0, 0, noName)))
/-- the part that nodes are -/
def treeM (l : List Nd) : Option Tree := if 24 < l.length then none else match treeTo l l.length with | some [t] => some t | _ => none

theorem treeTo_none {l : List Nd} {k n : Nat} (h : k ≤ n) (hk : treeTo l k = none) : treeTo l n = none := by
  induction n with
  | zero => have : k = 0 := by omega
            subst this; exact hk
  | succ n ih =>
    by_cases e : k = n + 1
    · subst e; exact hk
    · simp [treeTo, ih (by omega)]
theorem treeStep_len {x : Nd} {st st' : List Tree} {t : Tree} (h : treeStep x st = some (t, st')) : st'.length ≤ st.length := by
  unfold treeStep at h
  split at h
  · cases h; omega
  · split at h
    · split at h
      · cases h; omega
      · cases h
    · split at h
      · split at h
        · cases h; simp
        · cases h
      · split at h
        · split at h
          · cases h; simp; omega
          · cases h
        · cases h
theorem treeTo_len {l : List Nd} : ∀ k, ∀ {st : List Tree}, treeTo l k = some st → st.length ≤ k := by
  intro k
  induction k with
  | zero => intro st h; simp [treeTo] at h; subst h; simp
  | succ k ih =>
    intro st h
    simp only [treeTo, Option.bind_eq_some_iff] at h
    obtain ⟨st0, h0, h1⟩ := h
    have := ih h0
    unfold treeNext at h1
    split at h1
    · cases h1
    · rename_i t st' hs
      cases h1
      have := treeStep_len hs
      simp; omega

theorem own_keep {w w' : World} {B size n : Nat} {e : TypeId} {v : Value} {xs : List Value} (h : w.ownsRow B e size v n xs) (hb : Below w.heap.size w w') : w'.ownsRow B e size v n xs := by
  have hlt := h.lt
  obtain ⟨h1, h2⟩ := h
  refine ⟨h1, ?_⟩
  rcases h2 with h2 | ⟨g, cap, cur, hv, h3, h4, h5⟩
  · exact .inl h2
  · have hg := (hlt g (by rw [hv]; rfl)).2
    refine .inr ⟨g, cap, cur, hv, h3, ?_, h5⟩
    rw [hb.block g hg]; exact h4
theorem StkP.keep {p : Nat} {w w' : World} {st : List Tree} (h : StkP p w st) (hb : Below w.heap.size w w') : StkP p w' st := by
  have hlt := h.lt
  obtain ⟨v, hc, hf, hown⟩ := h
  exact ⟨v, (hb.cell hlt).trans hc, (hb.frozen hlt).trans hf, own_keep hown hb⟩

/-- what treeOf leaves -/
def TreePost (w : World) (R : Option Tree) (e : Ending) (w' : World) : Prop :=
  Below w.heap.size w w' ∧ match R with
    | none => ∃ v, IsPart v ∧ e = .returned (.tuple #[v, .bool false])
    | some t => e = .returned (.tuple #[partV t, .bool true])

set_option maxHeartbeats 1600000 in
set_option maxRecDepth 100000 in
theorem treeOf_any (B0 : Nat) (a : Option Addr) (n cap : Nat) (l : List Nd) (w : World) (hn : n ≤ 1048576) (hB0 : B0 ≤ w.heap.size) (hsz : ∀ x ∈ l, x.2.2.size ≤ 1048576) (hz : IsNds B0 w a n l) :
    Calls Tryz.prog 68 #[.slice a n cap] w fun e w' => TreePost w (treeM l) e w' := by
  have hlen := hz.1
  have HZ : Hid (IsNds B0 w a n l) := hz
  obtain ⟨R, hR⟩ : ∃ R, treeM l = R := ⟨_, rfl⟩
  have HRR : Hid (treeM l = R) := hR
  rw [hR]
  clear hR hz
  by_cases h24 : 24 < n
  · have hRn : R = none := by rw [← HRR.out]; unfold treeM; rw [if_pos (by omega)]
    subst hRn
    go_enter Tryz.func68, Tryz.ntmps68
    go_wp2_with fail
    go_ret2
    exact ⟨Below.refl _ _, _, .inl rfl, rfl⟩
  have HS0 : Hid (StkP w.heap.size (w.alloc (.cells #[.slice none 0 0] 126)) []) := ⟨.slice none 0 0, by simp, by simp, rfl, .inl ⟨rfl, rfl⟩⟩
  go_enter Tryz.func68, Tryz.ntmps68
  go_wp2_with fail
  go_loopw [14] (fun i wr => ∃ (k : Nat) (st : List Tree), k ≤ n ∧ i = .int .i64 k ∧ Hid (treeTo l k = some st) ∧ Hid (StkP w.heap.size wr st) ∧ Below w.heap.size w wr) (fun i _ => n - (intOf i).toNat)
  case atStart => exact ⟨0, [], Nat.zero_le _, rfl, rfl, HS0.out, (Below.refl _ _).alloc (Nat.le_refl _) _⟩
  case round =>
    obtain ⟨k, st, hk, rfl, HT, HS, hbel⟩ := hrel
    have hst := treeTo_len k HT.out
    have hpw := HS.out.lt
    by_cases hlt : k < n
    · rcases HZ.out.2 with h0 | ⟨b, off, rfl, hb, hc⟩
      · omega
      obtain ⟨⟨xk, xn, xs⟩, hx⟩ : ∃ x, l[k]'(by omega) = x := ⟨_, rfl⟩
      have cc := hc k (by omega)
      rw [hx] at cc
      have HX : Hid (treeTo l (k + 1) = treeNext (xk, xn, xs) st) := by
        show treeTo l (k + 1) = _
        simp only [treeTo, HT.out, Option.bind_some]
        rw [List.getD_eq_getElem?_getD, List.getElem?_eq_getElem (by omega), hx]; rfl
      have hxs : xs.size ≤ 1048576 := by
        have := hsz (l[k]'(by omega)) (List.getElem_mem _)
        rw [hx] at this; exact this
      have c0 := (hbel.cell (p := ⟨b, off + k * 3, none⟩) (by simp; omega)).trans cc.1
      have c1 := (hbel.cell (p := ⟨b, off + k * 3 + 1, none⟩) (by simp; omega)).trans cc.2.1
      have c2 := (hbel.cell (p := ⟨b, off + k * 3 + 1 + 1, none⟩) (by simp; omega)).trans cc.2.2
      have hbw : b < wr.heap.size := by have := hbel.size; omega
      have HP1 : Hid (Calls Tryz.prog 92 #[.agg #[.int .i64 xk, .int .i64 xn, .string xs], .pointer (some ⟨w.heap.size, 0, none⟩)] (wr.alloc (.cells #[.int .i64 xk, .int .i64 xn, .string xs] 38)) fun e w' => PartPost w.heap.size (wr.alloc (.cells #[.int .i64 xk, .int .i64 xn, .string xs] 38)) (treeStep (xk, xn, xs) st) e w') := partOf_any w.heap.size xk xn xs st _ (HS.out.alloc _) (by omega) hxs
      have HB0 : Hid (Below w.heap.size w (wr.alloc (.cells #[.int .i64 xk, .int .i64 xn, .string xs] 38))) := hbel.alloc hbel.size _
      clear hc cc hx
      go_wp2_with fail
      refine HP1.out.mono ?_
      rintro e w2 ⟨hb2, hp2⟩
      have HB2 : Hid (Below w.heap.size w w2) := HB0.out.trans hb2
      clear HP1 HB0 hb2 c0 c1 c2
      cases hts : treeStep (xk, xn, xs) st with
      | none =>
        rw [hts] at hp2
        obtain ⟨v, hv, rfl⟩ := hp2
        have hRn : R = none := by
          rw [← HRR.out]; unfold treeM
          rw [if_neg (by omega), hlen, treeTo_none (n := n) (k := k + 1) (by omega) (by rw [HX.out]; unfold treeNext; rw [hts])]
        subst hRn
        clear hts
        rcases hv with rfl | ⟨tv, xv, rfl⟩
        · go_wp2_with fail
          go_ret2
          exact ⟨HB2.out, _, .inl rfl, rfl⟩
        · go_wp2_with fail
          go_ret2
          exact ⟨HB2.out, _, .inl rfl, rfl⟩
      | some q =>
        obtain ⟨t, st'⟩ := q
        rw [hts] at hp2
        obtain ⟨rfl, hs2⟩ := hp2
        have HT2 : Hid (treeTo l (k + 1) = some (t :: st')) := by
          show treeTo l (k + 1) = _
          rw [HX.out]; unfold treeNext; rw [hts]
        have hl2 := treeStep_len hts
        obtain ⟨tv, xv, hpv⟩ := partV_form t
        have HPU : Hid (Calls Tryz.prog 93 #[.pointer (some ⟨w.heap.size, 0, none⟩), .iface tv xv] w2 fun e w' => e = .returned (.tuple #[]) ∧ StkP w.heap.size w' (t :: st') ∧ Below w.heap.size w2 w') := by
          rw [← hpv]; exact pushP_any _ t st' w2 hs2 (by omega)
        rw [hpv]
        clear hts hpv hs2
        go_wp2_with (go_at_call 93; refine HPU.out.mono ?_; rintro e w3 ⟨rfl, hs3, hb3⟩; have HS3 : Hid (StkP w.heap.size w3 (t :: st')) := hs3; have HB3 : Hid (Below w.heap.size w w3) := HB2.out.trans hb3; clear hs3 hb3)
        go_roundw
        case rel => exact ⟨k + 1, t :: st', by omega, by go_num, HT2, HS3, HB3.out⟩
        case measure => simp [intOf]; omega
    · have : k = n := by omega
      subst this
      obtain ⟨v, hvc, hvf, hown⟩ := HS.out
      obtain ⟨a0, cap0, rfl⟩ : ∃ a0 cap0, v = .slice a0 st.length cap0 := by
        rcases hown.2 with ⟨h, h'⟩ | ⟨g, cap, cur, h, _⟩
        · exact ⟨none, 0, by rw [h, h']⟩
        · exact ⟨_, cap, h⟩
      clear hown hvf
      have HRT : Hid (R = match some st with | some [t] => some t | _ => none) := by
        show R = _
        rw [← HRR.out]; unfold treeM; rw [if_neg (by omega), hlen, HT.out]
      rcases st with _ | ⟨t, _ | ⟨t2, r⟩⟩
      · have hR : R = none := HRT.out
        clear HRT
        subst hR
        simp only [List.length_nil] at hvc
        go_wp2_with fail
        go_ret2
        exact ⟨hbel, _, .inl rfl, rfl⟩
      · have hR : R = some t := HRT.out
        clear HRT
        subst hR
        simp only [List.length_cons, List.length_nil] at hvc
        obtain ⟨tv, xv, hpv⟩ := partV_form t
        have HPV : Hid (partV t = .iface tv xv) := hpv
        have HP : Hid (Calls Tryz.prog 94 #[.pointer (some ⟨w.heap.size, 0, none⟩)] wr fun e w' => e = .returned (.tuple #[.iface tv xv, .bool true]) ∧ StkP w.heap.size w' [] ∧ Below w.heap.size wr w' ∧ w'.heap.size = wr.heap.size ∧ ∀ b o, b ≠ w.heap.size → w'.cell? ⟨b, o, none⟩ = wr.cell? ⟨b, o, none⟩) := by
          rw [← hpv]; exact popP_any _ t [] _ HS.out (by simp)
        clear hpv
        go_wp2_with (go_at_call 94; refine HP.out.mono ?_; rintro e w1 ⟨rfl, hs1, hb1, hz1, hc1⟩; have HB1 : Hid (Below w.heap.size w w1) := hbel.trans hb1; clear hs1 hb1 hz1 hc1)
        go_ret2
        exact ⟨HB1.out, by show _ = _; rw [HPV.out]; rfl⟩
      · have hR : R = none := HRT.out
        clear HRT
        subst hR
        obtain ⟨N, hN⟩ : ∃ N, (t :: t2 :: r).length = N := ⟨_, rfl⟩
        have hN2 : 2 ≤ N := by simp at hN; omega
        rw [hN] at hvc hst
        clear hN
        have e1 : ((N : Int) != 1) = true := by simp; omega
        go_wp2_with fail
        go_ret2
        exact ⟨hbel, _, .inl rfl, rfl⟩
end Go.Proofs.YtcajjngjojegfaaGreatDoor
