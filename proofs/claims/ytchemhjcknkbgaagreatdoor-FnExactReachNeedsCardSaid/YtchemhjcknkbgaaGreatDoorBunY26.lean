/- treeOf: the part that a list of nodes is. -/
import Derived.Test.YtchemhjcknkbgaaGreatDoorTreeOf
import Derived.Test.YtchemhjcknkbgaaGreatDoorBunY18
import Derived.Test.YtchemhjcknkbgaaGreatDoorBunY4
namespace Go.Proofs.YtchemhjcknkbgaaGreatDoor
open Go Go.RowKit Go.PlainAid
set_option linter.unusedSimpArgs false
set_option linter.unusedVariables false

def treeNext (x : Nd) (st : List Tree) : Option (List Tree) := match treeStep x st with | none => none | some (t, st') => some (t :: st')
/-- what stands behind the first k nodes -/
def treeTo (l : List Nd) : Nat → Option (List Tree)
  | 0 => some []
  | k + 1 => (treeTo l k).bind (treeNext (l.getD k (0, 0, noName)))
/-- the part that nodes are -/
def treeM (l : List Nd) : Option Tree := if 24 < l.length then none else match treeTo l l.length with | some [t] => some t | _ => none

theorem treeTo_none {l : List Nd} {k n : Nat} (h : k ≤ n) (hk : treeTo l k = none) : treeTo l n = none := by
  induction n with
  | zero => have : k = 0 := by omega
            subst this; exact hk
  | succ n ih =>
    by_cases e : k = n + 1
    · subst e; exact hk
    · simp [treeTo, ih (by omega)]
theorem treeStep_len {x : Nd} {st st' : List Tree} {t : Tree} (h : treeStep x st = some (t, st')) : st'.length ≤ st.length := by
  unfold treeStep at h
  split at h
  · cases h; omega
  · split at h
    · split at h
      · cases h; omega
      · cases h
    · split at h
      · split at h
        · cases h; simp
        · cases h
      · split at h
        · split at h
          · cases h; simp; omega
          · cases h
        · cases h
theorem treeTo_len {l : List Nd} : ∀ k, ∀ {st : List Tree}, treeTo l k = some st → st.length ≤ k := by
  intro k
  induction k with
  | zero => intro st h; simp [treeTo] at h; subst h; simp
  | succ k ih =>
    intro st h
    simp only [treeTo, Option.bind_eq_some_iff] at h
    obtain ⟨st0, h0, h1⟩ := h
    have := ih h0
    unfold treeNext at h1
    split at h1
    · cases h1
    · rename_i t st' hs
      cases h1
      have := treeStep_len hs
      simp; omega

theorem own_keep {w w' : World} {B size n : Nat} {e : TypeId} {v : Value} {xs : List Value} (h : w.ownsRow B e size v n xs) (hb : Below w.heap.size w w') : w'.ownsRow B e size v n xs := by
  have hlt := h.lt
  obtain ⟨h1, h2⟩ := h
  refine ⟨h1, ?_⟩
  rcases h2 with h2 | ⟨g, cap, cur, hv, h3, h4, h5⟩
  · exact .inl h2
  · have hg := (hlt g (by rw [hv]; rfl)).2
    refine .inr ⟨g, cap, cur, hv, h3, ?_, h5⟩
    rw [hb.block g hg]; exact h4
theorem StkP.keep {p : Nat} {w w' : World} {st : List Tree} (h : StkP p w st) (hb : Below w.heap.size w w') : StkP p w' st := by
  have hlt := h.lt
  obtain ⟨v, hc, hf, hown⟩ := h
  exact ⟨v, (hb.cell hlt).trans hc, (hb.frozen hlt).trans hf, own_keep hown hb⟩

/-- what treeOf leaves -/
def TreePost (w : World) (R : Option Tree) (e : Ending) (w' : World) : Prop :=
  Below w.heap.size w w' ∧ match R with
    | none => ∃ v, IsPart v ∧ e = .returned (.tuple #[v, .bool false])
    | some t => e = .returned (.tuple #[partV t, .bool true])

set_option maxHeartbeats 1600000 in
set_option maxRecDepth 100000 in
theorem treeOf_any (B0 : Nat) (a : Option Addr) (n cap : Nat) (l : List Nd) (w : World) (hn : n ≤ 1048576) (hB0 : B0 ≤ w.heap.size) (hsz : ∀ x ∈ l, x.2.2.size ≤ 1048576) (hz : IsNds B0 w a n l) :
    Calls Tryz.prog 236 #[.slice a n cap] w fun e w' => TreePost w (treeM l) e w' := by
  have hlen := hz.1
  have HZ : Hid (IsNds B0 w a n l) := hz
  obtain ⟨R, hR⟩ : ∃ R, treeM l = R := ⟨_, rfl⟩
  have HRR : Hid (treeM l = R) := hR
  rw [hR]
  clear hR hz
  by_cases h24 : 24 < n
  · have hRn : R = none := by rw [← HRR.out]; unfold treeM; rw [if_pos (by omega)]
    subst hRn
    go_enter Tryz.func236, Tryz.ntmps236
    go_wp2_with fail
    go_ret2
    exact ⟨Below.refl _ _, _, .inl rfl, rfl⟩
  have HS0 : Hid (StkP w.heap.size (w.alloc (.cells #[.slice none 0 0] 315)) []) := ⟨.slice none 0 0, by simp, by simp, rfl, .inl ⟨rfl, rfl⟩⟩
  go_enter Tryz.func236, Tryz.ntmps236
  go_wp2_with fail
  go_loopw [14] (fun i wr => ∃ (k : Nat) (st : List Tree), k ≤ n ∧ i = .int .i64 k ∧ Hid (treeTo l k = some st) ∧ Hid (StkP w.heap.size wr st) ∧ Below w.heap.size w wr) (fun i _ => n - (intOf i).toNat)
  case atStart => exact ⟨0, [], Nat.zero_le _, rfl, rfl, HS0.out, (Below.refl _ _).alloc (Nat.le_refl _) _⟩
  case round =>
    obtain ⟨k, st, hk, rfl, HT, HS, hbel⟩ := hrel
    have hst := treeTo_len k HT.out
    have hpw := HS.out.lt
    by_cases hlt : k < n
    · rcases HZ.out.2 with h0 | ⟨b, off, rfl, hb, hc⟩
      · omega
      obtain ⟨⟨xk, xn, xs⟩, hx⟩ : ∃ x, l[k]'(by omega) = x := ⟨_, rfl⟩
      have cc := hc k (by omega)
      rw [hx] at cc
      have HX : Hid (treeTo l (k + 1) = treeNext (xk, xn, xs) st) := by
        show treeTo l (k + 1) = _
        simp only [treeTo, HT.out, Option.bind_some]
        rw [List.getD_eq_getElem?_getD, List.getElem?_eq_getElem (by omega), hx]; rfl
      have hxs : xs.size ≤ 1048576 := by
        have := hsz (l[k]'(by omega)) (List.getElem_mem _)
        rw [hx] at this; exact this
      have c0 := (hbel.cell (p := ⟨b, off + k * 3, none⟩) (by simp; omega)).trans cc.1
      have c1 := (hbel.cell (p := ⟨b, off + k * 3 + 1, none⟩) (by simp; omega)).trans cc.2.1
      have c2 := (hbel.cell (p := ⟨b, off + k * 3 + 1 + 1, none⟩) (by simp; omega)).trans cc.2.2
      have hbw : b < wr.heap.size := by have := hbel.size; omega
      have HP1 : Hid (Calls Tryz.prog 255 #[.agg #[.int .i64 xk, .int .i64 xn, .string xs], .pointer (some ⟨w.heap.size, 0, none⟩)] (wr.alloc (.cells #[.int .i64 xk, .int .i64 xn, .string xs] 121)) fun e w' => PartPost w.heap.size (wr.alloc (.cells #[.int .i64 xk, .int .i64 xn, .string xs] 121)) (treeStep (xk, xn, xs) st) e w') := partOf_any w.heap.size xk xn xs st _ (HS.out.alloc _) (by omega) hxs
      have HB0 : Hid (Below w.heap.size w (wr.alloc (.cells #[.int .i64 xk, .int .i64 xn, .string xs] 121))) := hbel.alloc hbel.size _
      clear hc cc hx
      go_wp2_with fail
      refine HP1.out.mono ?_
      rintro e w2 ⟨hb2, hp2⟩
      have HB2 : Hid (Below w.heap.size w w2) := HB0.out.trans hb2
      clear HP1 HB0 hb2 c0 c1 c2
      cases hts : treeStep (xk, xn, xs) st with
      | none =>
        rw [hts] at hp2
        obtain ⟨v, hv, rfl⟩ := hp2
        have hRn : R = none := by
          rw [← HRR.out]; unfold treeM
          rw [if_neg (by omega), hlen, treeTo_none (n := n) (k := k + 1) (by omega) (by rw [HX.out]; unfold treeNext; rw [hts])]
        subst hRn
        clear hts
        rcases hv with rfl | ⟨tv, xv, rfl⟩
        · go_wp2_with fail
          go_ret2
          exact ⟨HB2.out, _, .inl rfl, rfl⟩
        · go_wp2_with fail
          go_ret2
          exact ⟨HB2.out, _, .inl rfl, rfl⟩
      | some q =>
        obtain ⟨t, st'⟩ := q
        rw [hts] at hp2
        obtain ⟨rfl, hs2⟩ := hp2
        have HT2 : Hid (treeTo l (k + 1) = some (t :: st')) := by
          show treeTo l (k + 1) = _
          rw [HX.out]; unfold treeNext; rw [hts]
        have hl2 := treeStep_len hts
        obtain ⟨tv, xv, hpv⟩ := partV_form t
        have HPU : Hid (Calls Tryz.prog 256 #[.pointer (some ⟨w.heap.size, 0, none⟩), .iface tv xv] w2 fun e w' => e = .returned (.tuple #[]) ∧ StkP w.heap.size w' (t :: st') ∧ Below w.heap.size w2 w') := by
          rw [← hpv]; exact pushP_any _ t st' w2 hs2 (by omega)
        rw [hpv]
        clear hts hpv hs2
        go_wp2_with (go_at_call 256; refine HPU.out.mono ?_; rintro e w3 ⟨rfl, hs3, hb3⟩; have HS3 : Hid (StkP w.heap.size w3 (t :: st')) := hs3; have HB3 : Hid (Below w.heap.size w w3) := HB2.out.trans hb3; clear hs3 hb3)
        go_roundw
        case rel => exact ⟨k + 1, t :: st', by omega, by go_num, HT2, HS3, HB3.out⟩
        case measure => simp [intOf]; omega
    · have : k = n := by omega
      subst this
      obtain ⟨v, hvc, hvf, hown⟩ := HS.out
      obtain ⟨a0, cap0, rfl⟩ : ∃ a0 cap0, v = .slice a0 st.length cap0 := by
        rcases hown.2 with ⟨h, h'⟩ | ⟨g, cap, cur, h, _⟩
        · exact ⟨none, 0, by rw [h, h']⟩
        · exact ⟨_, cap, h⟩
      clear hown hvf
      have HRT : Hid (R = match some st with | some [t] => some t | _ => none) := by
        show R = _
        rw [← HRR.out]; unfold treeM; rw [if_neg (by omega), hlen, HT.out]
      rcases st with _ | ⟨t, _ | ⟨t2, r⟩⟩
      · have hR : R = none := HRT.out
        clear HRT
        subst hR
        simp only [List.length_nil] at hvc
        go_wp2_with fail
        go_ret2
        exact ⟨hbel, _, .inl rfl, rfl⟩
      · have hR : R = some t := HRT.out
        clear HRT
        subst hR
        simp only [List.length_cons, List.length_nil] at hvc
        obtain ⟨tv, xv, hpv⟩ := partV_form t
        have HPV : Hid (partV t = .iface tv xv) := hpv
        have HP : Hid (Calls Tryz.prog 257 #[.pointer (some ⟨w.heap.size, 0, none⟩)] wr fun e w' => e = .returned (.tuple #[.iface tv xv, .bool true]) ∧ StkP w.heap.size w' [] ∧ Below w.heap.size wr w' ∧ w'.heap.size = wr.heap.size ∧ ∀ b o, b ≠ w.heap.size → w'.cell? ⟨b, o, none⟩ = wr.cell? ⟨b, o, none⟩) := by
          rw [← hpv]; exact popP_any _ t [] _ HS.out (by simp)
        clear hpv
        go_wp2_with (go_at_call 257; refine HP.out.mono ?_; rintro e w1 ⟨rfl, hs1, hb1, hz1, hc1⟩; have HB1 : Hid (Below w.heap.size w w1) := hbel.trans hb1; clear hs1 hb1 hz1 hc1)
        go_ret2
        exact ⟨HB1.out, by show _ = _; rw [HPV.out]; rfl⟩
      · have hR : R = none := HRT.out
        clear HRT
        subst hR
        obtain ⟨N, hN⟩ : ∃ N, (t :: t2 :: r).length = N := ⟨_, rfl⟩
        have hN2 : 2 ≤ N := by simp at hN; omega
        rw [hN] at hvc hst
        clear hN
        have e1 : ((N : Int) != 1) = true := by simp; omega
        go_wp2_with fail
        go_ret2
        exact ⟨hbel, _, .inl rfl, rfl⟩
end Go.Proofs.YtchemhjcknkbgaaGreatDoor

/- What the program takes for a sum is what the model takes for one: trees against texts. Plain: no program. -/
namespace Go.Proofs.YtchemhjcknkbgaaGreatDoor
open Go Go.RowKit Go.PlainAid
set_option linter.unusedSimpArgs false
set_option linter.unusedVariables false

theorem decF_digits (f : Nat) : ∀ n : Nat, n < 10 ^ (f + 1) → decF f n = ⟨(Lib.decDigits n).toArray⟩ := by
  induction f with
  | zero =>
    intro n h
    have h' : n < 10 := by simpa using h
    rw [Lib.decDigits_one h']
    unfold decF dig
    have e : (48 + (n : Int)).toNat = 48 + n := by omega
    rw [e]
  | succ f ih =>
    intro n h
    unfold decF
    by_cases h10 : n < 10
    · rw [if_pos (by omega), Lib.decDigits_one h10]
      unfold dig
      have e : (48 + (n : Int)).toNat = 48 + n := by omega
      rw [e]
    · rw [if_neg (by omega)]
      have e1 : ((n : Int) / 10) = ((n / 10 : Nat) : Int) := by omega
      have e2 : ((n : Int) % 10) = ((n % 10 : Nat) : Int) := by omega
      rw [e1, e2, ih (n / 10) (by rw [Nat.pow_succ] at h; omega)]
      have e3 : Lib.decDigits n = Lib.decDigits (n / 10) ++ [UInt8.ofNat (48 + n % 10)] := by rw [Lib.decDigits, dif_neg h10]
      rw [e3]
      unfold dig
      have e : (48 + ((n % 10 : Nat) : Int)).toNat = 48 + n % 10 := by omega
      rw [e]
      apply ByteArray.ext
      rw [ByteArray.data_append]
      simp
theorem decF_itoa {n : Int} (h0 : 0 ≤ n) (h1 : n ≤ 999999) : decF 5 n = ⟨(Lib.itoa n).toArray⟩ := by
  obtain ⟨k, rfl⟩ : ∃ k : Nat, n = k := ⟨n.toNat, by omega⟩
  rw [decF_digits 5 k (by simp; omega)]
  unfold Lib.itoa
  rw [if_neg (by omega)]
  simp

theorem isEmpty_noName : noName.toList.isEmpty = true := by rw [Lib.toList_data]; rfl
/-- what a node says beside its kind is what its kind has -/
def ndOk (x : Nd) : Prop :=
  (x.1 = 1 → (0 ≤ x.2.1 ∧ x.2.1 ≤ 999999) ∧ x.2.2.toList.isEmpty = true) ∧ (x.1 = 2 → x.2.1 = 0) ∧ (x.1 ≠ 1 → x.1 ≠ 2 → x.2.1 = 0 ∧ x.2.2.toList.isEmpty = true)
theorem ndOk_sgn (k : Int) : ndOk (sgn k) := ⟨fun h => ⟨⟨Int.le_refl 0, (by decide : (0 : Int) ≤ 999999)⟩, isEmpty_noName⟩, fun _ => rfl, fun _ _ => ⟨rfl, isEmpty_noName⟩⟩

/-- a part as the model holds it -/
def tx (t : Tree) : ByteArray × Int := (textT t, tightT t)
theorem bound_par (t : Tree) (least : Int) : boundM (textT t) (tightT t) least = parT t (textT t) least := rfl
theorem aheadSg_sgI {k : Int} (h : k = 3 ∨ k = 4) : aheadSg k = sgI k.toNat := by
  rcases h with rfl | rfl <;> rfl
theorem show_tree {x : Nd} {st : List Tree} (hx : ndOk x) : showStep x (st.map tx) = (treeNext x st).map (List.map tx) := by
  obtain ⟨k, n, y⟩ := x
  obtain ⟨o1, o2, o3⟩ := hx
  simp only at o1 o2 o3
  unfold showStep treeNext treeStep
  simp only
  by_cases h1 : k = 1
  · rw [if_pos h1, if_pos h1, if_pos (o1 h1)]
    have := decF_itoa (o1 h1).1.1 (o1 h1).1.2
    simp [tx, textT, tightT, this]
  rw [if_neg h1, if_neg h1]
  by_cases h2 : k = 2
  · rw [if_pos h2, if_pos h2]
    by_cases hn : nmB y = true
    · rw [if_pos ⟨hn, o2 h2⟩, if_pos hn]
      simp [tx, textT, tightT]
    · rw [if_neg (fun h => hn h.1), if_neg hn]
      rfl
  rw [if_neg h2, if_neg h2]
  by_cases h3 : k = 3 ∨ k = 4
  · rw [if_pos h3, if_pos h3, if_pos (o3 h1 h2)]
    cases st with
    | nil => rfl
    | cons t r =>
      show some ((aheadSg k ++ boundM (textT t) (tightT t) 6, (6 : Int)) :: r.map tx) = some ((sgI k.toNat ++ parT t (textT t) 6, (6 : Int)) :: r.map tx)
      rw [bound_par, aheadSg_sgI h3]
  rw [if_neg h3, if_neg h3]
  by_cases h5 : 5 ≤ k ∧ k ≤ 13
  · rw [if_pos h5, if_pos h5, if_pos (o3 h1 h2)]
    match st with
    | [] => rfl
    | [t] => rfl
    | r :: t :: q => rfl
  rw [if_neg h5, if_neg h5]
  rfl
theorem show_ok {x : Nd} {stk stk' : TL} (h : showStep x stk = some stk') : ndOk x := by
  obtain ⟨k, n, y⟩ := x
  unfold showStep at h
  simp only at h
  refine ⟨fun h1 => ?_, fun h2 => ?_, fun h1 h2 => ?_⟩
  · rw [if_pos h1] at h
    split at h
    · assumption
    · cases h
  · have h2' : k = 2 := h2
    rw [if_neg (by omega), if_pos h2'] at h
    split at h
    · rename_i hh; exact hh.2
    · cases h
  · rw [if_neg h1, if_neg h2] at h
    split at h
    · split at h
      · assumption
      · cases h
    · split at h
      · split at h
        · assumption
        · cases h
      · cases h
theorem showTo_tree {l : List Nd} : ∀ k, k ≤ l.length → (∀ j, j < k → ndOk (l.getD j (0, 0, noName))) → showTo l k = (treeTo l k).map (List.map tx) := by
  intro k
  induction k with
  | zero => intro _ _; rfl
  | succ k ih =>
    intro hk ho
    simp only [showTo, treeTo]
    rw [ih (by omega) (fun j hj => ho j (by omega))]
    cases h : treeTo l k with
    | none => rfl
    | some st => simp only [Option.map_some, Option.bind_some]; exact show_tree (ho k (by omega))
theorem showTo_ok {l : List Nd} : ∀ k stk, showTo l k = some stk → ∀ j, j < k → ndOk (l.getD j (0, 0, noName)) := by
  intro k
  induction k with
  | zero => intro _ _ j hj; omega
  | succ k ih =>
    intro stk h j hj
    simp only [showTo, Option.bind_eq_some_iff] at h
    obtain ⟨st, h1, h2⟩ := h
    by_cases e : j = k
    · subst e; exact show_ok h2
    · exact ih st h1 j (by omega)
theorem getD_all {l : List Nd} {p : Nd → Prop} (h : ∀ x ∈ l, p x) : ∀ j, j < l.length → p (l.getD j (0, 0, noName)) := by
  intro j hj
  rw [List.getD_eq_getElem?_getD, List.getElem?_eq_getElem hj]
  exact h _ (List.getElem_mem hj)

/-! ### what is read has nodes of the right form -/
def RecOk (rec : Int → Nat → Nat → PR) : Prop := ∀ lev a d l a', rec lev a d = some (l, a') → ∀ x ∈ l, ndOk x
theorem ok_prim {s : ByteArray} {rec : Int → Nat → Nat → PR} (hr : RecOk rec) {a d : Nat} {l : List Nd} {a' : Nat} (h : primP rec s a d = some (l, a')) : ∀ x ∈ l, ndOk x := by
  unfold primP at h
  split at h
  · split at h
    · cases h
    · split at h
      · cases h
      · rename_i l' b he
        split at h
        · cases h; exact hr _ _ _ _ _ he
        · cases h
  · split at h
    · split at h
      · cases h
      · rename_i hn
        cases h
        intro x hx
        simp at hx
        subst hx
        refine ⟨fun _ => ⟨⟨by simpa using hn, ?_⟩, isEmpty_noName⟩, fun h => by simp at h, fun h => absurd rfl h⟩
        generalize s.extract (skipTo s a) (wordTo s (skipTo s a)) = y at *
        simp only
        unfold numOf at hn ⊢
        split
        · rename_i ho
          unfold numOk at ho
          simp only [Bool.and_eq_true, decide_eq_true_eq] at ho
          have := (numTo_le ho.1 ho.2.2.1).2
          omega
        · omega
    · split at h
      · cases h
        intro x hx
        simp at hx
        subst hx
        exact ⟨fun h => by simp at h, fun _ => rfl, fun _ h => absurd rfl h⟩
      · cases h
theorem ok_unary {s : ByteArray} {rec : Int → Nat → Nat → PR} (hr : RecOk rec) {a d : Nat} {l : List Nd} {a' : Nat} (h : unaryP rec s a d = some (l, a')) : ∀ x ∈ l, ndOk x := by
  unfold unaryP at h
  split at h
  · cases h
  · rename_i l' b he
    cases h
    intro x hx
    rcases List.mem_append.1 hx with hx | hx
    · exact ok_prim hr he x hx
    · obtain ⟨k, _, rfl⟩ := List.mem_map.1 hx
      exact ndOk_sgn k
theorem ok_loop {s : ByteArray} {rec : Int → Nat → Nat → PR} (hr : RecOk rec) (level : Int) (d n : Nat) : ∀ {l : List Nd} {a : Nat} {l' : List Nd} {a' : Nat}, (∀ x ∈ l, ndOk x) → loopP rec s level d n l a = some (l', a') → ∀ x ∈ l', ndOk x := by
  induction n with
  | zero => intro l a l' a' ho h; cases h; exact ho
  | succ n ih =>
    intro l a l' a' ho h
    unfold loopP at h
    split at h
    · cases h; exact ho
    · split at h
      · cases h
      · rename_i r b he
        refine ih ?_ h
        intro x hx
        rcases List.mem_append.1 hx with hx | hx
        · rcases List.mem_append.1 hx with hx | hx
          · exact ho x hx
          · exact hr _ _ _ _ _ he x hx
        · simp at hx
          subst hx
          exact ndOk_sgn _
theorem ok_sum (s : ByteArray) (f : Nat) : RecOk (sumP s f) := by
  induction f with
  | zero => intro lev a d l a' h; cases h; simp
  | succ f ih =>
    intro lev a d l a' h
    unfold sumP at h
    split at h
    · exact ok_unary ih h
    · split at h
      · cases h
      · rename_i l0 b he
        exact ok_loop ih _ _ _ (ih _ _ _ _ _ he) h
theorem getM_ok {s : ByteArray} {l : List Nd} (h : getM s = some l) : ∀ x ∈ l, ndOk x := by
  rw [getM_free] at h
  split at h
  · cases h
  · split at h
    · cases h
    · rename_i l' a he
      split at h
      · cases h
      · split at h
        · cases h
        · cases h; exact ok_sum s _ _ _ _ _ _ he

/-- the sum that nodes are, as the program decides it -/
def sumM (l : List Nd) : Option Tree := match treeM l with | none => none | some t => if getM (textT t) = some l then some t else none
theorem treeM_show {l : List Nd} (h24 : ¬ 24 < l.length) (ho : ∀ j, j < l.length → ndOk (l.getD j (0, 0, noName))) : showM l = (treeM l).map textT := by
  unfold showM treeM
  rw [if_neg h24, showTo_tree l.length (Nat.le_refl _) ho]
  cases treeTo l l.length with
  | none => rfl
  | some st =>
    match st with
    | [] => rfl
    | [t] => rfl
    | a :: b :: r => rfl
theorem putM_sumM (l : List Nd) : putM l = match sumM l with | none => noName | some t => textT t := by
  unfold putM sumM
  by_cases h24 : 24 < l.length
  · rw [if_pos h24]
    unfold treeM
    rw [if_pos h24]
  rw [if_neg h24]
  by_cases ho : ∀ j, j < l.length → ndOk (l.getD j (0, 0, noName))
  · rw [treeM_show h24 ho]
    cases treeM l with
    | none => rfl
    | some t =>
      simp only [Option.map_some]
      split <;> rfl
  · have hs : showM l = none := by
      unfold showM
      cases he : showTo l l.length with
      | none => rfl
      | some stk => exact absurd (showTo_ok _ _ he) ho
    rw [hs]
    simp only
    cases treeM l with
    | none => rfl
    | some t =>
      simp only
      rw [if_neg (fun h => ho (getD_all (getM_ok h)))]

/-! ### what stands is well made -/
theorem tree_wf {l : List Nd} (hn : ∀ x ∈ l, -9223372036854775808 ≤ x.2.1 ∧ x.2.1 ≤ 9223372036854775807) : ∀ k, k ≤ l.length → ∀ {st : List Tree}, treeTo l k = some st → (∀ t ∈ st, Wf t) ∧ (st.map (fun t => t.nodes.length)).sum ≤ k := by
  intro k
  induction k with
  | zero => intro _ st h; simp [treeTo] at h; subst h; simp
  | succ k ih =>
    intro hk st h
    simp only [treeTo, Option.bind_eq_some_iff] at h
    obtain ⟨st0, h0, h1⟩ := h
    obtain ⟨hw, hsum⟩ := ih (by omega) h0
    have hx := getD_all hn k (by omega)
    generalize l.getD k (0, 0, noName) = x at *
    obtain ⟨kd, n, y⟩ := x
    unfold treeNext treeStep at h1
    simp only at h1 hx
    by_cases e1 : kd = 1
    · rw [if_pos e1] at h1
      cases h1
      refine ⟨fun t ht => ?_, ?_⟩
      · rcases List.mem_cons.1 ht with rfl | ht
        · exact hx
        · exact hw t ht
      · simp [Tree.nodes]; omega
    rw [if_neg e1] at h1
    by_cases e2 : kd = 2
    · rw [if_pos e2] at h1
      by_cases hm : nmB y = true
      · rw [if_pos hm] at h1
        cases h1
        refine ⟨fun t ht => ?_, ?_⟩
        · rcases List.mem_cons.1 ht with rfl | ht
          · show y.size ≤ 6
            unfold nmB at hm; simp at hm; omega
          · exact hw t ht
        · simp [Tree.nodes]; omega
      · rw [if_neg hm] at h1; cases h1
    rw [if_neg e2] at h1
    by_cases e3 : kd = 3 ∨ kd = 4
    · rw [if_pos e3] at h1
      match st0, h1, hw, hsum with
      | [], h1, _, _ => cases h1
      | t0 :: r, h1, hw, hsum =>
        cases h1
        refine ⟨fun t ht => ?_, ?_⟩
        · rcases List.mem_cons.1 ht with rfl | ht
          · exact ⟨e3, hw t0 (by simp)⟩
          · exact hw t (by simp [ht])
        · simp [Tree.nodes] at hsum ⊢; omega
    rw [if_neg e3] at h1
    by_cases e5 : 5 ≤ kd ∧ kd ≤ 13
    · rw [if_pos e5] at h1
      match st0, h1, hw, hsum with
      | [], h1, _, _ => cases h1
      | [_], h1, _, _ => cases h1
      | r0 :: l0 :: q, h1, hw, hsum =>
        cases h1
        refine ⟨fun t ht => ?_, ?_⟩
        · rcases List.mem_cons.1 ht with rfl | ht
          · exact ⟨e5, hw l0 (by simp), hw r0 (by simp)⟩
          · exact hw t (by simp [ht])
        · simp [Tree.nodes] at hsum ⊢; omega
    rw [if_neg e5] at h1
    cases h1
theorem treeM_wf {l : List Nd} {t : Tree} (hn : ∀ x ∈ l, -9223372036854775808 ≤ x.2.1 ∧ x.2.1 ≤ 9223372036854775807) (h : treeM l = some t) : Wf t ∧ t.nodes.length ≤ 24 := by
  unfold treeM at h
  split at h
  · cases h
  · split at h
    · rename_i h24 t' he
      cases h
      obtain ⟨h1, h2⟩ := tree_wf hn _ (Nat.le_refl _) he
      simp at h2
      exact ⟨h1 t (by simp), by omega⟩
    · cases h
end Go.Proofs.YtchemhjcknkbgaaGreatDoor

/- What a sum comes to: by its parts, and by its nodes one after the other. Plain: no program. -/
namespace Go.Proofs.YtchemhjcknkbgaaGreatDoor
open Go Go.RowKit Go.PlainAid
set_option linter.unusedSimpArgs false
set_option linter.unusedVariables false

/-- what a name comes to -/
def ofM (names : List ByteArray) (vals : List Int) (x : ByteArray) : Int := if findM names x < 0 ∨ (vals.length : Int) ≤ findM names x then 0 else wr32 (vals.getD (findM names x).toNat 0)
theorem ofM_in (names : List ByteArray) (vals : List Int) (x : ByteArray) : In32 (ofM names vals x) := by
  unfold ofM
  split
  · unfold In32; omega
  · exact in32_wr _
def valT (f : ByteArray → Int) : Tree → Int
  | .num n => wr32 n
  | .name x => f x
  | .ahead k t => one k (valT f t)
  | .pair k l r => two k (valT f l) (valT f r)
theorem valT_in {f : ByteArray → Int} (hf : ∀ x, In32 (f x)) : ∀ t, In32 (valT f t)
  | .num n => in32_wr _
  | .name x => hf x
  | .ahead k t => in32_one _ _
  | .pair k l r => in32_two (valT_in hf l)
def runNd (f : ByteArray → Int) (x : Nd) (st : List Int) : List Int :=
  if x.1 = 1 then x.2.1 :: st else if x.1 = 2 then f x.2.2 :: st
  else if x.1 = 3 ∨ x.1 = 4 then one x.1 (st.headD 0) :: st.tail else two x.1 (st.tail.headD 0) (st.headD 0) :: st.tail.tail
/-- what stands behind the first k nodes, the top first -/
def runNds (f : ByteArray → Int) (l : List Nd) : Nat → List Int
  | 0 => []
  | k + 1 => runNd f (l.getD k (0, 0, noName)) (runNds f l k)
/-- what a sum comes to; 0 of what is none -/
def valM (f : ByteArray → Int) (l : List Nd) : Int := match sumM l with | none => 0 | some t => valT f t

theorem run_tree {f : ByteArray → Int} {l : List Nd} (ho : ∀ j, j < l.length → ndOk (l.getD j (0, 0, noName))) : ∀ k, k ≤ l.length → ∀ {st : List Tree}, treeTo l k = some st → runNds f l k = st.map (valT f) := by
  intro k
  induction k with
  | zero => intro _ st h; simp [treeTo] at h; subst h; rfl
  | succ k ih =>
    intro hk st h
    simp only [treeTo, Option.bind_eq_some_iff] at h
    obtain ⟨st0, h0, h1⟩ := h
    have ih1 := ih (by omega) h0
    have hx := ho k (by omega)
    simp only [runNds]
    rw [ih1]
    generalize l.getD k (0, 0, noName) = x at *
    obtain ⟨kd, n, y⟩ := x
    obtain ⟨o1, o2, o3⟩ := hx
    unfold treeNext treeStep at h1
    unfold runNd
    simp only at h1 o1 o2 o3 ⊢
    by_cases e1 : kd = 1
    · rw [if_pos e1] at h1 ⊢
      cases h1
      have := o1 e1
      simp [valT, wr32_in (show In32 n from ⟨by omega, by omega⟩)]
    rw [if_neg e1] at h1 ⊢
    by_cases e2 : kd = 2
    · rw [if_pos e2] at h1 ⊢
      by_cases hm : nmB y = true
      · rw [if_pos hm] at h1
        cases h1
        simp [valT]
      · rw [if_neg hm] at h1; cases h1
    rw [if_neg e2] at h1 ⊢
    by_cases e3 : kd = 3 ∨ kd = 4
    · rw [if_pos e3] at h1 ⊢
      match st0, h1 with
      | [], h1 => cases h1
      | t0 :: r, h1 =>
        cases h1
        simp [valT]
    rw [if_neg e3] at h1 ⊢
    by_cases e5 : 5 ≤ kd ∧ kd ≤ 13
    · rw [if_pos e5] at h1
      match st0, h1 with
      | [], h1 => cases h1
      | [_], h1 => cases h1
      | r0 :: l0 :: q, h1 =>
        cases h1
        simp [valT]
    rw [if_neg e5] at h1
    cases h1
theorem sumM_some {l : List Nd} {t : Tree} (h : sumM l = some t) : l.length ≤ 24 ∧ treeTo l l.length = some [t] ∧ getM (textT t) = some l ∧ ∀ j, j < l.length → ndOk (l.getD j (0, 0, noName)) := by
  unfold sumM at h
  split at h
  · cases h
  · rename_i t' he
    split at h
    · rename_i hg
      cases h
      unfold treeM at he
      split at he
      · cases he
      · rename_i h24
        split at he
        · rename_i t2 h2
          cases he
          exact ⟨by omega, h2, hg, getD_all (getM_ok hg)⟩
        · cases he
    · cases h
theorem runNds_sum {f : ByteArray → Int} {l : List Nd} {t : Tree} (h : sumM l = some t) : runNds f l l.length = [valT f t] := by
  obtain ⟨_, h1, _, h3⟩ := sumM_some h
  rw [run_tree h3 _ (Nat.le_refl _) h1]; rfl
theorem treeTo_some {l : List Nd} {n k : Nat} {st : List Tree} (h : treeTo l n = some st) (hk : k ≤ n) : ∃ s, treeTo l k = some s := by
  cases e : treeTo l k with
  | none => rw [treeTo_none hk e] at h; cases h
  | some s => exact ⟨s, rfl⟩
/-- what a node finds -/
theorem node_finds {f : ByteArray → Int} {l : List Nd} {t : Tree} (hs : sumM l = some t) {k : Nat} (hk : k < l.length) {x : Nd} (hx : l.getD k (0, 0, noName) = x) :
    (x.1 = 1 ∧ 0 ≤ x.2.1 ∧ x.2.1 ≤ 999999) ∨ x.1 = 2 ∨ ((x.1 = 3 ∨ x.1 = 4) ∧ ∃ z r, runNds f l k = z :: r) ∨ ((5 ≤ x.1 ∧ x.1 ≤ 13) ∧ ∃ z z' r, runNds f l k = z :: z' :: r) := by
  obtain ⟨_, h1, _, h3⟩ := sumM_some hs
  obtain ⟨st, h4⟩ := treeTo_some h1 (show k ≤ l.length by omega)
  obtain ⟨st', h5⟩ := treeTo_some h1 (show k + 1 ≤ l.length by omega)
  rw [run_tree h3 k (by omega) h4]
  have ho := h3 k hk
  simp only [treeTo, h4, Option.bind_some] at h5
  rw [hx] at h5 ho
  unfold treeNext treeStep at h5
  by_cases e1 : x.1 = 1
  · have := (ho.1 e1).1
    exact .inl ⟨e1, this.1, this.2⟩
  rw [if_neg e1] at h5
  by_cases e2 : x.1 = 2
  · exact .inr (.inl e2)
  rw [if_neg e2] at h5
  by_cases e3 : x.1 = 3 ∨ x.1 = 4
  · rw [if_pos e3] at h5
    match st, h5 with
    | [], h5 => cases h5
    | t0 :: r, h5 => exact .inr (.inr (.inl ⟨e3, _, _, rfl⟩))
  rw [if_neg e3] at h5
  by_cases e5 : 5 ≤ x.1 ∧ x.1 ≤ 13
  · rw [if_pos e5] at h5
    match st, h5 with
    | [], h5 => cases h5
    | [_], h5 => cases h5
    | r0 :: l0 :: q, h5 => exact .inr (.inr (.inr ⟨e5, _, _, _, rfl⟩))
  rw [if_neg e5] at h5
  cases h5
theorem run_in {f : ByteArray → Int} (hf : ∀ x, In32 (f x)) {l : List Nd} {t : Tree} (hs : sumM l = some t) {k : Nat} (hk : k ≤ l.length) : (∀ z ∈ runNds f l k, In32 z) ∧ (runNds f l k).length ≤ k := by
  obtain ⟨_, h1, _, h3⟩ := sumM_some hs
  obtain ⟨st, h4⟩ := treeTo_some h1 hk
  rw [run_tree h3 k hk h4]
  refine ⟨fun z hz => ?_, ?_⟩
  · obtain ⟨t, _, rfl⟩ := List.mem_map.1 hz
    exact valT_in hf t
  · have := treeTo_len k h4
    simpa using this
theorem getM_no : getM noName = none := by
  rw [getM_free]
  have e : sumP noName (7 * noName.size + 7) 1 0 0 = none := by kernel_rfl
  rw [e, if_neg (by decide)]
/-- a sum is written by at least one byte -/
theorem putM_empty (l : List Nd) : (putM l).toList.isEmpty = true ↔ sumM l = none := by
  rw [putM_sumM]
  cases h : sumM l with
  | none => simp [isEmpty_noName]
  | some t =>
    obtain ⟨_, _, hg, _⟩ := sumM_some h
    simp only [reduceCtorEq, iff_false]
    intro he
    have e : textT t = noName := by
      rw [Lib.toList_data] at he
      apply ByteArray.ext
      rw [← Array.toList_inj]
      simpa [noName] using he
    rw [e, getM_no] at hg
    cases hg
end Go.Proofs.YtchemhjcknkbgaaGreatDoor
