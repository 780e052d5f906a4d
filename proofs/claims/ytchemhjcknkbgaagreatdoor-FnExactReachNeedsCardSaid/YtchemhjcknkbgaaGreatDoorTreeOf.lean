/- partOf, treeOf: the part that nodes are. -/
import Derived.Test.YtchemhjcknkbgaaGreatDoorBunY24
namespace Go.Proofs.YtchemhjcknkbgaaGreatDoor
open Go Go.RowKit Go.PlainAid
set_option linter.unusedSimpArgs false
set_option linter.unusedVariables false

theorem popP_none (p : Nat) (w : World) (hs : StkP p w []) : Calls Tryz.prog 257 #[.pointer (some ⟨p, 0, none⟩)] w fun e w' => e = .returned (.tuple #[.nilIface, .bool false]) ∧ w' = w := by
  obtain ⟨v, hc, hf, hown⟩ := hs
  obtain ⟨a, cap, rfl⟩ : ∃ a cap, v = .slice a 0 cap := by
    rcases hown.2 with ⟨h, _⟩ | ⟨g, cap, cur, h, _⟩
    · exact ⟨none, 0, h⟩
    · exact ⟨_, cap, h⟩
  clear hown hf
  go_enter Tryz.func257, Tryz.ntmps257
  go_wp2
  go_ret2
  exact ⟨rfl, rfl⟩
theorem StkP.alloc {p : Nat} {w : World} {st : List Tree} (h : StkP p w st) (o : Obj) : StkP p (w.alloc o) st := by
  have hlt := h.lt
  obtain ⟨v, hc, hf, hown⟩ := h
  exact ⟨v, (World.cell?_alloc_past _ _ _ hlt).trans hc, (World.frozen?_alloc_past _ _ _ hlt).trans hf, hown.alloc _⟩

/-- one node more: the part that it is, and what stays of those that stood -/
def treeStep (x : Nd) (st : List Tree) : Option (Tree × List Tree) :=
  if x.1 = 1 then some (.num x.2.1, st)
  else if x.1 = 2 then (if nmB x.2.2 = true then some (.name x.2.2, st) else none)
  else if x.1 = 3 ∨ x.1 = 4 then (match st with | t :: r => some (.ahead x.1 t, r) | [] => none)
  else if 5 ≤ x.1 ∧ x.1 ≤ 13 then (match st with | r :: l :: s => some (.pair x.1 l r, s) | _ => none)
  else none

/-- what partOf leaves -/
def PartPost (p : Nat) (w : World) (R : Option (Tree × List Tree)) (e : Ending) (w' : World) : Prop :=
  Below p w w' ∧ match R with
    | none => ∃ v, IsPart v ∧ e = .returned (.tuple #[v, .bool false])
    | some (t, st') => e = .returned (.tuple #[partV t, .bool true]) ∧ StkP p w' st'

theorem isAhead_is {k : Int} {b : Bool} (h : decide (k = 3 ∨ k = 4) = b) (w : World) : Calls Tryz.prog 242 #[.int .i64 k] w fun e w' => e = .returned (.bool b) ∧ w' = w := by
  subst h
  by_cases h : k = 3
  · subst h
    go_enter Tryz.func242, Tryz.ntmps242
    go_wp2
    go_ret
    exact ⟨rfl, rfl⟩
  · have h' : (k == 3) = false := by simp [h]
    go_enter Tryz.func242, Tryz.ntmps242
    go_wp2
    go_ret
    exact ⟨ret_bool (by simp [h]; by_cases h4 : k = 4 <;> simp [h4]), rfl⟩
theorem isPair_is {k : Int} {b : Bool} (h : decide (5 ≤ k ∧ k ≤ 13) = b) (w : World) : Calls Tryz.prog 243 #[.int .i64 k] w fun e w' => e = .returned (.bool b) ∧ w' = w := by
  subst h
  by_cases h : 5 ≤ k
  · go_enter Tryz.func243, Tryz.ntmps243
    go_wp2
    go_ret
    exact ⟨ret_bool (by simp [h]), rfl⟩
  · go_enter Tryz.func243, Tryz.ntmps243
    go_wp2
    go_ret
    exact ⟨ret_bool (by simp; omega), rfl⟩

set_option maxHeartbeats 1600000 in
set_option maxRecDepth 100000 in
theorem partOf_any (p : Nat) (k n : Int) (y : ByteArray) (st : List Tree) (w : World) (hs : StkP p w st) (hl : st.length ≤ 1000) (hy : y.size ≤ 1048576) :
    Calls Tryz.prog 255 #[.agg #[.int .i64 k, .int .i64 n, .string y], .pointer (some ⟨p, 0, none⟩)] w fun e w' => PartPost p w (treeStep (k, n, y) st) e w' := by
  have hlt := hs.lt
  have HS : Hid (StkP p w st) := hs
  have B0 : Hid (Below p w (w.alloc (.cells #[.int .i64 k, .int .i64 n, .string y] 121))) := (Below.refl _ _).alloc (by omega) _
  have HS0 : Hid (StkP p (w.alloc (.cells #[.int .i64 k, .int .i64 n, .string y] 121)) st) := hs.alloc _
  unfold treeStep
  simp only
  clear hs
  by_cases h1 : k = 1
  · rw [if_pos h1]
    subst h1
    go_enter Tryz.func255, Tryz.ntmps255
    go_wp2_with fail
    go_ret2
    exact ⟨B0.out, rfl, HS0.out⟩
  rw [if_neg h1]
  have e1 : (k == 1) = false := by simp [h1]
  by_cases h2 : k = 2
  · rw [if_pos h2]
    subst h2
    have HN : Hid (∀ w, Calls Tryz.prog 121 #[.string y] w fun e w' => e = .returned (.bool (nmB y)) ∧ w' = w) := fun w => implNameOk_any y w (by unfold maxLen; omega)
    cases hn : nmB y
    · rw [hn] at HN
      rw [if_neg (by decide)]
      go_enter Tryz.func255, Tryz.ntmps255
      go_wp2_with fail
      go_quiet ((go_at_call 121; exact Calls.quiet_of_same (HN.out _)))
      go_wp2_with fail
      go_ret2
      exact ⟨below_drewN B0.out _, _, partV_is (.name y), rfl⟩
    · rw [hn] at HN
      rw [if_pos rfl]
      go_enter Tryz.func255, Tryz.ntmps255
      go_wp2_with fail
      go_quiet ((go_at_call 121; exact Calls.quiet_of_same (HN.out _)))
      go_wp2_with fail
      go_ret2
      exact ⟨below_drewN B0.out _, rfl, HS0.out⟩
  rw [if_neg h2]
  have e2 : (k == 2) = false := by simp [h2]
  by_cases h3 : k = 3 ∨ k = 4
  · rw [if_pos h3]
    have d3 : decide (k = 3 ∨ k = 4) = true := decide_eq_true h3
    match st, HS0, hl with
    | [], HS0, _ =>
      simp only
      go_enter Tryz.func255, Tryz.ntmps255
      go_wp2_with (first | (go_at_call 242; refine (isAhead_is d3 _).mono ?_; rintro e w' ⟨rfl, hw'⟩; rw [hw']; clear hw' w') | (go_at_call 257; refine (popP_none p _ HS0.out).mono ?_; rintro e w' ⟨rfl, hw'⟩; rw [hw']; clear hw' w'))
      go_ret2
      exact ⟨B0.out, _, .inr ⟨_, _, rfl⟩, rfl⟩
    | t :: r, HS0, hl =>
      simp only
      simp only [List.length_cons] at hl
      obtain ⟨tv, xv, hpv⟩ := partV_form t
      have HPV : Hid (partV t = .iface tv xv) := hpv
      have HP : Hid (Calls Tryz.prog 257 #[.pointer (some ⟨p, 0, none⟩)] (w.alloc (.cells #[.int .i64 k, .int .i64 n, .string y] 121)) fun e w' => e = .returned (.tuple #[.iface tv xv, .bool true]) ∧ StkP p w' r ∧ Below p (w.alloc (.cells #[.int .i64 k, .int .i64 n, .string y] 121)) w' ∧ w'.heap.size = (w.alloc (.cells #[.int .i64 k, .int .i64 n, .string y] 121)).heap.size ∧ ∀ b o, b ≠ p → w'.cell? ⟨b, o, none⟩ = (w.alloc (.cells #[.int .i64 k, .int .i64 n, .string y] 121)).cell? ⟨b, o, none⟩) := by
        rw [← hpv]; exact popP_any p t r _ HS0.out (by omega)
      clear hpv
      go_enter Tryz.func255, Tryz.ntmps255
      go_wp2_with (first | (go_at_call 242; refine (isAhead_is d3 _).mono ?_; rintro e w' ⟨rfl, hw'⟩; rw [hw']; clear hw' w') | (go_at_call 257; refine HP.out.mono ?_; rintro e w1 ⟨rfl, hs1, hb1, hz1, hc1⟩; have HS1 : Hid (StkP p w1 r) := hs1; have HB1 : Hid (Below p w w1) := B0.out.trans hb1; have c0 := hc1 w.heap.size 0 (by omega); simp at c0; clear hs1 hb1 hz1 hc1))
      go_ret2
      exact ⟨HB1.out, by rw [partV, HPV.out]; rfl, HS1.out⟩
  rw [if_neg h3]
  have d3 : decide (k = 3 ∨ k = 4) = false := decide_eq_false h3
  by_cases h5 : 5 ≤ k ∧ k ≤ 13
  · rw [if_pos h5]
    have d5 : decide (5 ≤ k ∧ k ≤ 13) = true := decide_eq_true h5
    match st, HS0, hl with
    | [], HS0, _ =>
      simp only
      go_enter Tryz.func255, Tryz.ntmps255
      go_wp2_with (first | (go_at_call 242; refine (isAhead_is d3 _).mono ?_; rintro e w' ⟨rfl, hw'⟩; rw [hw']; clear hw' w') | (go_at_call 243; refine (isPair_is d5 _).mono ?_; rintro e w' ⟨rfl, hw'⟩; rw [hw']; clear hw' w') | (go_at_call 257; refine (popP_none p _ HS0.out).mono ?_; rintro e w' ⟨rfl, hw'⟩; rw [hw']; clear hw' w'))
      go_ret2
      exact ⟨B0.out, _, .inr ⟨_, _, rfl⟩, rfl⟩
    | [t], HS0, hl =>
      simp only
      obtain ⟨tv, xv, hpv⟩ := partV_form t
      have HP : Hid (Calls Tryz.prog 257 #[.pointer (some ⟨p, 0, none⟩)] (w.alloc (.cells #[.int .i64 k, .int .i64 n, .string y] 121)) fun e w' => e = .returned (.tuple #[.iface tv xv, .bool true]) ∧ StkP p w' [] ∧ Below p (w.alloc (.cells #[.int .i64 k, .int .i64 n, .string y] 121)) w' ∧ w'.heap.size = (w.alloc (.cells #[.int .i64 k, .int .i64 n, .string y] 121)).heap.size ∧ ∀ b o, b ≠ p → w'.cell? ⟨b, o, none⟩ = (w.alloc (.cells #[.int .i64 k, .int .i64 n, .string y] 121)).cell? ⟨b, o, none⟩) := by
        rw [← hpv]; exact popP_any p t [] _ HS0.out (by simp)
      clear hpv
      go_enter Tryz.func255, Tryz.ntmps255
      go_wp2_with (first | (go_at_call 242; refine (isAhead_is d3 _).mono ?_; rintro e w' ⟨rfl, hw'⟩; rw [hw']; clear hw' w') | (go_at_call 243; refine (isPair_is d5 _).mono ?_; rintro e w' ⟨rfl, hw'⟩; rw [hw']; clear hw' w'))
      refine HP.out.mono ?_
      rintro e w1 ⟨rfl, hs1, hb1, hz1, hc1⟩
      have HS1 : Hid (StkP p w1 []) := hs1
      have HB1 : Hid (Below p w w1) := B0.out.trans hb1
      have c0 := hc1 w.heap.size 0 (by omega)
      simp at c0
      clear hs1 hb1 hz1 hc1
      go_wp2_with (go_at_call 257; refine (popP_none p _ HS1.out).mono ?_; rintro e w' ⟨rfl, hw'⟩; rw [hw']; clear hw' w')
      go_ret2
      exact ⟨HB1.out, _, .inr ⟨_, _, rfl⟩, rfl⟩
    | r :: l :: q, HS0, hl =>
      simp only
      simp only [List.length_cons] at hl
      obtain ⟨tv, xv, hpv⟩ := partV_form r
      have HPV : Hid (partV r = .iface tv xv) := hpv
      obtain ⟨ul, xl, hpl⟩ := partV_form l
      have HPL : Hid (partV l = .iface ul xl) := hpl
      have HP : Hid (Calls Tryz.prog 257 #[.pointer (some ⟨p, 0, none⟩)] (w.alloc (.cells #[.int .i64 k, .int .i64 n, .string y] 121)) fun e w' => e = .returned (.tuple #[.iface tv xv, .bool true]) ∧ StkP p w' (l :: q) ∧ Below p (w.alloc (.cells #[.int .i64 k, .int .i64 n, .string y] 121)) w' ∧ w'.heap.size = (w.alloc (.cells #[.int .i64 k, .int .i64 n, .string y] 121)).heap.size ∧ ∀ b o, b ≠ p → w'.cell? ⟨b, o, none⟩ = (w.alloc (.cells #[.int .i64 k, .int .i64 n, .string y] 121)).cell? ⟨b, o, none⟩) := by
        rw [← hpv]; exact popP_any p r (l :: q) _ HS0.out (by simp; omega)
      have HQ : Hid (∀ w1, StkP p w1 (l :: q) → Calls Tryz.prog 257 #[.pointer (some ⟨p, 0, none⟩)] w1 fun e w' => e = .returned (.tuple #[.iface ul xl, .bool true]) ∧ StkP p w' q ∧ Below p w1 w' ∧ w'.heap.size = w1.heap.size ∧ ∀ b o, b ≠ p → w'.cell? ⟨b, o, none⟩ = w1.cell? ⟨b, o, none⟩) := fun w1 h => by
        rw [← hpl]; exact popP_any p l q w1 h (by omega)
      clear hpv hpl
      go_enter Tryz.func255, Tryz.ntmps255
      go_wp2_with (first | (go_at_call 242; refine (isAhead_is d3 _).mono ?_; rintro e w' ⟨rfl, hw'⟩; rw [hw']; clear hw' w') | (go_at_call 243; refine (isPair_is d5 _).mono ?_; rintro e w' ⟨rfl, hw'⟩; rw [hw']; clear hw' w'))
      refine HP.out.mono ?_
      rintro e w1 ⟨rfl, hs1, hb1, hz1, hc1⟩
      have HS1 : Hid (StkP p w1 (l :: q)) := hs1
      have HB1 : Hid (Below p w w1) := B0.out.trans hb1
      have c0 := hc1 w.heap.size 0 (by omega)
      simp at c0
      clear hs1 hb1 hz1 hc1
      go_wp2_with fail
      refine (HQ.out w1 HS1.out).mono ?_
      rintro e w2 ⟨rfl, hs2, hb2, hz2, hc2⟩
      have HS2 : Hid (StkP p w2 q) := hs2
      have HB2 : Hid (Below p w w2) := HB1.out.trans hb2
      have c2 := (hc2 w.heap.size 0 (by omega)).trans c0
      clear hs2 hb2 hz2 hc2 c0
      go_wp2_with fail
      go_ret2
      exact ⟨HB2.out, by rw [partV, HPV.out, HPL.out]; rfl, HS2.out⟩
  rw [if_neg h5]
  have d5 : decide (5 ≤ k ∧ k ≤ 13) = false := decide_eq_false h5
  go_enter Tryz.func255, Tryz.ntmps255
  go_wp2_with (first | (go_at_call 242; refine (isAhead_is d3 _).mono ?_; rintro e w' ⟨rfl, hw'⟩; rw [hw']; clear hw' w') | (go_at_call 243; refine (isPair_is d5 _).mono ?_; rintro e w' ⟨rfl, hw'⟩; rw [hw']; clear hw' w'))
  go_ret2
  exact ⟨B0.out, _, .inl rfl, rfl⟩
end Go.Proofs.YtchemhjcknkbgaaGreatDoor
