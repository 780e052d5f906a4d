/- slices.IndexFunc and slices.ContainsFunc over lists of a block, at the function literals of the program. -/
import Derived.Test.YtchemhjcknkbgaaGreatDoorBunY39
import Derived.Test.YtchemhjcknkbgaaGreatDoorBunY4
namespace Go.Proofs.YtchemhjcknkbgaaGreatDoor
open Go Go.RowKit Go.PlainAid
set_option linter.unusedSimpArgs false
set_option linter.unusedVariables false

/-- the place of the first that fits; -1, if none does -/
def idxM {α : Type} (p : α → Bool) : List α → Int
  | [] => -1
  | y :: r => if p y then 0 else if idxM p r < 0 then -1 else idxM p r + 1
theorem idxM_at {α : Type} {p : α → Bool} : ∀ {l : List α} {k : Nat}, (hk : k < l.length) → p l[k] = true → (∀ j, (h : j < k) → p l[j] = false) → idxM p l = k
  | y :: r, 0, _, h, _ => by simp at h; simp [idxM, h]
  | y :: r, k + 1, hk, h, hb => by
    have h0 : p y = false := hb 0 (by omega)
    have ih := idxM_at (l := r) (k := k) (by simpa using hk) (by simpa using h) (fun j hj => by simpa using hb (j + 1) (by omega))
    simp only [idxM, h0, ih]
    simp
    omega
theorem idxM_none {α : Type} {p : α → Bool} : ∀ {l : List α}, (∀ j, (h : j < l.length) → p l[j] = false) → idxM p l = -1
  | [], _ => rfl
  | y :: r, hb => by
    have h0 : p y = false := hb 0 (by simp)
    have ih := idxM_none (l := r) (p := p) (fun j hj => hb (j + 1) (by simp only [List.length_cons]; omega))
    simp only [idxM, h0, ih]
    rfl
theorem idxM_any {α : Type} (p : α → Bool) (l : List α) : decide (0 ≤ idxM p l) = l.any p := by
  induction l with
  | nil => rfl
  | cons y r ih =>
    have key : (0 ≤ idxM p (y :: r)) ↔ (p y = true ∨ 0 ≤ idxM p r) := by
      show (0 ≤ if p y = true then (0 : Int) else if idxM p r < 0 then -1 else idxM p r + 1) ↔ _
      by_cases h : p y = true
      · rw [if_pos h]; simp [h]
      · rw [if_neg h]
        by_cases h2 : idxM p r < 0
        · rw [if_pos h2]; simp [h]; omega
        · rw [if_neg h2]; simp [h]; omega
    rw [decide_eq_decide.2 key, List.any_cons, ← ih, Bool.decide_or]
    simp
theorem idxM_find {α : Type} (f : α → ByteArray) (x : ByteArray) (l : List α) : idxM (fun y => decide (f y = x)) l = findM (l.map f) x := by
  induction l with
  | nil => rfl
  | cons y r ih => simp only [idxM, List.map_cons, findM, ih, decide_eq_true_eq]

set_option maxHeartbeats 1600000 in
set_option maxRecDepth 100000 in
theorem idx_areFinePorts1 (B : Nat) (a : Option Addr) (n c : Nat) (l : List Pt) (p : Pt → Bool)  (w : World) (hB : B ≤ w.heap.size) (hn : n ≤ 1048576) (hz : IsArr 2 QPt B w a n l)
    (hcall : ∀ (W : World) (x : Pt) (a' : Option Addr) (n' c' : Nat), Below w.heap.size w W → x ∈ l → n' ≤ c' → c' ≤ maxLen → IsStrs B W a' n' x.vals → Calls Tryz.prog 168 #[.agg #[.string x.name, .slice a' n' c']] W fun e w' => e = .returned (.bool (p x)) ∧ Below W.heap.size W w') :
    Calls Tryz.prog 189 #[.slice a n c, .func (Fn.func 168) #[] #[]] w fun e w' => e = .returned (.int .i64 (idxM p l)) ∧ Below w.heap.size w w' := by
  have hlen := hz.1
  have HZ := hidOf hz
  have HC := hidOf hcall
  clear hz hcall
  obtain ⟨D, hD⟩ : ∃ D, idxM p l = D := ⟨_, rfl⟩
  have HD := hidOf hD
  rw [hD]
  clear hD
  go_enter Tryz.func189, Tryz.ntmps189
  go_wp2
  go_loopw [8] (fun i wr => ∃ k : Nat, k ≤ n ∧ i = .int .i64 k ∧ Hid (∀ j, (h : j < l.length) → j < k → p l[j] = false) ∧ Below w.heap.size w wr) (fun i _ => n - (intOf i).toNat)
  case atStart => exact ⟨0, Nat.zero_le _, rfl, fun j _ h => absurd h (Nat.not_lt_zero _), Below.refl _ _⟩
  case round =>
    obtain ⟨k, hk, rfl, HK, hbel⟩ := hrel
    by_cases hlt : k < n
    · obtain ⟨b, off, cs, rfl, hb, hq, hcell⟩ := IsArr.at (HZ.out.below (QPt.lift (hbel.mono hB)) (hbel.mono hB)) hlt (show k < l.length by omega)
      have hbr : b < wr.heap.size := by have := hbel.size; omega
      have hmem : l[k]'(by omega) ∈ l := List.getElem_mem _
      obtain ⟨x, hx⟩ : ∃ x, l[k]'(by omega) = x := ⟨_, rfl⟩
      have HX := hidOf hx
      rw [hx] at hq hmem
      have HCX := HC.out wr x
      obtain ⟨P, hP⟩ : ∃ P, p x = P := ⟨_, rfl⟩
      rw [hP] at HCX
      have HP : Hid (p (l[k]'(by omega)) = P) := by show _ = _; rw [hx]; exact hP
      clear hP HX hx
      obtain ⟨y0, y1⟩ := x
      obtain ⟨a', n', c', rfl, q1, q2, q3⟩ := hq
      have c0 : wr.cell? ⟨b, off + k * 2, none⟩ = some (.string y0) := hcell 0 _ rfl
      have c1 : wr.cell? ⟨b, off + k * 2 + 1, none⟩ = some (.slice a' n' c') := hcell 1 _ rfl
      have HE := hidOf (HCX a' n' c' hbel hmem q1 q2 q3)
      clear hcell HCX hmem q3
      cases P with
      | false =>
        go_wp2_with fail
        refine HE.out.mono ?_
        rintro e w1 ⟨rfl, hb1⟩
        have HB1 : Hid (Below w.heap.size w w1) := hbel.trans (hb1.mono hbel.size)
        clear hb1
        go_wp2_with fail
        go_roundw
        case rel =>
          refine ⟨k + 1, by omega, by go_num, ?_, HB1.out⟩
          intro j hj hjk
          by_cases e : j = k
          · subst e; exact HP.out
          · exact HK.out j hj (by omega)
        case measure => simp [intOf]; omega
      | true =>
        have hDk : D = k := by rw [← HD.out]; exact idxM_at (by omega) HP.out (fun j hj => HK.out j (by omega) hj)
        go_wp2_with fail
        refine HE.out.mono ?_
        rintro e w1 ⟨rfl, hb1⟩
        have HB1 : Hid (Below w.heap.size w w1) := hbel.trans (hb1.mono hbel.size)
        clear hb1
        go_wp2_with fail
        go_ret
        exact ⟨ret_int hDk.symm, HB1.out⟩
    · have hDn : D = -1 := by rw [← HD.out]; exact idxM_none (fun j hj => HK.out j hj (by omega))
      go_wp2_with fail
      go_ret
      exact ⟨ret_int hDn.symm, hbel⟩

theorem has_areFinePorts1 (B : Nat) (a : Option Addr) (n c : Nat) (l : List Pt) (p : Pt → Bool)  (w : World) (hB : B ≤ w.heap.size) (hn : n ≤ 1048576) (hz : IsArr 2 QPt B w a n l)
    (hcall : ∀ (W : World) (x : Pt) (a' : Option Addr) (n' c' : Nat), Below w.heap.size w W → x ∈ l → n' ≤ c' → c' ≤ maxLen → IsStrs B W a' n' x.vals → Calls Tryz.prog 168 #[.agg #[.string x.name, .slice a' n' c']] W fun e w' => e = .returned (.bool (p x)) ∧ Below W.heap.size W w') :
    Calls Tryz.prog 167 #[.slice a n c, .func (Fn.func 168) #[] #[]] w fun e w' => e = .returned (.bool (l.any p)) ∧ Below w.heap.size w w' := by
  have HI := hidOf (idx_areFinePorts1 B a n c l p  w hB hn hz hcall)
  clear hz hcall
  rw [← idxM_any]
  obtain ⟨D, hD⟩ : ∃ D, idxM p l = D := ⟨_, rfl⟩
  rw [hD] at HI ⊢
  clear hD
  go_enter Tryz.func167, Tryz.ntmps167
  go_wp2_with fail
  refine HI.out.mono ?_
  rintro e w' ⟨rfl, hb⟩
  have HB := hidOf hb
  clear hb
  go_wp2_with fail
  go_ret
  exact ⟨rfl, HB.out⟩

set_option maxHeartbeats 1600000 in
set_option maxRecDepth 100000 in
theorem idx_portAt1 (B : Nat) (a : Option Addr) (n c : Nat) (l : List Pt) (p : Pt → Bool) (g0 : Value) (w : World) (hB : B ≤ w.heap.size) (hn : n ≤ 1048576) (hz : IsArr 2 QPt B w a n l)
    (hcall : ∀ (W : World) (x : Pt) (a' : Option Addr) (n' c' : Nat), Below w.heap.size w W → x ∈ l → n' ≤ c' → c' ≤ maxLen → IsStrs B W a' n' x.vals → Calls Tryz.prog 190 #[.agg #[.string x.name, .slice a' n' c'], g0] W fun e w' => e = .returned (.bool (p x)) ∧ Below W.heap.size W w') :
    Calls Tryz.prog 189 #[.slice a n c, .func (Fn.func 190) #[] #[g0]] w fun e w' => e = .returned (.int .i64 (idxM p l)) ∧ Below w.heap.size w w' := by
  have hlen := hz.1
  have HZ := hidOf hz
  have HC := hidOf hcall
  clear hz hcall
  obtain ⟨D, hD⟩ : ∃ D, idxM p l = D := ⟨_, rfl⟩
  have HD := hidOf hD
  rw [hD]
  clear hD
  go_enter Tryz.func189, Tryz.ntmps189
  go_wp2
  go_loopw [8] (fun i wr => ∃ k : Nat, k ≤ n ∧ i = .int .i64 k ∧ Hid (∀ j, (h : j < l.length) → j < k → p l[j] = false) ∧ Below w.heap.size w wr) (fun i _ => n - (intOf i).toNat)
  case atStart => exact ⟨0, Nat.zero_le _, rfl, fun j _ h => absurd h (Nat.not_lt_zero _), Below.refl _ _⟩
  case round =>
    obtain ⟨k, hk, rfl, HK, hbel⟩ := hrel
    by_cases hlt : k < n
    · obtain ⟨b, off, cs, rfl, hb, hq, hcell⟩ := IsArr.at (HZ.out.below (QPt.lift (hbel.mono hB)) (hbel.mono hB)) hlt (show k < l.length by omega)
      have hbr : b < wr.heap.size := by have := hbel.size; omega
      have hmem : l[k]'(by omega) ∈ l := List.getElem_mem _
      obtain ⟨x, hx⟩ : ∃ x, l[k]'(by omega) = x := ⟨_, rfl⟩
      have HX := hidOf hx
      rw [hx] at hq hmem
      have HCX := HC.out wr x
      obtain ⟨P, hP⟩ : ∃ P, p x = P := ⟨_, rfl⟩
      rw [hP] at HCX
      have HP : Hid (p (l[k]'(by omega)) = P) := by show _ = _; rw [hx]; exact hP
      clear hP HX hx
      obtain ⟨y0, y1⟩ := x
      obtain ⟨a', n', c', rfl, q1, q2, q3⟩ := hq
      have c0 : wr.cell? ⟨b, off + k * 2, none⟩ = some (.string y0) := hcell 0 _ rfl
      have c1 : wr.cell? ⟨b, off + k * 2 + 1, none⟩ = some (.slice a' n' c') := hcell 1 _ rfl
      have HE := hidOf (HCX a' n' c' hbel hmem q1 q2 q3)
      clear hcell HCX hmem q3
      cases P with
      | false =>
        go_wp2_with fail
        refine HE.out.mono ?_
        rintro e w1 ⟨rfl, hb1⟩
        have HB1 : Hid (Below w.heap.size w w1) := hbel.trans (hb1.mono hbel.size)
        clear hb1
        go_wp2_with fail
        go_roundw
        case rel =>
          refine ⟨k + 1, by omega, by go_num, ?_, HB1.out⟩
          intro j hj hjk
          by_cases e : j = k
          · subst e; exact HP.out
          · exact HK.out j hj (by omega)
        case measure => simp [intOf]; omega
      | true =>
        have hDk : D = k := by rw [← HD.out]; exact idxM_at (by omega) HP.out (fun j hj => HK.out j (by omega) hj)
        go_wp2_with fail
        refine HE.out.mono ?_
        rintro e w1 ⟨rfl, hb1⟩
        have HB1 : Hid (Below w.heap.size w w1) := hbel.trans (hb1.mono hbel.size)
        clear hb1
        go_wp2_with fail
        go_ret
        exact ⟨ret_int hDk.symm, HB1.out⟩
    · have hDn : D = -1 := by rw [← HD.out]; exact idxM_none (fun j hj => HK.out j hj (by omega))
      go_wp2_with fail
      go_ret
      exact ⟨ret_int hDn.symm, hbel⟩

set_option maxHeartbeats 1600000 in
set_option maxRecDepth 100000 in
theorem idx_areFineVars1 (B : Nat) (a : Option Addr) (n c : Nat) (l : List Vr) (p : Vr → Bool)  (w : World) (hB : B ≤ w.heap.size) (hn : n ≤ 1048576) (hz : IsArr 2 QVr B w a n l)
    (hcall : ∀ (W : World) (x : Vr) , Below w.heap.size w W → x ∈ l → Calls Tryz.prog 170 #[.agg #[.string x.name, .int .i64 x.num]] W fun e w' => e = .returned (.bool (p x)) ∧ Below W.heap.size W w') :
    Calls Tryz.prog 204 #[.slice a n c, .func (Fn.func 170) #[] #[]] w fun e w' => e = .returned (.int .i64 (idxM p l)) ∧ Below w.heap.size w w' := by
  have hlen := hz.1
  have HZ := hidOf hz
  have HC := hidOf hcall
  clear hz hcall
  obtain ⟨D, hD⟩ : ∃ D, idxM p l = D := ⟨_, rfl⟩
  have HD := hidOf hD
  rw [hD]
  clear hD
  go_enter Tryz.func204, Tryz.ntmps204
  go_wp2
  go_loopw [8] (fun i wr => ∃ k : Nat, k ≤ n ∧ i = .int .i64 k ∧ Hid (∀ j, (h : j < l.length) → j < k → p l[j] = false) ∧ Below w.heap.size w wr) (fun i _ => n - (intOf i).toNat)
  case atStart => exact ⟨0, Nat.zero_le _, rfl, fun j _ h => absurd h (Nat.not_lt_zero _), Below.refl _ _⟩
  case round =>
    obtain ⟨k, hk, rfl, HK, hbel⟩ := hrel
    by_cases hlt : k < n
    · obtain ⟨b, off, cs, rfl, hb, hq, hcell⟩ := IsArr.at (HZ.out.below (QVr.lift (hbel.mono hB)) (hbel.mono hB)) hlt (show k < l.length by omega)
      have hbr : b < wr.heap.size := by have := hbel.size; omega
      have hmem : l[k]'(by omega) ∈ l := List.getElem_mem _
      obtain ⟨x, hx⟩ : ∃ x, l[k]'(by omega) = x := ⟨_, rfl⟩
      have HX := hidOf hx
      rw [hx] at hq hmem
      have HCX := HC.out wr x
      obtain ⟨P, hP⟩ : ∃ P, p x = P := ⟨_, rfl⟩
      rw [hP] at HCX
      have HP : Hid (p (l[k]'(by omega)) = P) := by show _ = _; rw [hx]; exact hP
      clear hP HX hx
      obtain ⟨y0, y1⟩ := x
      unfold QVr at hq
      subst hq
      have c0 : wr.cell? ⟨b, off + k * 2, none⟩ = some (.string y0) := hcell 0 _ rfl
      have c1 : wr.cell? ⟨b, off + k * 2 + 1, none⟩ = some (.int .i64 y1) := hcell 1 _ rfl
      have HE := hidOf (HCX  hbel hmem)
      clear hcell HCX hmem
      cases P with
      | false =>
        go_wp2_with fail
        refine HE.out.mono ?_
        rintro e w1 ⟨rfl, hb1⟩
        have HB1 : Hid (Below w.heap.size w w1) := hbel.trans (hb1.mono hbel.size)
        clear hb1
        go_wp2_with fail
        go_roundw
        case rel =>
          refine ⟨k + 1, by omega, by go_num, ?_, HB1.out⟩
          intro j hj hjk
          by_cases e : j = k
          · subst e; exact HP.out
          · exact HK.out j hj (by omega)
        case measure => simp [intOf]; omega
      | true =>
        have hDk : D = k := by rw [← HD.out]; exact idxM_at (by omega) HP.out (fun j hj => HK.out j (by omega) hj)
        go_wp2_with fail
        refine HE.out.mono ?_
        rintro e w1 ⟨rfl, hb1⟩
        have HB1 : Hid (Below w.heap.size w w1) := hbel.trans (hb1.mono hbel.size)
        clear hb1
        go_wp2_with fail
        go_ret
        exact ⟨ret_int hDk.symm, HB1.out⟩
    · have hDn : D = -1 := by rw [← HD.out]; exact idxM_none (fun j hj => HK.out j hj (by omega))
      go_wp2_with fail
      go_ret
      exact ⟨ret_int hDn.symm, hbel⟩

theorem has_areFineVars1 (B : Nat) (a : Option Addr) (n c : Nat) (l : List Vr) (p : Vr → Bool)  (w : World) (hB : B ≤ w.heap.size) (hn : n ≤ 1048576) (hz : IsArr 2 QVr B w a n l)
    (hcall : ∀ (W : World) (x : Vr) , Below w.heap.size w W → x ∈ l → Calls Tryz.prog 170 #[.agg #[.string x.name, .int .i64 x.num]] W fun e w' => e = .returned (.bool (p x)) ∧ Below W.heap.size W w') :
    Calls Tryz.prog 169 #[.slice a n c, .func (Fn.func 170) #[] #[]] w fun e w' => e = .returned (.bool (l.any p)) ∧ Below w.heap.size w w' := by
  have HI := hidOf (idx_areFineVars1 B a n c l p  w hB hn hz hcall)
  clear hz hcall
  rw [← idxM_any]
  obtain ⟨D, hD⟩ : ∃ D, idxM p l = D := ⟨_, rfl⟩
  rw [hD] at HI ⊢
  clear hD
  go_enter Tryz.func169, Tryz.ntmps169
  go_wp2_with fail
  refine HI.out.mono ?_
  rintro e w' ⟨rfl, hb⟩
  have HB := hidOf hb
  clear hb
  go_wp2_with fail
  go_ret
  exact ⟨rfl, HB.out⟩

set_option maxHeartbeats 1600000 in
set_option maxRecDepth 100000 in
theorem idx_stateAt1 (B : Nat) (a : Option Addr) (n c : Nat) (l : List St) (p : St → Bool) (g0 : Value) (w : World) (hB : B ≤ w.heap.size) (hn : n ≤ 1048576) (hz : IsArr 3 QSt B w a n l)
    (hcall : ∀ (W : World) (x : St) (a' : Option Addr) (n' c' : Nat) (a'' : Option Addr) (n'' c'' : Nat), Below w.heap.size w W → x ∈ l → Calls Tryz.prog 180 #[.agg #[.string x.name, .slice a' n' c', .slice a'' n'' c''], g0] W fun e w' => e = .returned (.bool (p x)) ∧ Below W.heap.size W w') :
    Calls Tryz.prog 179 #[.slice a n c, .func (Fn.func 180) #[] #[g0]] w fun e w' => e = .returned (.int .i64 (idxM p l)) ∧ Below w.heap.size w w' := by
  have hlen := hz.1
  have HZ := hidOf hz
  have HC := hidOf hcall
  clear hz hcall
  obtain ⟨D, hD⟩ : ∃ D, idxM p l = D := ⟨_, rfl⟩
  have HD := hidOf hD
  rw [hD]
  clear hD
  go_enter Tryz.func179, Tryz.ntmps179
  go_wp2
  go_loopw [8] (fun i wr => ∃ k : Nat, k ≤ n ∧ i = .int .i64 k ∧ Hid (∀ j, (h : j < l.length) → j < k → p l[j] = false) ∧ Below w.heap.size w wr) (fun i _ => n - (intOf i).toNat)
  case atStart => exact ⟨0, Nat.zero_le _, rfl, fun j _ h => absurd h (Nat.not_lt_zero _), Below.refl _ _⟩
  case round =>
    obtain ⟨k, hk, rfl, HK, hbel⟩ := hrel
    by_cases hlt : k < n
    · obtain ⟨b, off, cs, rfl, hb, hq, hcell⟩ := IsArr.at (HZ.out.below (QSt.lift (hbel.mono hB)) (hbel.mono hB)) hlt (show k < l.length by omega)
      have hbr : b < wr.heap.size := by have := hbel.size; omega
      have hmem : l[k]'(by omega) ∈ l := List.getElem_mem _
      obtain ⟨x, hx⟩ : ∃ x, l[k]'(by omega) = x := ⟨_, rfl⟩
      have HX := hidOf hx
      rw [hx] at hq hmem
      have HCX := HC.out wr x
      obtain ⟨P, hP⟩ : ∃ P, p x = P := ⟨_, rfl⟩
      rw [hP] at HCX
      have HP : Hid (p (l[k]'(by omega)) = P) := by show _ = _; rw [hx]; exact hP
      clear hP HX hx
      obtain ⟨y0, y1, y2⟩ := x
      obtain ⟨a', n', c', a'', n'', c'', rfl, q1, q2, q3, q4, q5, q6⟩ := hq
      have c0 : wr.cell? ⟨b, off + k * 3, none⟩ = some (.string y0) := hcell 0 _ rfl
      have c1 : wr.cell? ⟨b, off + k * 3 + 1, none⟩ = some (.slice a' n' c') := hcell 1 _ rfl
      have c2 : wr.cell? ⟨b, off + k * 3 + 1 + 1, none⟩ = some (.slice a'' n'' c'') := hcell 2 _ rfl
      have HE := hidOf (HCX a' n' c' a'' n'' c'' hbel hmem)
      clear hcell HCX hmem q5 q6
      cases P with
      | false =>
        go_wp2_with fail
        refine HE.out.mono ?_
        rintro e w1 ⟨rfl, hb1⟩
        have HB1 : Hid (Below w.heap.size w w1) := hbel.trans (hb1.mono hbel.size)
        clear hb1
        go_wp2_with fail
        go_roundw
        case rel =>
          refine ⟨k + 1, by omega, by go_num, ?_, HB1.out⟩
          intro j hj hjk
          by_cases e : j = k
          · subst e; exact HP.out
          · exact HK.out j hj (by omega)
        case measure => simp [intOf]; omega
      | true =>
        have hDk : D = k := by rw [← HD.out]; exact idxM_at (by omega) HP.out (fun j hj => HK.out j (by omega) hj)
        go_wp2_with fail
        refine HE.out.mono ?_
        rintro e w1 ⟨rfl, hb1⟩
        have HB1 : Hid (Below w.heap.size w w1) := hbel.trans (hb1.mono hbel.size)
        clear hb1
        go_wp2_with fail
        go_ret
        exact ⟨ret_int hDk.symm, HB1.out⟩
    · have hDn : D = -1 := by rw [← HD.out]; exact idxM_none (fun j hj => HK.out j hj (by omega))
      go_wp2_with fail
      go_ret
      exact ⟨ret_int hDn.symm, hbel⟩

set_option maxHeartbeats 1600000 in
set_option maxRecDepth 100000 in
theorem idx_hasRing1 (B : Nat) (a : Option Addr) (n c : Nat) (l : List Mo) (p : Mo → Bool) (g0 : Value) (g1 : Value) (w : World) (hB : B ≤ w.heap.size) (hn : n ≤ 1048576) (hz : IsArr 3 QMo B w a n l)
    (hcall : ∀ (W : World) (x : Mo) , Below w.heap.size w W → x ∈ l → Calls Tryz.prog 130 #[.agg #[.string x.event, .string x.cond, .string x.to], g0, g1] W fun e w' => e = .returned (.bool (p x)) ∧ Below W.heap.size W w') :
    Calls Tryz.prog 178 #[.slice a n c, .func (Fn.func 130) #[] #[g0, g1]] w fun e w' => e = .returned (.int .i64 (idxM p l)) ∧ Below w.heap.size w w' := by
  have hlen := hz.1
  have HZ := hidOf hz
  have HC := hidOf hcall
  clear hz hcall
  obtain ⟨D, hD⟩ : ∃ D, idxM p l = D := ⟨_, rfl⟩
  have HD := hidOf hD
  rw [hD]
  clear hD
  go_enter Tryz.func178, Tryz.ntmps178
  go_wp2
  go_loopw [8] (fun i wr => ∃ k : Nat, k ≤ n ∧ i = .int .i64 k ∧ Hid (∀ j, (h : j < l.length) → j < k → p l[j] = false) ∧ Below w.heap.size w wr) (fun i _ => n - (intOf i).toNat)
  case atStart => exact ⟨0, Nat.zero_le _, rfl, fun j _ h => absurd h (Nat.not_lt_zero _), Below.refl _ _⟩
  case round =>
    obtain ⟨k, hk, rfl, HK, hbel⟩ := hrel
    by_cases hlt : k < n
    · obtain ⟨b, off, cs, rfl, hb, hq, hcell⟩ := IsArr.at (HZ.out.below (QMo.lift (hbel.mono hB)) (hbel.mono hB)) hlt (show k < l.length by omega)
      have hbr : b < wr.heap.size := by have := hbel.size; omega
      have hmem : l[k]'(by omega) ∈ l := List.getElem_mem _
      obtain ⟨x, hx⟩ : ∃ x, l[k]'(by omega) = x := ⟨_, rfl⟩
      have HX := hidOf hx
      rw [hx] at hq hmem
      have HCX := HC.out wr x
      obtain ⟨P, hP⟩ : ∃ P, p x = P := ⟨_, rfl⟩
      rw [hP] at HCX
      have HP : Hid (p (l[k]'(by omega)) = P) := by show _ = _; rw [hx]; exact hP
      clear hP HX hx
      obtain ⟨y0, y1, y2⟩ := x
      unfold QMo at hq
      subst hq
      have c0 : wr.cell? ⟨b, off + k * 3, none⟩ = some (.string y0) := hcell 0 _ rfl
      have c1 : wr.cell? ⟨b, off + k * 3 + 1, none⟩ = some (.string y1) := hcell 1 _ rfl
      have c2 : wr.cell? ⟨b, off + k * 3 + 1 + 1, none⟩ = some (.string y2) := hcell 2 _ rfl
      have HE := hidOf (HCX  hbel hmem)
      clear hcell HCX hmem
      cases P with
      | false =>
        go_wp2_with fail
        refine HE.out.mono ?_
        rintro e w1 ⟨rfl, hb1⟩
        have HB1 : Hid (Below w.heap.size w w1) := hbel.trans (hb1.mono hbel.size)
        clear hb1
        go_wp2_with fail
        go_roundw
        case rel =>
          refine ⟨k + 1, by omega, by go_num, ?_, HB1.out⟩
          intro j hj hjk
          by_cases e : j = k
          · subst e; exact HP.out
          · exact HK.out j hj (by omega)
        case measure => simp [intOf]; omega
      | true =>
        have hDk : D = k := by rw [← HD.out]; exact idxM_at (by omega) HP.out (fun j hj => HK.out j (by omega) hj)
        go_wp2_with fail
        refine HE.out.mono ?_
        rintro e w1 ⟨rfl, hb1⟩
        have HB1 : Hid (Below w.heap.size w w1) := hbel.trans (hb1.mono hbel.size)
        clear hb1
        go_wp2_with fail
        go_ret
        exact ⟨ret_int hDk.symm, HB1.out⟩
    · have hDn : D = -1 := by rw [← HD.out]; exact idxM_none (fun j hj => HK.out j hj (by omega))
      go_wp2_with fail
      go_ret
      exact ⟨ret_int hDn.symm, hbel⟩

theorem has_hasRing1 (B : Nat) (a : Option Addr) (n c : Nat) (l : List Mo) (p : Mo → Bool) (g0 : Value) (g1 : Value) (w : World) (hB : B ≤ w.heap.size) (hn : n ≤ 1048576) (hz : IsArr 3 QMo B w a n l)
    (hcall : ∀ (W : World) (x : Mo) , Below w.heap.size w W → x ∈ l → Calls Tryz.prog 130 #[.agg #[.string x.event, .string x.cond, .string x.to], g0, g1] W fun e w' => e = .returned (.bool (p x)) ∧ Below W.heap.size W w') :
    Calls Tryz.prog 129 #[.slice a n c, .func (Fn.func 130) #[] #[g0, g1]] w fun e w' => e = .returned (.bool (l.any p)) ∧ Below w.heap.size w w' := by
  have HI := hidOf (idx_hasRing1 B a n c l p g0 g1 w hB hn hz hcall)
  clear hz hcall
  rw [← idxM_any]
  obtain ⟨D, hD⟩ : ∃ D, idxM p l = D := ⟨_, rfl⟩
  rw [hD] at HI ⊢
  clear hD
  go_enter Tryz.func129, Tryz.ntmps129
  go_wp2_with fail
  refine HI.out.mono ?_
  rintro e w' ⟨rfl, hb⟩
  have HB := hidOf hb
  clear hb
  go_wp2_with fail
  go_ret
  exact ⟨rfl, HB.out⟩
end Go.Proofs.YtchemhjcknkbgaaGreatDoor
