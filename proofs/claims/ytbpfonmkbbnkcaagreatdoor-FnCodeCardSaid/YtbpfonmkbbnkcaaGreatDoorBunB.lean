/- Lists of nodes in memory; the model's l1Same. -/
import Derived.Test.YtbpfonmkbbnkcaaGreatDoorBunA
import Derived.WalkKit
import Derived.Orders
import Derived.Deep.AppendLies
namespace Go.Proofs.YtbpfonmkbbnkcaaGreatDoor
open Go.RowKit Go.PlainAid
set_option linter.unusedSimpArgs false
set_option linter.unusedVariables false

/-- the slice (a, n), below block B, reads in w as these nodes -/
def IsNds (B : Nat) (w : World) (a : Option Addr) (n : Nat) (l : List Nd) : Prop :=
  l.length = n ∧ (n = 0 ∨ ∃ b off, a = some ⟨b, off, none⟩ ∧ b < B ∧ ∀ i, (h : i < l.length) → w.cell? ⟨b, off + i * 3, none⟩ = some (.int .i64 l[i].1) ∧ w.cell? ⟨b, off + i * 3 + 1, none⟩ = some (.int .i64 l[i].2.1) ∧ w.cell? ⟨b, off + i * 3 + 1 + 1, none⟩ = some (.string l[i].2.2))
theorem IsNds.below {B : Nat} {w w' : World} {a : Option Addr} {n : Nat} {l : List Nd} (h : IsNds B w a n l) (hb : Below B w w') : IsNds B w' a n l := by
  obtain ⟨h1, h2⟩ := h
  refine ⟨h1, ?_⟩
  rcases h2 with h2 | ⟨b, off, rfl, hlt, hc⟩
  · exact .inl h2
  · exact .inr ⟨b, off, rfl, hlt, fun i hi => ⟨(hb.cell hlt).trans (hc i hi).1, (hb.cell hlt).trans (hc i hi).2.1, (hb.cell hlt).trans (hc i hi).2.2⟩⟩
theorem IsNds.mono {B B' : Nat} {w : World} {a : Option Addr} {n : Nat} {l : List Nd} (h : IsNds B w a n l) (hb : B ≤ B') : IsNds B' w a n l := by
  obtain ⟨h1, h2⟩ := h
  refine ⟨h1, ?_⟩
  rcases h2 with h2 | ⟨b, off, rfl, hlt, hc⟩
  · exact .inl h2
  · exact .inr ⟨b, off, rfl, by omega, hc⟩
theorem ndCells_at (l : List Nd) : ∀ i, (h : i < l.length) → (ndCells l)[i * 3]? = some (.int .i64 l[i].1) ∧ (ndCells l)[i * 3 + 1]? = some (.int .i64 l[i].2.1) ∧ (ndCells l)[i * 3 + 1 + 1]? = some (.string l[i].2.2) := by
  induction l with
  | nil => intro i h; simp at h
  | cons x r ih =>
    intro i h
    have e : ndCells (x :: r) = .int .i64 x.1 :: .int .i64 x.2.1 :: .string x.2.2 :: ndCells r := by simp [ndCells]
    rw [e]
    cases i with
    | zero => simp
    | succ i =>
      have := ih i (by simpa using h)
      rw [show (i + 1) * 3 = i * 3 + 1 + 1 + 1 from by omega]
      simpa using this
/-- what a value owns it reads -/
theorem OwnNd.is {B : Nat} {w : World} {v : Value} {l : List Nd} (h : OwnNd B w v l) : ∃ a cap, v = .slice a l.length cap ∧ IsNds w.heap.size w a l.length l := by
  have h0 := h
  obtain ⟨h1, h2⟩ := h
  rcases h2 with ⟨hv, hn⟩ | ⟨g, cap, cur, hv, h3, h4, h5⟩
  · exact ⟨none, 0, by rw [hv, hn], rfl, .inl hn⟩
  · refine ⟨_, cap, hv, rfl, ?_⟩
    subst hv
    have hlt := (World.ownsRow.lt h0 g rfl).2
    refine .inr ⟨g, 0, rfl, hlt, fun i hi => ?_⟩
    obtain ⟨e1, e2, e3⟩ := ndCells_at l i hi
    refine ⟨?_, ?_, ?_⟩
    · rw [Nat.zero_add, World.ownsRow.cellAt h0 (i * 3) (by omega), e1]
    · rw [Nat.zero_add, World.ownsRow.cellAt h0 (i * 3 + 1) (by omega), e2]
    · rw [Nat.zero_add, World.ownsRow.cellAt h0 (i * 3 + 1 + 1) (by omega), e3]

set_option maxHeartbeats 800000 in
set_option maxRecDepth 100000 in
theorem l1Same_any (B : Nat) (a a' : Option Addr) (n n' cap cap' : Nat) (l l' : List Nd) (w : World) (hn : n ≤ 1048576) (hn' : n' ≤ 1048576) (hz : IsNds B w a n l) (hz' : IsNds B w a' n' l') :
    Calls Tryz.prog 71 #[.slice a n cap, .slice a' n' cap'] w fun e w' => e = .returned (.bool (decide (l = l'))) ∧ Below w.heap.size w w' := by
  obtain ⟨hlen, hcells⟩ := hz
  obtain ⟨hlen', hcells'⟩ := hz'
  obtain ⟨D, hD⟩ : ∃ D, decide (l = l') = D := ⟨_, rfl⟩
  have HD : Hid (decide (l = l') = D) := hD
  rw [hD]; clear hD
  by_cases hnn : n = n'
  · subst hnn
    go_enter Tryz.func71, Tryz.ntmps71
    go_wp2_with fail
    go_loopw [5] (fun i wr => ∃ k : Nat, k ≤ n ∧ i = .int .i64 k ∧ Hid (l.take k = l'.take k) ∧ Below w.heap.size w wr) (fun i _ => n - (intOf i).toNat)
    case atStart => exact ⟨0, Nat.zero_le _, rfl, by show _ = _; simp, Below.refl _ _⟩
    case round =>
      obtain ⟨k, hk, rfl, hdone, hbel⟩ := hrel
      by_cases hlt : k < n
      · rcases hcells with h0 | ⟨b, off, rfl, hb, hc⟩
        · omega
        rcases hcells' with h0 | ⟨b', off', rfl, hb', hc'⟩
        · omega
        have hkl : k < l.length := by omega
        have hkl' : k < l'.length := by omega
        obtain ⟨x0, x1, x2, hx⟩ : ∃ x0 x1 x2, l[k] = (x0, x1, x2) := ⟨_, _, _, rfl⟩
        obtain ⟨y0, y1, y2, hy⟩ : ∃ y0 y1 y2, l'[k] = (y0, y1, y2) := ⟨_, _, _, rfl⟩
        have hcx := hc k hkl
        have hcy := hc' k hkl'
        rw [hx] at hcx
        rw [hy] at hcy
        have hbw := World.block_lt_of_cell? w _ hcx.1
        have hbw' := World.block_lt_of_cell? w _ hcy.1
        have p0 := (hbel.cell (p := ⟨b, off + k * 3, none⟩) hbw).trans hcx.1
        have p1 := (hbel.cell (p := ⟨b, off + k * 3 + 1, none⟩) hbw).trans hcx.2.1
        have p2 := (hbel.cell (p := ⟨b, off + k * 3 + 1 + 1, none⟩) hbw).trans hcx.2.2
        have q0 := (hbel.cell (p := ⟨b', off' + k * 3, none⟩) hbw').trans hcy.1
        have q1 := (hbel.cell (p := ⟨b', off' + k * 3 + 1, none⟩) hbw').trans hcy.2.1
        have q2 := (hbel.cell (p := ⟨b', off' + k * 3 + 1 + 1, none⟩) hbw').trans hcy.2.2
        simp only at p0 p1 p2 q0 q1 q2
        have HT : Hid (l.take (k + 1) = l.take k ++ [(x0, x1, x2)] ∧ l'.take (k + 1) = l'.take k ++ [(y0, y1, y2)]) :=
          ⟨by rw [List.take_succ_eq_append_getElem hkl, hx], by rw [List.take_succ_eq_append_getElem hkl', hy]⟩
        clear hc hc' hcx hcy hx hy
        by_cases hxy : x0 = y0 ∧ x1 = y1 ∧ x2 = y2
        · obtain ⟨rfl, rfl, rfl⟩ := hxy
          go_wp2_with fail
          go_quiet (fail)
          go_wp2_with fail
          go_roundw
          case rel => exact ⟨k + 1, by omega, by go_num, by show _ = _; rw [HT.out.1, HT.out.2, hdone.out], drewN hbel _⟩
          case measure => simp [intOf]; omega
        · have HN : Hid (D = false) := by
            show D = false
            rw [← HD.out]; simp; intro h
            have h1 := HT.out.1
            have h2 := HT.out.2
            rw [h] at h1
            rw [h1] at h2
            have h3 := List.append_inj_right' h2 rfl
            simp at h3
            exact hxy h3
          by_cases h0 : x0 = y0
          · subst h0
            by_cases h1 : x1 = y1
            · subst h1
              have h2 : ¬ x2 = y2 := fun e => hxy ⟨rfl, rfl, e⟩
              have e2' : (x2.toList == y2.toList) = false := by
                simp only [beq_eq_false_iff_ne, ne_eq]
                intro e; exact h2 (by rw [Lib.toList_data, Lib.toList_data] at e; exact ByteArray.ext (Array.toList_inj.1 e))
              clear hxy h2
              go_wp2_with fail
              go_quiet (fail)
              go_wp2_with fail
              go_ret
              exact ⟨ret_bool HN.out.symm, drewN hbel _⟩
            · have e1 : (x1 == y1) = false := by simp [h1]
              clear hxy h1
              go_wp2_with fail
              go_quiet (fail)
              go_wp2_with fail
              go_ret
              exact ⟨ret_bool HN.out.symm, drewN hbel _⟩
          · have e0 : (x0 == y0) = false := by simp [h0]
            clear hxy h0
            go_wp2_with fail
            go_quiet (fail)
            go_wp2_with fail
            go_ret
            exact ⟨ret_bool HN.out.symm, drewN hbel _⟩
      · have : k = n := by omega
        subst this
        have HN : Hid (D = true) := by
          show D = true
          rw [← HD.out]
          have := hdone.out
          rw [List.take_of_length_le (by omega), List.take_of_length_le (by omega)] at this
          simp [this]
        go_wp2_with fail
        go_ret
        exact ⟨ret_bool HN.out.symm, hbel⟩
  · have hne : ((n : Int) != n') = true := by simp; omega
    have HN : Hid (D = false) := by
      show D = false
      rw [← HD.out]; simp; intro h; rw [h] at hlen; omega
    go_enter Tryz.func71, Tryz.ntmps71
    go_wp2_with fail
    go_ret
    exact ⟨ret_bool HN.out.symm, Below.refl _ _⟩
end Go.Proofs.YtbpfonmkbbnkcaaGreatDoor

/- The model's l1Bound and l1Dec. -/
namespace Go.Proofs.YtbpfonmkbbnkcaaGreatDoor
open Go.RowKit Go.PlainAid
set_option linter.unusedSimpArgs false
set_option linter.unusedVariables false

theorem ret_str {a b : ByteArray} (h : a = b) : Ending.returned (.string a) = .returned (.string b) := by rw [h]
def boundM (t : ByteArray) (l need : Int) : ByteArray := if l < need then lpar ++ t ++ rpar else t
theorem l1Bound_any (t : ByteArray) (l need : Int) (w : World) (ht : t.size ≤ 1048576) : Calls Tryz.prog 98 #[.string t, .int .i64 l, .int .i64 need] w fun e w' => e = .returned (.string (boundM t l need)) ∧ w' = w := by
  unfold boundM
  by_cases h : l < need
  · rw [if_pos h]
    go_enter Tryz.func98, Tryz.ntmps98
    go_wp2_with fail
    go_ret
    exact ⟨rfl, rfl⟩
  · rw [if_neg h]
    go_enter Tryz.func98, Tryz.ntmps98
    go_wp2_with fail
    go_ret
    exact ⟨rfl, rfl⟩
theorem bound_size (t : ByteArray) (l need : Int) : (boundM t l need).size ≤ t.size + 2 := by
  unfold boundM
  split
  · have e1 : lpar.size = 1 := rfl
    have e2 : rpar.size = 1 := rfl
    rw [ByteArray.size_append, ByteArray.size_append]; omega
  · omega

/-- a figure's byte -/
def dig (n : Int) : ByteArray := ⟨#[UInt8.ofNat (48 + n).toNat]⟩
/-- decimals of a number of at most six figures -/
def decF : Nat → Int → ByteArray
  | 0, n => dig n
  | f + 1, n => if n < 10 then dig n else decF f (n / 10) ++ dig (n % 10)
def dec6 (n : Int) : ByteArray := decF 6 n

theorem decF_size (f : Nat) : ∀ n, (decF f n).size ≤ f + 1 := by
  induction f with
  | zero => intro n; simp [decF, dig, ByteArray.size]
  | succ f ih =>
    intro n
    unfold decF
    split
    · simp [dig, ByteArray.size]
    · have := ih (n / 10)
      have e : (dig (n % 10)).size = 1 := rfl
      rw [ByteArray.size_append, e]; omega

/-- a figure made of a number -/
theorem conv_dig (n : Int) (h0 : 0 ≤ n) (h1 : n < 10) (W : World) (b : Nat) (hc : W.cell? ⟨b, 0, none⟩ = some (.int .u8 (48 + n))) : (convert 22 9 (.slice (some ⟨b, 0, none⟩) 1 1)).run Tryz.prog W = .ok (.string (dig n)) W := by
  refine run_convert_bytes_back (P := Tryz.prog) W 22 9 5 ⟨b, 0, none⟩ 1 [UInt8.ofNat (48 + n).toNat] Tryz.underlying22 Tryz.underlying5 Tryz.underlying9 ?_
  intro j hj
  match j, hj with
  | 0, _ =>
    have e : ((UInt8.ofNat (48 + n).toNat).toNat : Int) = 48 + n := by
      rw [UInt8.toNat_ofNat']; omega
    simp only [List.getElem_cons_zero, e]
    simpa [Addr.add] using hc

theorem bel_after {w w' : World} (h : Below w.drew.heap.size w.drew w') (o : Obj) : Below w.heap.size w (w'.alloc o) := (undrew h).alloc h.size o
theorem bel_before {w w' : World} {o : Obj} (h : Below (w.alloc o).drew.heap.size (w.alloc o).drew w') : Below w.heap.size w w' :=
  ((Below.refl _ w).alloc (Nat.le_refl _) o).trans ((undrew h).mono (by simp))

set_option maxHeartbeats 800000 in
set_option maxRecDepth 100000 in
theorem l1Dec_any (f : Nat) : f ≤ 6 → ∀ (n : Int) (w : World), 0 ≤ n → n < 10 ^ (f + 1) → n ≤ 999999 → Calls Tryz.prog 96 #[.int .i64 n] w fun e w' => e = .returned (.string (decF f n)) ∧ Below w.heap.size w w' := by
  induction f with
  | zero =>
    intro _ n w h0 h1 h2
    have h1 : n < 10 := by simpa using h1
    have hcv := conv_dig n h0 h1
    go_enter Tryz.func96, Tryz.ntmps96
    go_wp2_with fail
    go_ret
    exact ⟨rfl, (Below.refl _ _).alloc (Nat.le_refl _) _⟩
  | succ f ih =>
    intro hf6 n w h0 h1 h2
    by_cases h10 : n < 10
    · have hcv := conv_dig n h0 h10
      have HN : Hid (decF (f + 1) n = dig n) := by
        show decF (f + 1) n = dig n
        rw [decF, if_pos h10]
      clear ih h1
      go_enter Tryz.func96, Tryz.ntmps96
      go_wp2_with fail
      go_ret
      exact ⟨ret_str HN.out.symm, (Below.refl _ _).alloc (Nat.le_refl _) _⟩
    · obtain ⟨q, hq⟩ : ∃ q, n / 10 = q := ⟨_, rfl⟩
      obtain ⟨r, hr⟩ : ∃ r, n % 10 = r := ⟨_, rfl⟩
      have t1 : n.tdiv 10 = q := by rw [Int.tdiv_eq_ediv_of_nonneg h0]; exact hq
      have t2 : n.tmod 10 = r := by rw [Int.tmod_eq_emod_of_nonneg h0]; exact hr
      have hcv := conv_dig r (by omega) (by omega)
      have HN : Hid (decF (f + 1) n = decF f q ++ dig r) := by
        show decF (f + 1) n = _
        rw [decF, if_neg h10, hq, hr]
      have hs := decF_size f q
      have hp : n / 10 < 10 ^ (f + 1) := by
        rw [Int.pow_succ] at h1
        exact Int.ediv_lt_of_lt_mul (by decide) h1
      have HI : Hid (∀ W : World, Calls Tryz.prog 96 #[.int .i64 q] W fun e w' => e = .returned (.string (decF f q)) ∧ Below W.heap.size W w') := fun W => ih (by omega) q W (by omega) (by rw [← hq]; exact hp) (by omega)
      have hz8 : (decF f q).size ≤ 8 := by omega
      have hd1 : (dig r).size = 1 := rfl
      have hz9 : (decF f q).size + (dig r).size ≤ 9223372036854775807 := by omega
      have hm1 : 0 ≤ r := by omega
      have hm2 : r < 10 := by omega
      have hq1 : 0 ≤ q := by omega
      have hq2 : q ≤ 99999 := by omega
      have p1 : IntKind.i64.wrap q = q := IntWalk.i64_in _ ⟨by omega, by omega⟩
      have p2 : IntKind.i64.wrap (48 + r) = 48 + r := IntWalk.i64_in _ ⟨by omega, by omega⟩
      have p3 : IntKind.u8.wrap (48 + r) = 48 + r := IntWalk.u8_in _ ⟨by omega, by omega⟩
      have p4 : IntKind.i64.wrap r = r := IntWalk.i64_in _ ⟨by omega, by omega⟩
      clear ih h1 hp hq hr
      go_enter Tryz.func96, Tryz.ntmps96
      go_wp2_with fail
      go_region_with (go_at_call 96; refine (HI.out _).mono ?_; rintro e w' ⟨rfl, hb⟩; obtain ⟨hc', hf'⟩ := bcell hb)
      all_goals
        go_wp2_with fail
        go_ret
        refine ⟨ret_str HN.out.symm, ?_⟩
        first
          | exact bel_after hb _
          | exact bel_before hb
end Go.Proofs.YtbpfonmkbbnkcaaGreatDoor

/- The model's l1Show as a function, and its two stacks in memory. -/
namespace Go.Proofs.YtbpfonmkbbnkcaaGreatDoor
open Go.RowKit Go.PlainAid
set_option linter.unusedSimpArgs false
set_option linter.unusedVariables false

abbrev TL := List (ByteArray × Int)
def aheadSg (k : Int) : ByteArray := if k = 4 then bang else minus
def aheadStk (k : Int) : TL → Option TL
  | (t, l) :: r => some ((aheadSg k ++ boundM t l 6, 6) :: r)
  | [] => none
def pairStk (k : Int) : TL → Option TL
  | (t2, l2) :: (t1, l1) :: r => some ((boundM t1 l1 (lvl k) ++ sg k.toNat ++ boundM t2 l2 (lvl k + 1), lvl k) :: r)
  | _ => none
/-- one node more: texts and how tightly they bind, the last first -/
def showStep (x : Nd) (stk : TL) : Option TL :=
  if x.1 = 1 then (if (0 ≤ x.2.1 ∧ x.2.1 ≤ 999999) ∧ x.2.2.toList.isEmpty = true then some ((decF 5 x.2.1, 7) :: stk) else none)
  else if x.1 = 2 then (if nmB x.2.2 = true ∧ x.2.1 = 0 then some ((x.2.2, 7) :: stk) else none)
  else if x.1 = 3 ∨ x.1 = 4 then (if x.2.1 = 0 ∧ x.2.2.toList.isEmpty = true then aheadStk x.1 stk else none)
  else if 5 ≤ x.1 ∧ x.1 ≤ 13 then (if x.2.1 = 0 ∧ x.2.2.toList.isEmpty = true then pairStk x.1 stk else none)
  else none
def showTo (l : List Nd) : Nat → Option TL
  | 0 => some []
  | k + 1 => (showTo l k).bind (showStep (l.getD k (0, 0, noName)))
/-- how nodes are written -/
def showM (l : List Nd) : Option ByteArray := match showTo l l.length with | some [(t, _)] => some t | _ => none

theorem showTo_none {l : List Nd} {k n : Nat} (h : k ≤ n) (hk : showTo l k = none) : showTo l n = none := by
  induction n with
  | zero => have : k = 0 := by omega
            subst this; exact hk
  | succ n ih =>
    by_cases e : k = n + 1
    · subst e; exact hk
    · simp [showTo, ih (by omega)]
theorem showM_no {l : List Nd} {k : Nat} {stk : TL} (h : showTo l k = some stk) (hk : k < l.length) (hs : showStep (l.getD k (0, 0, noName)) stk = none) : showM l = none := by
  have h1 : showTo l (k + 1) = none := by simp only [showTo, h]; exact hs
  unfold showM
  rw [showTo_none (n := l.length) (by omega) h1]

def total : TL → Nat
  | [] => 0
  | x :: r => x.1.size + total r
theorem total_step {x : Nd} {stk stk' : TL} (h : showStep x stk = some stk') : total stk' ≤ total stk + 6 ∧ stk'.length ≤ stk.length + 1 := by
  unfold showStep at h
  split at h
  · split at h
    · cases h
      have := decF_size 5 x.2.1
      simp [total]; omega
    · cases h
  split at h
  · split at h
    · rename_i hn
      cases h
      have : x.2.2.size ≤ 6 := by
        have := hn.1; unfold nmB at this; simp at this; omega
      simp [total]; omega
    · cases h
  split at h
  · split at h
    · unfold aheadStk at h
      split at h
      · rename_i t l r
        cases h
        have h1 := bound_size t l 6
        have h2 : (aheadSg x.1).size = 1 := by unfold aheadSg; split <;> rfl
        simp only [total, ByteArray.size_append, List.length_cons]; omega
      · cases h
    · cases h
  split at h
  · split at h
    · unfold pairStk at h
      split at h
      · rename_i t2 l2 t1 l1 r
        cases h
        have h1 := bound_size t1 l1 (lvl x.1)
        have h2 := bound_size t2 l2 (lvl x.1 + 1)
        have h3 := sg_size x.1.toNat
        simp only [total, ByteArray.size_append, List.length_cons]; omega
      · cases h
    · cases h
  · cases h
theorem total_to {l : List Nd} : ∀ {k : Nat} {stk : TL}, showTo l k = some stk → total stk ≤ 6 * k ∧ stk.length ≤ k
  | 0, stk, h => by simp [showTo] at h; subst h; simp [total]
  | k + 1, stk, h => by
    simp only [showTo, Option.bind_eq_some_iff] at h
    obtain ⟨s0, h1, h2⟩ := h
    have := total_to h1
    have := total_step h2
    omega

def strsOf (stk : TL) : List Value := stk.reverse.map fun x => Value.string x.1
def lvsOf (stk : TL) : List Value := stk.reverse.map fun x => Value.int .i64 x.2
/-- the two stacks: rows gt and gl -/
structure Two (B : Nat) (w : World) (gt ct gl cl : Nat) (stk : TL) : Prop where
  t : w.ownsRow B 9 1 (.slice (some ⟨gt, 0, none⟩) stk.length ct) stk.length (strsOf stk)
  l : w.ownsRow B 3 1 (.slice (some ⟨gl, 0, none⟩) stk.length cl) stk.length (lvsOf stk)
  ne : gt ≠ gl
theorem Two.lt {B : Nat} {w : World} {gt ct gl cl : Nat} {stk : TL} (h : Two B w gt ct gl cl stk) : (B ≤ gt ∧ gt < w.heap.size) ∧ (B ≤ gl ∧ gl < w.heap.size) := ⟨h.t.lt gt rfl, h.l.lt gl rfl⟩
theorem Two.old {B : Nat} {w w' : World} {gt ct gl cl : Nat} {stk : TL} (h : Two B w gt ct gl cl stk) (hb : Below w.heap.size w w') : Two B w' gt ct gl cl stk := by
  have hl := h.lt
  exact ⟨own_of_block h.t (fun g hg => by
      have : g = gt := by simpa [Value.ownBlock] using hg.symm
      subst this; exact hb.block g hl.1.2), own_of_block h.l (fun g hg => by
      have : g = gl := by simpa [Value.ownBlock] using hg.symm
      subst this; exact hb.block g hl.2.2), h.ne⟩
theorem Two.drew {B : Nat} {w : World} {gt ct gl cl : Nat} {stk : TL} (h : Two B w gt ct gl cl stk) : Two B w.drew gt ct gl cl stk := ⟨h.t, h.l, h.ne⟩
theorem strsOf_cons (x : ByteArray × Int) (stk : TL) : strsOf (x :: stk) = strsOf stk ++ [.string x.1] := by simp [strsOf]
theorem lvsOf_cons (x : ByteArray × Int) (stk : TL) : lvsOf (x :: stk) = lvsOf stk ++ [.int .i64 x.2] := by simp [lvsOf]
theorem Two.top {B : Nat} {w : World} {gt ct gl cl : Nat} {x : ByteArray × Int} {r : TL} (h : Two B w gt ct gl cl (x :: r)) :
    w.cell? ⟨gt, r.length, none⟩ = some (.string x.1) ∧ w.cell? ⟨gl, r.length, none⟩ = some (.int .i64 x.2) ∧ w.frozen? ⟨gt, r.length, none⟩ = false ∧ w.frozen? ⟨gl, r.length, none⟩ = false := by
  obtain ⟨ht, hl, _⟩ := h
  rw [strsOf_cons] at ht
  rw [lvsOf_cons] at hl
  refine ⟨?_, ?_, ht.frozenAt _, hl.frozenAt _⟩
  · rw [ht.cellAt r.length (by simp)]; simp [strsOf]
  · rw [hl.cellAt r.length (by simp)]; simp [lvsOf]
theorem Two.pop {B : Nat} {w : World} {gt ct gl cl : Nat} {x : ByteArray × Int} {r : TL} (h : Two B w gt ct gl cl (x :: r)) : Two B w gt ct gl cl r := by
  obtain ⟨ht, hl, hn⟩ := h
  rw [strsOf_cons] at ht
  rw [lvsOf_cons] at hl
  exact ⟨ownsRow_pop (by simp [strsOf]) ht, ownsRow_pop (by simp [lvsOf]) hl, hn⟩
/-- the top is written anew -/
theorem Two.put {B : Nat} {w : World} {gt ct gl cl : Nat} {x : ByteArray × Int} {r : TL} (h : Two B w gt ct gl cl (x :: r)) (y : ByteArray) (n : Int) :
    Two B ((w.setCell ⟨gt, r.length, none⟩ (.string y)).setCell ⟨gl, r.length, none⟩ (.int .i64 n)) gt ct gl cl ((y, n) :: r) := by
  obtain ⟨ht, hl, hn⟩ := h
  have h1 := (ht.stored r.length (.string y)).1
  have e1 : (strsOf (x :: r)).set r.length (.string y) = strsOf ((y, n) :: r) := by
    rw [strsOf_cons, strsOf_cons, List.set_append_right _ _ (by simp [strsOf])]; simp [strsOf]
  rw [e1] at h1
  have h2 : (w.setCell ⟨gt, r.length, none⟩ (.string y)).ownsRow B 3 1 (.slice (some ⟨gl, 0, none⟩) (x :: r).length cl) (x :: r).length (lvsOf (x :: r)) :=
    own_of_block hl (fun g hg => by
      have : g = gl := by simpa [Value.ownBlock] using hg.symm
      subst this; exact Below.heap_setCell _ _ _ _ (fun e => hn e.symm))
  have h3 := (h2.stored r.length (.int .i64 n)).1
  have e2 : (lvsOf (x :: r)).set r.length (.int .i64 n) = lvsOf ((y, n) :: r) := by
    rw [lvsOf_cons, lvsOf_cons, List.set_append_right _ _ (by simp [lvsOf])]; simp [lvsOf]
  rw [e2] at h3
  refine ⟨?_, h3, hn⟩
  exact own_of_block h1 (fun g hg => by
      have : g = gt := by simpa [Value.ownBlock] using hg.symm
      subst this; exact Below.heap_setCell _ _ _ _ hn)
end Go.Proofs.YtbpfonmkbbnkcaaGreatDoor

/- A region whose operations may come up in more than one order, by one invariant: it says what holds when these operations have come up and the others have not. -/
namespace Go.Proofs.YtbpfonmkbbnkcaaGreatDoor
open Go

/-- how many operations have not come up yet -/
def leftOf (listed : Array Bool) : Nat := (listed.toList.filter (fun b => !b)).length

theorem left_set (l : List Bool) : ∀ i, l[i]? = some false → ((l.set i true).filter (fun b => !b)).length + 1 = (l.filter (fun b => !b)).length := by
  induction l with
  | nil => intro i h; simp at h
  | cons x r ih =>
    intro i h
    cases i with
    | zero => simp at h; subst h; simp
    | succ i =>
      have := ih i (by simpa using h)
      cases x <;> simp [List.set] <;> omega
theorem leftOf_set {listed : Array Bool} {i : Nat} (hi : i < listed.size) (h : listed[i] = false) : leftOf (listed.setIfInBounds i true) + 1 = leftOf listed := by
  unfold leftOf
  rw [Array.toList_setIfInBounds]
  exact left_set _ i (by simp [hi, h])
theorem ready_mem {md : Region.Mode} {ops : Array Oper} {listed : Array Bool} {i : Nat} (h : i ∈ Region.ready md ops listed) : i < ops.size ∧ listed.getD i true = false ∧ ∀ o, ops[i]? = some o → ∀ e ∈ o.after, Region.binds md e = true → listed.getD e.on false = true := by
  unfold Region.ready at h
  rw [List.mem_filter] at h
  obtain ⟨h1, h2⟩ := h
  simp only [Bool.and_eq_true] at h2
  refine ⟨by simpa using h1, by simpa using h2.1, fun o ho e he hb => ?_⟩
  have h3 := h2.2
  rw [ho] at h3
  simp only [Option.map_some, Option.getD_some, Array.all_eq_true'] at h3
  have := h3 e he
  rw [hb] at this
  simpa using this

theorem wpAny_inv {P : Program} {md : Region.Mode} {ops : Array Oper} {Q : Exit → Act → World → Prop} (Inv : Array Bool → Act → World → Prop) (hsize : ∀ listed a w, Inv listed a w → listed.size = ops.size)
    (hstep : ∀ listed a w i, Inv listed a w → i ∈ Region.ready md ops listed → wpOp P ops Q i (Inv (listed.setIfInBounds i true)) a w)
    (hend : ∀ listed a w, Inv listed a w → Region.ready md ops listed = [] → Q .normal a w) :
    ∀ (fuel : Nat) (listed : Array Bool) (a : Act) (w : World), leftOf listed ≤ fuel → Inv listed a w → wpAny P md ops Q fuel listed a w := by
  intro fuel
  induction fuel with
  | zero =>
    intro listed a w hl hI
    have hr : Region.ready md ops listed = [] := by
      cases e : Region.ready md ops listed with
      | nil => rfl
      | cons i r =>
        have hm : i ∈ Region.ready md ops listed := by rw [e]; simp
        obtain ⟨h1, h2, _⟩ := ready_mem hm
        have hi : i < listed.size := by rw [hsize _ _ _ hI]; exact h1
        have h3 : listed[i] = false := by simpa [Array.getD, hi] using h2
        have := leftOf_set hi h3
        omega
    exact ⟨hr, hend _ _ _ hI hr⟩
  | succ fuel ih =>
    intro listed a w hl hI
    refine ⟨hend _ _ _ hI, fun i hi => ?_⟩
    obtain ⟨h1, h2, _⟩ := ready_mem hi
    have hlt : i < listed.size := by rw [hsize _ _ _ hI]; exact h1
    have h3 : listed[i] = false := by simpa [Array.getD, hlt] using h2
    have h4 := leftOf_set hlt h3
    exact wpOp_mono (fun a' w' hI' => ih _ a' w' (by omega) hI') (hstep _ _ _ i hI hi)
end Go.Proofs.YtbpfonmkbbnkcaaGreatDoor

/- What an activation holds when some operations of a region have come up, each with its value, in whatever order. -/
namespace Go.Proofs.YtbpfonmkbbnkcaaGreatDoor
open Go

def dstOf (ops : Array Oper) (j : Nat) : Option Tmp := (ops[j]?).bind (·.dst)
/-- the first n operations: those that have come up have put their values -/
def putL (ops : Array Oper) (val : Nat → Value) (listed : Array Bool) (a0 : Act) : Nat → Act
  | 0 => a0
  | n + 1 => if listed.getD n false = true then (putL ops val listed a0 n).put (dstOf ops n) (val n) else putL ops val listed a0 n

def apartDst (ops : Array Oper) : Prop := ∀ i j d, i ≠ j → dstOf ops i = some d → dstOf ops j ≠ some d

theorem putL_before {ops : Array Oper} {val : Nat → Value} {listed : Array Bool} {a0 : Act} {i : Nat} : ∀ n, n ≤ i → putL ops val (listed.setIfInBounds i true) a0 n = putL ops val listed a0 n
  | 0, _ => rfl
  | n + 1, h => by
    have e : (listed.setIfInBounds i true).getD n false = listed.getD n false := by
      simp only [Array.getD_eq_getD_getElem?, Array.getElem?_setIfInBounds]
      rw [if_neg (by omega)]
    rw [putL, putL, e, putL_before n (by omega)]
theorem putL_set {ops : Array Oper} {val : Nat → Value} {listed : Array Bool} {a0 : Act} (hap : apartDst ops) {i : Nat} (hi : i < listed.size) (hl : listed[i] = false) :
    ∀ n, i < n → putL ops val (listed.setIfInBounds i true) a0 n = (putL ops val listed a0 n).put (dstOf ops i) (val i)
  | 0, h => by omega
  | n + 1, h => by
    by_cases e : n = i
    · subst e
      have e1 : (listed.setIfInBounds n true).getD n false = true := by simp [Array.getD, hi]
      have e2 : listed.getD n false = false := by simp [Array.getD, hi, hl]
      rw [putL, putL, if_pos e1, if_neg (by rw [e2]; decide), putL_before n (Nat.le_refl _)]
    · have e1 : (listed.setIfInBounds i true).getD n false = listed.getD n false := by
        simp only [Array.getD_eq_getD_getElem?, Array.getElem?_setIfInBounds]
        rw [if_neg (by omega)]
      rw [putL, putL, e1, putL_set hap hi hl n (by omega)]
      split
      · exact (Act.put_comm _ _ _ (fun d hd => hap i n d (fun h => e h.symm) hd))
      · rfl
theorem putL_size {ops : Array Oper} {val : Nat → Value} {listed : Array Bool} {a0 : Act} : ∀ n, (putL ops val listed a0 n).tmps.size = a0.tmps.size
  | 0 => rfl
  | n + 1 => by
    rw [putL]
    split
    · unfold Act.put
      split
      · simp [putL_size n]
      · exact putL_size n
    · exact putL_size n
theorem putL_other {ops : Array Oper} {val : Nat → Value} {listed : Array Bool} {a0 : Act} {d : Nat} : ∀ n, (∀ j, j < n → dstOf ops j ≠ some d) → (putL ops val listed a0 n).tmps.getD d undef = a0.tmps.getD d undef
  | 0, _ => rfl
  | n + 1, h => by
    rw [putL]
    have ih := putL_other (ops := ops) (val := val) (listed := listed) (a0 := a0) (d := d) n (fun j hj => h j (by omega))
    split
    · unfold Act.put
      split
      · rename_i d' hd'
        have hne : d' ≠ d := fun e => h n (by omega) (by rw [hd', e])
        rw [← ih]
        simp only [Array.getD_eq_getD_getElem?, Array.getElem?_setIfInBounds]
        rw [if_neg hne]
      · exact ih
    · exact ih
theorem putL_get {ops : Array Oper} {val : Nat → Value} {listed : Array Bool} {a0 : Act} (hap : apartDst ops) {j d : Nat} (hd : dstOf ops j = some d) (hdz : d < a0.tmps.size) (hl : listed.getD j false = true) :
    ∀ n, j < n → (putL ops val listed a0 n).tmps.getD d undef = val j
  | 0, h => by omega
  | n + 1, h => by
    rw [putL]
    by_cases e : n = j
    · subst e
      rw [if_pos hl, hd]
      have hz := putL_size (ops := ops) (val := val) (listed := listed) (a0 := a0) n
      simp [Act.put, Array.getD_eq_getD_getElem?, hz, hdz]
    · have ih := putL_get (val := val) hap hd hdz hl n (by omega)
      split
      · unfold Act.put
        split
        · rename_i d' hd'
          have hne : d' ≠ d := fun e' => hap j n d (fun h => e h.symm) hd (by rw [hd', e'])
          rw [← ih]
          simp only [Array.getD_eq_getD_getElem?, Array.getElem?_setIfInBounds]
          rw [if_neg hne]
        · exact ih
      · exact ih
end Go.Proofs.YtbpfonmkbbnkcaaGreatDoor

/- The greatest statement of the model's l1Show: two texts and a sign become one; its operations may come up in many orders. -/
namespace Go.Proofs.YtbpfonmkbbnkcaaGreatDoor
open Go Go.RowKit Go.PlainAid
set_option linter.unusedSimpArgs false
set_option linter.unusedVariables false

/-- an operation that yields its value -/
theorem step_val {P : Program} {ops : Array Oper} {Q : Exit → Act → World → Prop} {i : Nat} {K : Act → World → Prop} {a : Act} {w w' : World} {v : Value} (o : Oper) (ho : ops[i]? = some o) (hg : o.guard = none)
    (hrun : (execOp a.eval o).run P w = .ok (.value v) w') (hK : K (a.put o.dst v) w') : wpOp P ops Q i K a w := by
  unfold wpOp
  rw [ho]
  have hw : Region.wanted o (yielded ops a.tmps) = true := by simp [Region.wanted, hg]
  simp only [hw, if_true]
  left
  unfold Oper.wp
  rw [hrun]
  exact hK
theorem step_skip {P : Program} {ops : Array Oper} {Q : Exit → Act → World → Prop} {i : Nat} {K : Act → World → Prop} {a : Act} {w w' : World} (o : Oper) (ho : ops[i]? = some o) (hg : o.guard = none)
    (hrun : (execOp a.eval o).run P w = .ok .skip w') (hK : K (a.put o.dst undef) w') : wpOp P ops Q i K a w := by
  unfold wpOp
  rw [ho]
  have hw : Region.wanted o (yielded ops a.tmps) = true := by simp [Region.wanted, hg]
  simp only [hw, if_true]
  left
  unfold Oper.wp
  rw [hrun]
  exact hK
theorem step_call {P : Program} {ops : Array Oper} {Q : Exit → Act → World → Prop} {i : Nat} {K : Act → World → Prop} {a : Act} {w : World} {f : Nat} {args : Array Value} (o : Oper) (ho : ops[i]? = some o) (hg : o.guard = none)
    (hrun : (execOp a.eval o).run P w = .ok (.enter f args) w) (hK : Calls P f args w fun e w' => ∃ v, e = .returned v ∧ K (a.put o.dst v) w') : wpOp P ops Q i K a w := by
  unfold wpOp
  rw [ho]
  have hw : Region.wanted o (yielded ops a.tmps) = true := by simp [Region.wanted, hg]
  simp only [hw, if_true]
  left
  unfold Oper.wp
  rw [hrun]
  refine Calls.mono hK fun e w' he => ?_
  obtain ⟨v, rfl, hk⟩ := he
  exact hk

def ops23 : Array Oper := #[
  { dst := some 138, op := Op.move (Operand.tmp 4), type := 31, pos := "l1_expr.go:269", after := #[], guard := none },
  { dst := some 139, op := Op.move (Operand.tmp 7), type := 3, pos := "l1_expr.go:269", after := #[], guard := none },
  { dst := some 140, op := Op.binOp BinOp.sub 3 (Operand.tmp 139) (Operand.const (Value.int IntKind.i64 2)) 3, type := 3, pos := "l1_expr.go:269", after := #[{ on := 1, ground := Ground.data }], guard := none },
  { dst := some 141, op := Op.move (Operand.tmp 4), type := 31, pos := "l1_expr.go:269", after := #[], guard := none },
  { dst := some 142, op := Op.move (Operand.tmp 7), type := 3, pos := "l1_expr.go:269", after := #[], guard := none },
  { dst := some 143, op := Op.binOp BinOp.sub 3 (Operand.tmp 142) (Operand.const (Value.int IntKind.i64 2)) 3, type := 3, pos := "l1_expr.go:269", after := #[{ on := 4, ground := Ground.data }], guard := none },
  { dst := some 144, op := Op.indexAddr 31 (Operand.tmp 141) (Operand.tmp 143), type := 0, pos := "l1_expr.go:269", after := #[{ on := 3, ground := Ground.data }, { on := 5, ground := Ground.data }], guard := none },
  { dst := some 145, op := Op.load 9 (Operand.tmp 144), type := 9, pos := "l1_expr.go:269", after := #[{ on := 6, ground := Ground.data }], guard := none },
  { dst := some 146, op := Op.move (Operand.tmp 5), type := 32, pos := "l1_expr.go:269", after := #[], guard := none },
  { dst := some 147, op := Op.move (Operand.tmp 7), type := 3, pos := "l1_expr.go:269", after := #[], guard := none },
  { dst := some 148, op := Op.binOp BinOp.sub 3 (Operand.tmp 147) (Operand.const (Value.int IntKind.i64 2)) 3, type := 3, pos := "l1_expr.go:269", after := #[{ on := 9, ground := Ground.data }], guard := none },
  { dst := some 149, op := Op.indexAddr 32 (Operand.tmp 146) (Operand.tmp 148), type := 0, pos := "l1_expr.go:269", after := #[{ on := 8, ground := Ground.data }, { on := 10, ground := Ground.data }], guard := none },
  { dst := some 150, op := Op.load 3 (Operand.tmp 149), type := 3, pos := "l1_expr.go:269", after := #[{ on := 11, ground := Ground.data }], guard := none },
  { dst := some 151, op := Op.move (Operand.tmp 10), type := 3, pos := "l1_expr.go:269", after := #[], guard := none },
  { dst := some 152, op := Op.call { callee := Callee.value (Operand.func 98), args := #[Operand.tmp 145, Operand.tmp 150, Operand.tmp 151], argTypes := #[9, 3, 3] }, type := 9, pos := "l1_expr.go:269", after := #[{ on := 7, ground := Ground.data }, { on := 12, ground := Ground.data }, { on := 13, ground := Ground.data }], guard := none },
  { dst := some 153, op := Op.call { callee := Callee.value (Operand.func 100), args := #[], argTypes := #[] }, type := 31, pos := "l1_expr.go:269", after := #[{ on := 14, ground := Ground.chain }], guard := none },
  { dst := some 154, op := Op.fieldAddr 38 (Operand.tmp 8) 0, type := 0, pos := "l1_expr.go:269", after := #[], guard := none },
  { dst := some 155, op := Op.load 3 (Operand.tmp 154), type := 3, pos := "l1_expr.go:269", after := #[{ on := 16, ground := Ground.data }], guard := none },
  { dst := some 156, op := Op.indexAddr 31 (Operand.tmp 153) (Operand.tmp 155), type := 0, pos := "l1_expr.go:269", after := #[{ on := 15, ground := Ground.data }, { on := 17, ground := Ground.data }], guard := none },
  { dst := some 157, op := Op.load 9 (Operand.tmp 156), type := 9, pos := "l1_expr.go:269", after := #[{ on := 18, ground := Ground.data }], guard := none },
  { dst := some 158, op := Op.binOp BinOp.add 9 (Operand.tmp 152) (Operand.tmp 157) 9, type := 9, pos := "l1_expr.go:269", after := #[{ on := 14, ground := Ground.data }, { on := 19, ground := Ground.data }], guard := none },
  { dst := some 159, op := Op.move (Operand.tmp 4), type := 31, pos := "l1_expr.go:269", after := #[], guard := none },
  { dst := some 160, op := Op.move (Operand.tmp 7), type := 3, pos := "l1_expr.go:269", after := #[], guard := none },
  { dst := some 161, op := Op.binOp BinOp.sub 3 (Operand.tmp 160) (Operand.const (Value.int IntKind.i64 1)) 3, type := 3, pos := "l1_expr.go:269", after := #[{ on := 22, ground := Ground.data }], guard := none },
  { dst := some 162, op := Op.indexAddr 31 (Operand.tmp 159) (Operand.tmp 161), type := 0, pos := "l1_expr.go:269", after := #[{ on := 21, ground := Ground.data }, { on := 23, ground := Ground.data }], guard := none },
  { dst := some 163, op := Op.load 9 (Operand.tmp 162), type := 9, pos := "l1_expr.go:269", after := #[{ on := 24, ground := Ground.data }], guard := none },
  { dst := some 164, op := Op.move (Operand.tmp 5), type := 32, pos := "l1_expr.go:269", after := #[], guard := none },
  { dst := some 165, op := Op.move (Operand.tmp 7), type := 3, pos := "l1_expr.go:269", after := #[], guard := none },
  { dst := some 166, op := Op.binOp BinOp.sub 3 (Operand.tmp 165) (Operand.const (Value.int IntKind.i64 1)) 3, type := 3, pos := "l1_expr.go:269", after := #[{ on := 27, ground := Ground.data }], guard := none },
  { dst := some 167, op := Op.indexAddr 32 (Operand.tmp 164) (Operand.tmp 166), type := 0, pos := "l1_expr.go:269", after := #[{ on := 26, ground := Ground.data }, { on := 28, ground := Ground.data }], guard := none },
  { dst := some 168, op := Op.load 3 (Operand.tmp 167), type := 3, pos := "l1_expr.go:269", after := #[{ on := 29, ground := Ground.data }], guard := none },
  { dst := some 169, op := Op.move (Operand.tmp 10), type := 3, pos := "l1_expr.go:269", after := #[], guard := none },
  { dst := some 170, op := Op.binOp BinOp.add 3 (Operand.tmp 169) (Operand.const (Value.int IntKind.i64 1)) 3, type := 3, pos := "l1_expr.go:269", after := #[{ on := 31, ground := Ground.data }], guard := none },
  { dst := some 171, op := Op.call { callee := Callee.value (Operand.func 98), args := #[Operand.tmp 163, Operand.tmp 168, Operand.tmp 170], argTypes := #[9, 3, 3] }, type := 9, pos := "l1_expr.go:269", after := #[{ on := 25, ground := Ground.data }, { on := 30, ground := Ground.data }, { on := 32, ground := Ground.data }, { on := 15, ground := Ground.chain }], guard := none },
  { dst := some 172, op := Op.binOp BinOp.add 9 (Operand.tmp 158) (Operand.tmp 171) 9, type := 9, pos := "l1_expr.go:269", after := #[{ on := 20, ground := Ground.data }, { on := 33, ground := Ground.data }], guard := none },
  { dst := some 173, op := Op.indexAddr 31 (Operand.tmp 138) (Operand.tmp 140), type := 0, pos := "l1_expr.go:269", after := #[{ on := 0, ground := Ground.data }, { on := 2, ground := Ground.data }, { on := 0, ground := Ground.phase }, { on := 1, ground := Ground.phase }, { on := 2, ground := Ground.phase }, { on := 3, ground := Ground.phase }, { on := 4, ground := Ground.phase }, { on := 5, ground := Ground.phase }, { on := 6, ground := Ground.phase }, { on := 7, ground := Ground.phase }, { on := 8, ground := Ground.phase }, { on := 9, ground := Ground.phase }, { on := 10, ground := Ground.phase }, { on := 11, ground := Ground.phase }, { on := 12, ground := Ground.phase }, { on := 13, ground := Ground.phase }, { on := 14, ground := Ground.phase }, { on := 15, ground := Ground.phase }, { on := 16, ground := Ground.phase }, { on := 17, ground := Ground.phase }, { on := 18, ground := Ground.phase }, { on := 19, ground := Ground.phase }, { on := 20, ground := Ground.phase }, { on := 21, ground := Ground.phase }, { on := 22, ground := Ground.phase }, { on := 23, ground := Ground.phase }, { on := 24, ground := Ground.phase }, { on := 25, ground := Ground.phase }, { on := 26, ground := Ground.phase }, { on := 27, ground := Ground.phase }, { on := 28, ground := Ground.phase }, { on := 29, ground := Ground.phase }, { on := 30, ground := Ground.phase }, { on := 31, ground := Ground.phase }, { on := 32, ground := Ground.phase }, { on := 33, ground := Ground.phase }, { on := 34, ground := Ground.phase }], guard := none },
  { dst := none, op := Op.store 9 (Operand.tmp 173) (Operand.tmp 172), type := 0, pos := "l1_expr.go:269", after := #[{ on := 35, ground := Ground.data }, { on := 34, ground := Ground.data }, { on := 33, ground := Ground.chain }, { on := 0, ground := Ground.phase }, { on := 1, ground := Ground.phase }, { on := 2, ground := Ground.phase }, { on := 3, ground := Ground.phase }, { on := 4, ground := Ground.phase }, { on := 5, ground := Ground.phase }, { on := 6, ground := Ground.phase }, { on := 7, ground := Ground.phase }, { on := 8, ground := Ground.phase }, { on := 9, ground := Ground.phase }, { on := 10, ground := Ground.phase }, { on := 11, ground := Ground.phase }, { on := 12, ground := Ground.phase }, { on := 13, ground := Ground.phase }, { on := 14, ground := Ground.phase }, { on := 15, ground := Ground.phase }, { on := 16, ground := Ground.phase }, { on := 17, ground := Ground.phase }, { on := 18, ground := Ground.phase }, { on := 19, ground := Ground.phase }, { on := 20, ground := Ground.phase }, { on := 21, ground := Ground.phase }, { on := 22, ground := Ground.phase }, { on := 23, ground := Ground.phase }, { on := 24, ground := Ground.phase }, { on := 25, ground := Ground.phase }, { on := 26, ground := Ground.phase }, { on := 27, ground := Ground.phase }, { on := 28, ground := Ground.phase }, { on := 29, ground := Ground.phase }, { on := 30, ground := Ground.phase }, { on := 31, ground := Ground.phase }, { on := 32, ground := Ground.phase }, { on := 33, ground := Ground.phase }, { on := 34, ground := Ground.phase }], guard := none }]

theorem dst23 (i : Nat) : dstOf ops23 i = if i < 36 then some (138 + i) else none := by
  by_cases h : i < 37
  · have : i = 0 ∨ i = 1 ∨ i = 2 ∨ i = 3 ∨ i = 4 ∨ i = 5 ∨ i = 6 ∨ i = 7 ∨ i = 8 ∨ i = 9 ∨ i = 10 ∨ i = 11 ∨ i = 12 ∨ i = 13 ∨ i = 14 ∨ i = 15 ∨ i = 16 ∨ i = 17 ∨ i = 18 ∨ i = 19 ∨ i = 20 ∨ i = 21 ∨ i = 22 ∨ i = 23 ∨ i = 24 ∨ i = 25 ∨ i = 26 ∨ i = 27 ∨ i = 28 ∨ i = 29 ∨ i = 30 ∨ i = 31 ∨ i = 32 ∨ i = 33 ∨ i = 34 ∨ i = 35 ∨ i = 36 := by omega
    rcases this with rfl | rfl | rfl | rfl | rfl | rfl | rfl | rfl | rfl | rfl | rfl | rfl | rfl | rfl | rfl | rfl | rfl | rfl | rfl | rfl | rfl | rfl | rfl | rfl | rfl | rfl | rfl | rfl | rfl | rfl | rfl | rfl | rfl | rfl | rfl | rfl | rfl <;> rfl
  · rw [if_neg (by omega)]
    unfold dstOf
    rw [Array.getElem?_eq_none (by show 37 ≤ i; omega)]; rfl
theorem apart23 : apartDst ops23 := by
  intro i j d hij h1 h2
  rw [dst23] at h1 h2
  split at h1 <;> split at h2 <;> simp at h1 h2
  omega

theorem all_listed {md : Region.Mode} {ops : Array Oper} {listed : Array Bool} (hsz : listed.size = ops.size) (hlt : ∀ (j : Nat) (o : Oper), ops[j]? = some o → ∀ e ∈ o.after, e.on < j) (hr : Region.ready md ops listed = []) :
    ∀ j, j < ops.size → listed.getD j false = true := by
  intro j
  induction j using Nat.strongRecOn with
  | ind j ih =>
    intro hj
    cases hl : listed.getD j false with
    | true => rfl
    | false =>
      exfalso
      have hm : j ∈ Region.ready md ops listed := by
        unfold Region.ready
        rw [List.mem_filter]
        refine ⟨by simpa using hj, ?_⟩
        have hjl : j < listed.size := by omega
        have e1 : listed.getD j true = false := by
          simp [Array.getD, hjl] at hl ⊢; exact hl
        have e2 : ops[j]? = some ops[j] := by simp [hj]
        rw [e1, e2]
        simp only [Bool.not_false, Bool.true_and, Option.map_some, Option.getD_some, Array.all_eq_true']
        intro e he
        have h1 := hlt j _ e2 e he
        rw [ih e.on h1 (by omega)]
        simp
      rw [hr] at hm
      cases hm
theorem putL_congr {ops : Array Oper} {val : Nat → Value} {l l' : Array Bool} {a0 : Act} : ∀ n, (∀ j, j < n → l.getD j false = l'.getD j false) → putL ops val l a0 n = putL ops val l' a0 n
  | 0, _ => rfl
  | n + 1, h => by rw [putL, putL, h n (by omega), putL_congr n (fun j hj => h j (by omega))]

/-- what the operations yield -/
def val23 (gt ct gl cl N L M q x k : Nat) (t1 t2 : ByteArray) (l1 l2 lv : Int) : Nat → Value
  | 0 => .slice (some ⟨gt, 0, none⟩) N ct
  | 1 => .int .i64 N
  | 2 => .int .i64 L
  | 3 => .slice (some ⟨gt, 0, none⟩) N ct
  | 4 => .int .i64 N
  | 5 => .int .i64 L
  | 6 => .pointer (some ⟨gt, L, none⟩)
  | 7 => .string t1
  | 8 => .slice (some ⟨gl, 0, none⟩) N cl
  | 9 => .int .i64 N
  | 10 => .int .i64 L
  | 11 => .pointer (some ⟨gl, L, none⟩)
  | 12 => .int .i64 l1
  | 13 => .int .i64 lv
  | 14 => .string (boundM t1 l1 lv)
  | 15 => .slice (some ⟨q, 0, none⟩) 14 14
  | 16 => .pointer (some ⟨x, 0, none⟩)
  | 17 => .int .i64 k
  | 18 => .pointer (some ⟨q, k, none⟩)
  | 19 => .string (sg k)
  | 20 => .string (boundM t1 l1 lv ++ sg k)
  | 21 => .slice (some ⟨gt, 0, none⟩) N ct
  | 22 => .int .i64 N
  | 23 => .int .i64 M
  | 24 => .pointer (some ⟨gt, M, none⟩)
  | 25 => .string t2
  | 26 => .slice (some ⟨gl, 0, none⟩) N cl
  | 27 => .int .i64 N
  | 28 => .int .i64 M
  | 29 => .pointer (some ⟨gl, M, none⟩)
  | 30 => .int .i64 l2
  | 31 => .int .i64 lv
  | 32 => .int .i64 (lv + 1)
  | 33 => .string (boundM t2 l2 (lv + 1))
  | 34 => .string (boundM t1 l1 lv ++ sg k ++ boundM t2 l2 (lv + 1))
  | 35 => .pointer (some ⟨gt, L, none⟩)
  | _ => undef

/-- what holds when these operations have come up -/
structure J (V : Nat → Value) (a0 : Act) (W0 : World) (c : Addr) (new : Value) (listed : Array Bool) (a : Act) (w : World) : Prop where
  size : listed.size = 37
  act : a = putL ops23 V listed a0 37
  last : listed.getD 36 false = true → ∀ j, j < 36 → listed.getD j false = true
  sgn : listed.getD 18 false = true → listed.getD 15 false = true
  w0 : listed.getD 15 false = false → listed.getD 36 false = false → w = W0
  w1 : listed.getD 15 false = true → listed.getD 36 false = false → Below W0.heap.size W0 w ∧ ∀ j, j < 14 → w.cell? ⟨W0.heap.size, j, none⟩ = some (.string (sg j))
  w2 : listed.getD 36 false = true → ∃ w', Below W0.heap.size W0 w' ∧ w = w'.setCell c new

theorem getD_set {l : Array Bool} {i j : Nat} (hi : i < l.size) : (l.setIfInBounds i true).getD j false = if i = j then true else l.getD j false := by
  simp only [Array.getD_eq_getD_getElem?, Array.getElem?_setIfInBounds]
  split
  · simp [hi]
  · rfl
theorem J.undone {V : Nat → Value} {a0 : Act} {W0 : World} {c : Addr} {new : Value} {listed : Array Bool} {a : Act} {w : World} (h : J V a0 W0 c new listed a w) {i : Nat} (hi : i < 36) (hl : listed.getD i true = false) : listed.getD 36 false = false := by
  have hlt : i < listed.size := by rw [h.size]; omega
  cases e : listed.getD 36 false with
  | false => rfl
  | true =>
    have := h.last e i hi
    simp [Array.getD, hlt] at hl this
    rw [hl] at this; cases this
theorem J.bel {V : Nat → Value} {a0 : Act} {W0 : World} {c : Addr} {new : Value} {listed : Array Bool} {a : Act} {w : World} (h : J V a0 W0 c new listed a w) (hu : listed.getD 36 false = false) : Below W0.heap.size W0 w := by
  cases e : listed.getD 15 false with
  | false => rw [h.w0 e hu]; exact Below.refl _ _
  | true => exact (h.w1 e hu).1
theorem J.plain {V : Nat → Value} {a0 : Act} {W0 : World} {c : Addr} {new : Value} {listed : Array Bool} {a : Act} {w : World} (h : J V a0 W0 c new listed a w) {i : Nat} (hi : i < 36) (h15 : i ≠ 15) (hl : listed.getD i true = false) (hs : i = 18 → listed.getD 15 false = true) :
    J V a0 W0 c new (listed.setIfInBounds i true) (a.put (dstOf ops23 i) (V i)) w := by
  have hlt : i < listed.size := by rw [h.size]; omega
  have hu := h.undone hi hl
  have hl' : listed[i] = false := by simpa [Array.getD, hlt] using hl
  have e15 : (listed.setIfInBounds i true).getD 15 false = listed.getD 15 false := by rw [getD_set hlt, if_neg h15]
  have e36 : (listed.setIfInBounds i true).getD 36 false = listed.getD 36 false := by rw [getD_set hlt, if_neg (by omega)]
  refine ⟨by simp [h.size], ?_, ?_, ?_, ?_, ?_, ?_⟩
  · rw [h.act, putL_set apart23 hlt hl' 37 (by omega)]
  · rw [e36, hu]; intro hh; cases hh
  · rw [e15, getD_set hlt]
    split
    · rename_i e; exact fun _ => hs e
    · exact h.sgn
  · rw [e15, e36]; exact h.w0
  · rw [e15, e36]; exact h.w1
  · rw [e36, hu]; intro hh; cases hh
theorem J.signs {V : Nat → Value} {a0 : Act} {W0 : World} {c : Addr} {new : Value} {listed : Array Bool} {a : Act} {w w1 : World} (h : J V a0 W0 c new listed a w) (hl : listed.getD 15 true = false)
    (hb : Below W0.heap.size W0 w1) (hc : ∀ j, j < 14 → w1.cell? ⟨W0.heap.size, j, none⟩ = some (.string (sg j))) :
    J V a0 W0 c new (listed.setIfInBounds 15 true) (a.put (dstOf ops23 15) (V 15)) w1 := by
  have hlt : 15 < listed.size := by rw [h.size]; omega
  have hu := h.undone (by omega) hl
  have hl' : listed[15] = false := by simpa [Array.getD, hlt] using hl
  have e15 : (listed.setIfInBounds 15 true).getD 15 false = true := by rw [getD_set hlt, if_pos rfl]
  have e36 : (listed.setIfInBounds 15 true).getD 36 false = listed.getD 36 false := by rw [getD_set hlt, if_neg (by omega)]
  refine ⟨by simp [h.size], ?_, ?_, ?_, ?_, ?_, ?_⟩
  · rw [h.act, putL_set apart23 hlt hl' 37 (by omega)]
  · rw [e36, hu]; intro hh; cases hh
  · exact fun _ => e15
  · rw [e15]; intro hh; cases hh
  · exact fun _ _ => ⟨hb, hc⟩
  · rw [e36, hu]; intro hh; cases hh
theorem J.store {V : Nat → Value} {a0 : Act} {W0 : World} {c : Addr} {new : Value} {listed : Array Bool} {a : Act} {w : World} (h : J V a0 W0 c new listed a w) (hl : listed.getD 36 true = false)
    (hall : ∀ j, j < 36 → listed.getD j false = true) : J V a0 W0 c new (listed.setIfInBounds 36 true) (a.put none undef) (w.setCell c new) := by
  have hlt : 36 < listed.size := by rw [h.size]; omega
  have hl' : listed[36] = false := by simpa [Array.getD, hlt] using hl
  have hu : listed.getD 36 false = false := by simp [Array.getD, hlt, hl']
  have e36 : (listed.setIfInBounds 36 true).getD 36 false = true := by rw [getD_set hlt, if_pos rfl]
  have ee : ∀ j, j < 36 → (listed.setIfInBounds 36 true).getD j false = true := fun j hj => by rw [getD_set hlt, if_neg (by omega)]; exact hall j hj
  refine ⟨by simp [h.size], ?_, fun _ => ee, fun _ => ee 15 (by omega), ?_, ?_, ?_⟩
  · rw [h.act, putL_set apart23 hlt hl' 37 (by omega), dst23]; rfl
  · rw [e36]; intro _ hh; cases hh
  · rw [e36]; intro _ hh; cases hh
  · exact fun _ => ⟨w, h.bel hu, rfl⟩
theorem putL_none {ops : Array Oper} {val : Nat → Value} {l : Array Bool} {a0 : Act} : ∀ n, (∀ j, j < n → l.getD j false = false) → putL ops val l a0 n = a0
  | 0, _ => rfl
  | n + 1, h => by rw [putL, h n (by omega), putL_none n (fun j hj => h j (by omega))]; rfl
theorem J.start (V : Nat → Value) (a0 : Act) (W0 : World) (c : Addr) (new : Value) : J V a0 W0 c new (Array.replicate 37 false) a0 W0 := by
  have e : ∀ j, (Array.replicate 37 false).getD j false = false := fun j => by
    simp only [Array.getD_eq_getD_getElem?, Array.getElem?_replicate]; split <;> rfl
  refine ⟨by simp, (putL_none 37 (fun j _ => e j)).symm, ?_, ?_, fun _ _ => rfl, ?_, ?_⟩
  · rw [e]; intro h; cases h
  · rw [e]; intro h; cases h
  · rw [e]; intro h; cases h
  · rw [e]; intro h; cases h
theorem J.get {V : Nat → Value} {a0 : Act} {W0 : World} {c : Addr} {new : Value} {listed : Array Bool} {a : Act} {w : World} (h : J V a0 W0 c new listed a w) (hz : a0.tmps.size = 193) (j : Nat) (hj : j < 36) (hl : listed.getD j false = true) : a.tmps.getD (138 + j) undef = V j := by
  rw [h.act]
  exact putL_get apart23 (by rw [dst23, if_pos hj]) (by omega) hl 37 (by omega)
theorem J.base {V : Nat → Value} {a0 : Act} {W0 : World} {c : Addr} {new : Value} {listed : Array Bool} {a : Act} {w : World} (h : J V a0 W0 c new listed a w) (d : Nat) (hd : d < 138) : a.tmps.getD d undef = a0.tmps.getD d undef := by
  rw [h.act]
  exact putL_other 37 (fun j hj => by rw [dst23]; split <;> simp; omega)
end Go.Proofs.YtbpfonmkbbnkcaaGreatDoor

/- The greatest statement of l1Show, whatever the order. -/
namespace Go.Proofs.YtbpfonmkbbnkcaaGreatDoor
open Go Go.RowKit Go.PlainAid
set_option linter.unusedSimpArgs false
set_option linter.unusedVariables false

theorem back23 : ∀ (j : Nat) (o : Oper), ops23[j]? = some o → ∀ e ∈ o.after, e.on < j := by
  intro j o h
  have hj : j < 37 := by
    rcases Nat.lt_or_ge j 37 with h1 | h1
    · exact h1
    · rw [Array.getElem?_eq_none (by show 37 ≤ j; omega)] at h; cases h
  have key : ∀ j : Fin 37, ((ops23[j.val]?).map (fun o => o.after.all (fun e => decide (e.on < j.val)))).getD false = true := by decide +kernel
  have := key ⟨j, hj⟩
  simp only [h, Option.map_some, Option.getD_some, Array.all_eq_true'] at this
  intro e he
  simpa using this e he
theorem dep23 {listed : Array Bool} {i j : Nat} (h3 : ∀ o, ops23[i]? = some o → ∀ e ∈ o.after, Region.binds .any e = true → listed.getD e.on false = true)
    (hc : ((ops23[i]?).map fun o => o.after.any fun e => (e.on == j) && Region.binds .any e).getD false = true) : listed.getD j false = true := by
  cases ho : ops23[i]? with
  | none => rw [ho] at hc; cases hc
  | some o =>
    rw [ho] at hc
    simp only [Option.map_some, Option.getD_some, Array.any_eq_true'] at hc
    obtain ⟨e, he, hb⟩ := hc
    simp only [Bool.and_eq_true, beq_iff_eq] at hb
    rw [← hb.1]
    exact h3 o ho e he hb.2
theorem dstEq (n : Nat) (h : n < 37) : (ops23[n]'h).dst = dstOf ops23 n := by
  unfold dstOf
  rw [Array.getElem?_eq_getElem (xs := ops23) (i := n) h]; rfl
theorem val_at {Q : Exit → Act → World → Prop} {n : Nat} {K : Act → World → Prop} {a : Act} {w w' : World} {v : Value} (hn : n < 37) (hg : (ops23[n]'hn).guard = none)
    (hrun : (execOp a.eval (ops23[n]'hn)).run Tryz.prog w = .ok (.value v) w') (hK : K (a.put (dstOf ops23 n) v) w') : wpOp Tryz.prog ops23 Q n K a w := by
  refine step_val _ (Array.getElem?_eq_getElem hn) hg hrun ?_
  rw [dstEq n hn]; exact hK
theorem call_at {Q : Exit → Act → World → Prop} {n : Nat} {K : Act → World → Prop} {a : Act} {w : World} {f : Nat} {args : Array Value} (hn : n < 37) (hg : (ops23[n]'hn).guard = none)
    (hrun : (execOp a.eval (ops23[n]'hn)).run Tryz.prog w = .ok (.enter f args) w) (hK : Calls Tryz.prog f args w fun e w' => ∃ v, e = .returned v ∧ K (a.put (dstOf ops23 n) v) w') : wpOp Tryz.prog ops23 Q n K a w := by
  refine step_call _ (Array.getElem?_eq_getElem hn) hg hrun ?_
  rw [dstEq n hn]; exact hK

set_option maxRecDepth 100000 in
theorem r0 (a : Act) (w : World) {gt ct N : Nat} (e4 : a.tmps.getD 4 undef = .slice (some ⟨gt, 0, none⟩) N ct) : (execOp a.eval (ops23[0]'(by decide))).run Tryz.prog w = .ok (.value (.slice (some ⟨gt, 0, none⟩) N ct)) w := by
  show (execOp a.eval { dst := some 138, op := Op.move (Operand.tmp 4), type := _, pos := _, after := _, guard := _ }).run Tryz.prog w = _
  simp [execOp, Act.eval, go_sem, e4]

set_option maxRecDepth 100000 in
theorem r1 (a : Act) (w : World) {N : Nat} (e7 : a.tmps.getD 7 undef = .int .i64 N) : (execOp a.eval (ops23[1]'(by decide))).run Tryz.prog w = .ok (.value (.int .i64 N)) w := by
  show (execOp a.eval { dst := some 139, op := Op.move (Operand.tmp 7), type := _, pos := _, after := _, guard := _ }).run Tryz.prog w = _
  simp [execOp, Act.eval, go_sem, e7]

set_option maxRecDepth 100000 in
theorem r2 (a : Act) (w : World) {N L : Nat} (e139 : a.tmps.getD 139 undef = .int .i64 N) (q1 : (N : Int) - 2 = L) (p1 : IntKind.i64.wrap (L : Int) = L) : (execOp a.eval (ops23[2]'(by decide))).run Tryz.prog w = .ok (.value (.int .i64 L)) w := by
  show (execOp a.eval { dst := some 140, op := Op.binOp BinOp.sub 3 (Operand.tmp 139) (Operand.const (Value.int IntKind.i64 2)) 3, type := _, pos := _, after := _, guard := _ }).run Tryz.prog w = _
  simp [execOp, Act.eval, go_sem, e139, q1, p1]

set_option maxRecDepth 100000 in
theorem r3 (a : Act) (w : World) {gt ct N : Nat} (e4 : a.tmps.getD 4 undef = .slice (some ⟨gt, 0, none⟩) N ct) : (execOp a.eval (ops23[3]'(by decide))).run Tryz.prog w = .ok (.value (.slice (some ⟨gt, 0, none⟩) N ct)) w := by
  show (execOp a.eval { dst := some 141, op := Op.move (Operand.tmp 4), type := _, pos := _, after := _, guard := _ }).run Tryz.prog w = _
  simp [execOp, Act.eval, go_sem, e4]

set_option maxRecDepth 100000 in
theorem r4 (a : Act) (w : World) {N : Nat} (e7 : a.tmps.getD 7 undef = .int .i64 N) : (execOp a.eval (ops23[4]'(by decide))).run Tryz.prog w = .ok (.value (.int .i64 N)) w := by
  show (execOp a.eval { dst := some 142, op := Op.move (Operand.tmp 7), type := _, pos := _, after := _, guard := _ }).run Tryz.prog w = _
  simp [execOp, Act.eval, go_sem, e7]

set_option maxRecDepth 100000 in
theorem r5 (a : Act) (w : World) {N L : Nat} (e142 : a.tmps.getD 142 undef = .int .i64 N) (q1 : (N : Int) - 2 = L) (p1 : IntKind.i64.wrap (L : Int) = L) : (execOp a.eval (ops23[5]'(by decide))).run Tryz.prog w = .ok (.value (.int .i64 L)) w := by
  show (execOp a.eval { dst := some 143, op := Op.binOp BinOp.sub 3 (Operand.tmp 142) (Operand.const (Value.int IntKind.i64 2)) 3, type := _, pos := _, after := _, guard := _ }).run Tryz.prog w = _
  simp [execOp, Act.eval, go_sem, e142, q1, p1]

set_option maxRecDepth 100000 in
theorem r6 (a : Act) (w : World) {gt ct N L : Nat} (e141 : a.tmps.getD 141 undef = .slice (some ⟨gt, 0, none⟩) N ct) (e143 : a.tmps.getD 143 undef = .int .i64 L) (q3 : (L : Int) < N) (q5 : L < N) : (execOp a.eval (ops23[6]'(by decide))).run Tryz.prog w = .ok (.value (.pointer (some ⟨gt, L, none⟩))) w := by
  show (execOp a.eval { dst := some 144, op := Op.indexAddr 31 (Operand.tmp 141) (Operand.tmp 143), type := _, pos := _, after := _, guard := _ }).run Tryz.prog w = _
  simp [execOp, Act.eval, go_sem, e141, e143, q3, q5]

set_option maxRecDepth 100000 in
theorem r7 (a : Act) (w : World) {gt L : Nat} {t1 : ByteArray} (e144 : a.tmps.getD 144 undef = .pointer (some ⟨gt, L, none⟩)) (c1 : w.cell? ⟨gt, L, none⟩ = some (.string t1)) : (execOp a.eval (ops23[7]'(by decide))).run Tryz.prog w = .ok (.value (.string t1)) w := by
  show (execOp a.eval { dst := some 145, op := Op.load 9 (Operand.tmp 144), type := _, pos := _, after := _, guard := _ }).run Tryz.prog w = _
  simp [execOp, Act.eval, go_sem, e144, c1]

set_option maxRecDepth 100000 in
theorem r8 (a : Act) (w : World) {gl cl N : Nat} (e5 : a.tmps.getD 5 undef = .slice (some ⟨gl, 0, none⟩) N cl) : (execOp a.eval (ops23[8]'(by decide))).run Tryz.prog w = .ok (.value (.slice (some ⟨gl, 0, none⟩) N cl)) w := by
  show (execOp a.eval { dst := some 146, op := Op.move (Operand.tmp 5), type := _, pos := _, after := _, guard := _ }).run Tryz.prog w = _
  simp [execOp, Act.eval, go_sem, e5]

set_option maxRecDepth 100000 in
theorem r9 (a : Act) (w : World) {N : Nat} (e7 : a.tmps.getD 7 undef = .int .i64 N) : (execOp a.eval (ops23[9]'(by decide))).run Tryz.prog w = .ok (.value (.int .i64 N)) w := by
  show (execOp a.eval { dst := some 147, op := Op.move (Operand.tmp 7), type := _, pos := _, after := _, guard := _ }).run Tryz.prog w = _
  simp [execOp, Act.eval, go_sem, e7]

set_option maxRecDepth 100000 in
theorem r10 (a : Act) (w : World) {N L : Nat} (e147 : a.tmps.getD 147 undef = .int .i64 N) (q1 : (N : Int) - 2 = L) (p1 : IntKind.i64.wrap (L : Int) = L) : (execOp a.eval (ops23[10]'(by decide))).run Tryz.prog w = .ok (.value (.int .i64 L)) w := by
  show (execOp a.eval { dst := some 148, op := Op.binOp BinOp.sub 3 (Operand.tmp 147) (Operand.const (Value.int IntKind.i64 2)) 3, type := _, pos := _, after := _, guard := _ }).run Tryz.prog w = _
  simp [execOp, Act.eval, go_sem, e147, q1, p1]

set_option maxRecDepth 100000 in
theorem r11 (a : Act) (w : World) {gl cl N L : Nat} (e146 : a.tmps.getD 146 undef = .slice (some ⟨gl, 0, none⟩) N cl) (e148 : a.tmps.getD 148 undef = .int .i64 L) (q3 : (L : Int) < N) (q5 : L < N) : (execOp a.eval (ops23[11]'(by decide))).run Tryz.prog w = .ok (.value (.pointer (some ⟨gl, L, none⟩))) w := by
  show (execOp a.eval { dst := some 149, op := Op.indexAddr 32 (Operand.tmp 146) (Operand.tmp 148), type := _, pos := _, after := _, guard := _ }).run Tryz.prog w = _
  simp [execOp, Act.eval, go_sem, e146, e148, q3, q5]

set_option maxRecDepth 100000 in
theorem r12 (a : Act) (w : World) {gl L : Nat} {l1 : Int} (e149 : a.tmps.getD 149 undef = .pointer (some ⟨gl, L, none⟩)) (d1 : w.cell? ⟨gl, L, none⟩ = some (.int .i64 l1)) : (execOp a.eval (ops23[12]'(by decide))).run Tryz.prog w = .ok (.value (.int .i64 l1)) w := by
  show (execOp a.eval { dst := some 150, op := Op.load 3 (Operand.tmp 149), type := _, pos := _, after := _, guard := _ }).run Tryz.prog w = _
  simp [execOp, Act.eval, go_sem, e149, d1]

set_option maxRecDepth 100000 in
theorem r13 (a : Act) (w : World) {lv : Int} (e10 : a.tmps.getD 10 undef = .int .i64 lv) : (execOp a.eval (ops23[13]'(by decide))).run Tryz.prog w = .ok (.value (.int .i64 lv)) w := by
  show (execOp a.eval { dst := some 151, op := Op.move (Operand.tmp 10), type := _, pos := _, after := _, guard := _ }).run Tryz.prog w = _
  simp [execOp, Act.eval, go_sem, e10]

set_option maxRecDepth 100000 in
theorem r14 (a : Act) (w : World) {t1 : ByteArray} {l1 lv : Int} (e145 : a.tmps.getD 145 undef = .string t1) (e150 : a.tmps.getD 150 undef = .int .i64 l1) (e151 : a.tmps.getD 151 undef = .int .i64 lv) : (execOp a.eval (ops23[14]'(by decide))).run Tryz.prog w = .ok (.enter 98 #[.string t1, .int .i64 l1, .int .i64 lv]) w := by
  show (execOp a.eval { dst := some 152, op := Op.call { callee := Callee.value (Operand.func 98), args := #[Operand.tmp 145, Operand.tmp 150, Operand.tmp 151], argTypes := _ }, type := _, pos := _, after := _, guard := _ }).run Tryz.prog w = _
  simp [execOp, Act.eval, go_sem, e145, e150, e151, resolve, invoke]

set_option maxRecDepth 100000 in
theorem r15 (a : Act) (w : World)  : (execOp a.eval (ops23[15]'(by decide))).run Tryz.prog w = .ok (.enter 100 #[]) w := by
  show (execOp a.eval { dst := some 153, op := Op.call { callee := Callee.value (Operand.func 100), args := #[], argTypes := _ }, type := _, pos := _, after := _, guard := _ }).run Tryz.prog w = _
  simp [execOp, Act.eval, go_sem, resolve, invoke]

set_option maxRecDepth 100000 in
theorem r16 (a : Act) (w : World) {x : Nat} (e8 : a.tmps.getD 8 undef = .pointer (some ⟨x, 0, none⟩)) : (execOp a.eval (ops23[16]'(by decide))).run Tryz.prog w = .ok (.value (.pointer (some ⟨x, 0, none⟩))) w := by
  show (execOp a.eval { dst := some 154, op := Op.fieldAddr 38 (Operand.tmp 8) 0, type := _, pos := _, after := _, guard := _ }).run Tryz.prog w = _
  simp [execOp, Act.eval, go_sem, e8]

set_option maxRecDepth 100000 in
theorem r17 (a : Act) (w : World) {x k : Nat} (e154 : a.tmps.getD 154 undef = .pointer (some ⟨x, 0, none⟩)) (ck : w.cell? ⟨x, 0, none⟩ = some (.int .i64 k)) : (execOp a.eval (ops23[17]'(by decide))).run Tryz.prog w = .ok (.value (.int .i64 k)) w := by
  show (execOp a.eval { dst := some 155, op := Op.load 3 (Operand.tmp 154), type := _, pos := _, after := _, guard := _ }).run Tryz.prog w = _
  simp [execOp, Act.eval, go_sem, e154, ck]

set_option maxRecDepth 100000 in
theorem r18 (a : Act) (w : World) {q k : Nat} (e153 : a.tmps.getD 153 undef = .slice (some ⟨q, 0, none⟩) 14 14) (e155 : a.tmps.getD 155 undef = .int .i64 k) (hk14 : (k : Int) < 14) (hk14n : k < 14) : (execOp a.eval (ops23[18]'(by decide))).run Tryz.prog w = .ok (.value (.pointer (some ⟨q, k, none⟩))) w := by
  show (execOp a.eval { dst := some 156, op := Op.indexAddr 31 (Operand.tmp 153) (Operand.tmp 155), type := _, pos := _, after := _, guard := _ }).run Tryz.prog w = _
  simp [execOp, Act.eval, go_sem, e153, e155, hk14, hk14n]

set_option maxRecDepth 100000 in
theorem r19 (a : Act) (w : World) {q k : Nat} (e156 : a.tmps.getD 156 undef = .pointer (some ⟨q, k, none⟩)) (cs : w.cell? ⟨q, k, none⟩ = some (.string (sg k))) : (execOp a.eval (ops23[19]'(by decide))).run Tryz.prog w = .ok (.value (.string (sg k))) w := by
  show (execOp a.eval { dst := some 157, op := Op.load 9 (Operand.tmp 156), type := _, pos := _, after := _, guard := _ }).run Tryz.prog w = _
  simp [execOp, Act.eval, go_sem, e156, cs]

set_option maxRecDepth 100000 in
theorem r20 (a : Act) (w : World) {k : Nat} {t1 : ByteArray} {l1 lv : Int} (e152 : a.tmps.getD 152 undef = .string (boundM t1 l1 lv)) (e157 : a.tmps.getD 157 undef = .string (sg k)) (y1 : (boundM t1 l1 lv).size + (sg k).size ≤ 9223372036854775807) : (execOp a.eval (ops23[20]'(by decide))).run Tryz.prog w = .ok (.value (.string (boundM t1 l1 lv ++ sg k))) w := by
  show (execOp a.eval { dst := some 158, op := Op.binOp BinOp.add 9 (Operand.tmp 152) (Operand.tmp 157) 9, type := _, pos := _, after := _, guard := _ }).run Tryz.prog w = _
  simp [execOp, Act.eval, go_sem, e152, e157, y1]

set_option maxRecDepth 100000 in
theorem r21 (a : Act) (w : World) {gt ct N : Nat} (e4 : a.tmps.getD 4 undef = .slice (some ⟨gt, 0, none⟩) N ct) : (execOp a.eval (ops23[21]'(by decide))).run Tryz.prog w = .ok (.value (.slice (some ⟨gt, 0, none⟩) N ct)) w := by
  show (execOp a.eval { dst := some 159, op := Op.move (Operand.tmp 4), type := _, pos := _, after := _, guard := _ }).run Tryz.prog w = _
  simp [execOp, Act.eval, go_sem, e4]

set_option maxRecDepth 100000 in
theorem r22 (a : Act) (w : World) {N : Nat} (e7 : a.tmps.getD 7 undef = .int .i64 N) : (execOp a.eval (ops23[22]'(by decide))).run Tryz.prog w = .ok (.value (.int .i64 N)) w := by
  show (execOp a.eval { dst := some 160, op := Op.move (Operand.tmp 7), type := _, pos := _, after := _, guard := _ }).run Tryz.prog w = _
  simp [execOp, Act.eval, go_sem, e7]

set_option maxRecDepth 100000 in
theorem r23 (a : Act) (w : World) {N M : Nat} (e160 : a.tmps.getD 160 undef = .int .i64 N) (q2 : (N : Int) - 1 = M) (p2 : IntKind.i64.wrap (M : Int) = M) : (execOp a.eval (ops23[23]'(by decide))).run Tryz.prog w = .ok (.value (.int .i64 M)) w := by
  show (execOp a.eval { dst := some 161, op := Op.binOp BinOp.sub 3 (Operand.tmp 160) (Operand.const (Value.int IntKind.i64 1)) 3, type := _, pos := _, after := _, guard := _ }).run Tryz.prog w = _
  simp [execOp, Act.eval, go_sem, e160, q2, p2]

set_option maxRecDepth 100000 in
theorem r24 (a : Act) (w : World) {gt ct N M : Nat} (e159 : a.tmps.getD 159 undef = .slice (some ⟨gt, 0, none⟩) N ct) (e161 : a.tmps.getD 161 undef = .int .i64 M) (q4 : (M : Int) < N) (q6 : M < N) : (execOp a.eval (ops23[24]'(by decide))).run Tryz.prog w = .ok (.value (.pointer (some ⟨gt, M, none⟩))) w := by
  show (execOp a.eval { dst := some 162, op := Op.indexAddr 31 (Operand.tmp 159) (Operand.tmp 161), type := _, pos := _, after := _, guard := _ }).run Tryz.prog w = _
  simp [execOp, Act.eval, go_sem, e159, e161, q4, q6]

set_option maxRecDepth 100000 in
theorem r25 (a : Act) (w : World) {gt M : Nat} {t2 : ByteArray} (e162 : a.tmps.getD 162 undef = .pointer (some ⟨gt, M, none⟩)) (c2 : w.cell? ⟨gt, M, none⟩ = some (.string t2)) : (execOp a.eval (ops23[25]'(by decide))).run Tryz.prog w = .ok (.value (.string t2)) w := by
  show (execOp a.eval { dst := some 163, op := Op.load 9 (Operand.tmp 162), type := _, pos := _, after := _, guard := _ }).run Tryz.prog w = _
  simp [execOp, Act.eval, go_sem, e162, c2]

set_option maxRecDepth 100000 in
theorem r26 (a : Act) (w : World) {gl cl N : Nat} (e5 : a.tmps.getD 5 undef = .slice (some ⟨gl, 0, none⟩) N cl) : (execOp a.eval (ops23[26]'(by decide))).run Tryz.prog w = .ok (.value (.slice (some ⟨gl, 0, none⟩) N cl)) w := by
  show (execOp a.eval { dst := some 164, op := Op.move (Operand.tmp 5), type := _, pos := _, after := _, guard := _ }).run Tryz.prog w = _
  simp [execOp, Act.eval, go_sem, e5]

set_option maxRecDepth 100000 in
theorem r27 (a : Act) (w : World) {N : Nat} (e7 : a.tmps.getD 7 undef = .int .i64 N) : (execOp a.eval (ops23[27]'(by decide))).run Tryz.prog w = .ok (.value (.int .i64 N)) w := by
  show (execOp a.eval { dst := some 165, op := Op.move (Operand.tmp 7), type := _, pos := _, after := _, guard := _ }).run Tryz.prog w = _
  simp [execOp, Act.eval, go_sem, e7]

set_option maxRecDepth 100000 in
theorem r28 (a : Act) (w : World) {N M : Nat} (e165 : a.tmps.getD 165 undef = .int .i64 N) (q2 : (N : Int) - 1 = M) (p2 : IntKind.i64.wrap (M : Int) = M) : (execOp a.eval (ops23[28]'(by decide))).run Tryz.prog w = .ok (.value (.int .i64 M)) w := by
  show (execOp a.eval { dst := some 166, op := Op.binOp BinOp.sub 3 (Operand.tmp 165) (Operand.const (Value.int IntKind.i64 1)) 3, type := _, pos := _, after := _, guard := _ }).run Tryz.prog w = _
  simp [execOp, Act.eval, go_sem, e165, q2, p2]

set_option maxRecDepth 100000 in
theorem r29 (a : Act) (w : World) {gl cl N M : Nat} (e164 : a.tmps.getD 164 undef = .slice (some ⟨gl, 0, none⟩) N cl) (e166 : a.tmps.getD 166 undef = .int .i64 M) (q4 : (M : Int) < N) (q6 : M < N) : (execOp a.eval (ops23[29]'(by decide))).run Tryz.prog w = .ok (.value (.pointer (some ⟨gl, M, none⟩))) w := by
  show (execOp a.eval { dst := some 167, op := Op.indexAddr 32 (Operand.tmp 164) (Operand.tmp 166), type := _, pos := _, after := _, guard := _ }).run Tryz.prog w = _
  simp [execOp, Act.eval, go_sem, e164, e166, q4, q6]

set_option maxRecDepth 100000 in
theorem r30 (a : Act) (w : World) {gl M : Nat} {l2 : Int} (e167 : a.tmps.getD 167 undef = .pointer (some ⟨gl, M, none⟩)) (d2 : w.cell? ⟨gl, M, none⟩ = some (.int .i64 l2)) : (execOp a.eval (ops23[30]'(by decide))).run Tryz.prog w = .ok (.value (.int .i64 l2)) w := by
  show (execOp a.eval { dst := some 168, op := Op.load 3 (Operand.tmp 167), type := _, pos := _, after := _, guard := _ }).run Tryz.prog w = _
  simp [execOp, Act.eval, go_sem, e167, d2]

set_option maxRecDepth 100000 in
theorem r31 (a : Act) (w : World) {lv : Int} (e10 : a.tmps.getD 10 undef = .int .i64 lv) : (execOp a.eval (ops23[31]'(by decide))).run Tryz.prog w = .ok (.value (.int .i64 lv)) w := by
  show (execOp a.eval { dst := some 169, op := Op.move (Operand.tmp 10), type := _, pos := _, after := _, guard := _ }).run Tryz.prog w = _
  simp [execOp, Act.eval, go_sem, e10]

set_option maxRecDepth 100000 in
theorem r32 (a : Act) (w : World) {lv : Int} (e169 : a.tmps.getD 169 undef = .int .i64 lv) (p3 : IntKind.i64.wrap (lv + 1) = lv + 1) : (execOp a.eval (ops23[32]'(by decide))).run Tryz.prog w = .ok (.value (.int .i64 (lv + 1))) w := by
  show (execOp a.eval { dst := some 170, op := Op.binOp BinOp.add 3 (Operand.tmp 169) (Operand.const (Value.int IntKind.i64 1)) 3, type := _, pos := _, after := _, guard := _ }).run Tryz.prog w = _
  simp [execOp, Act.eval, go_sem, e169, p3]

set_option maxRecDepth 100000 in
theorem r33 (a : Act) (w : World) {t2 : ByteArray} {l2 lv : Int} (e163 : a.tmps.getD 163 undef = .string t2) (e168 : a.tmps.getD 168 undef = .int .i64 l2) (e170 : a.tmps.getD 170 undef = .int .i64 (lv + 1)) : (execOp a.eval (ops23[33]'(by decide))).run Tryz.prog w = .ok (.enter 98 #[.string t2, .int .i64 l2, .int .i64 (lv + 1)]) w := by
  show (execOp a.eval { dst := some 171, op := Op.call { callee := Callee.value (Operand.func 98), args := #[Operand.tmp 163, Operand.tmp 168, Operand.tmp 170], argTypes := _ }, type := _, pos := _, after := _, guard := _ }).run Tryz.prog w = _
  simp [execOp, Act.eval, go_sem, e163, e168, e170, resolve, invoke]

set_option maxRecDepth 100000 in
theorem r34 (a : Act) (w : World) {k : Nat} {t1 t2 : ByteArray} {l1 l2 lv : Int} (e158 : a.tmps.getD 158 undef = .string (boundM t1 l1 lv ++ sg k)) (e171 : a.tmps.getD 171 undef = .string (boundM t2 l2 (lv + 1))) (y2 : (boundM t1 l1 lv).size + (sg k).size + (boundM t2 l2 (lv + 1)).size ≤ 9223372036854775807) : (execOp a.eval (ops23[34]'(by decide))).run Tryz.prog w = .ok (.value (.string (boundM t1 l1 lv ++ sg k ++ boundM t2 l2 (lv + 1)))) w := by
  show (execOp a.eval { dst := some 172, op := Op.binOp BinOp.add 9 (Operand.tmp 158) (Operand.tmp 171) 9, type := _, pos := _, after := _, guard := _ }).run Tryz.prog w = _
  simp [execOp, Act.eval, go_sem, e158, e171, y2]

set_option maxRecDepth 100000 in
theorem r35 (a : Act) (w : World) {gt ct N L : Nat} (e138 : a.tmps.getD 138 undef = .slice (some ⟨gt, 0, none⟩) N ct) (e140 : a.tmps.getD 140 undef = .int .i64 L) (q3 : (L : Int) < N) (q5 : L < N) : (execOp a.eval (ops23[35]'(by decide))).run Tryz.prog w = .ok (.value (.pointer (some ⟨gt, L, none⟩))) w := by
  show (execOp a.eval { dst := some 173, op := Op.indexAddr 31 (Operand.tmp 138) (Operand.tmp 140), type := _, pos := _, after := _, guard := _ }).run Tryz.prog w = _
  simp [execOp, Act.eval, go_sem, e138, e140, q3, q5]

set_option maxRecDepth 100000 in
theorem r36 (a : Act) (w : World) {gt L : Nat} {y t0 : ByteArray} (e172 : a.tmps.getD 172 undef = .string y) (e173 : a.tmps.getD 173 undef = .pointer (some ⟨gt, L, none⟩)) (c1 : w.cell? ⟨gt, L, none⟩ = some (.string t0)) (fz : w.frozen? ⟨gt, L, none⟩ = false) :
    (execOp a.eval (ops23[36]'(by decide))).run Tryz.prog w = .ok .skip (w.setCell ⟨gt, L, none⟩ (.string y)) := by
  show (execOp a.eval { dst := none, op := Op.store 9 (Operand.tmp 173) (Operand.tmp 172), type := _, pos := _, after := _, guard := _ }).run Tryz.prog w = _
  simp [execOp, Act.eval, go_sem, e172, e173, c1, fz]

set_option maxHeartbeats 1600000 in
set_option maxRecDepth 100000 in
theorem region23 (Q : Exit → Act → World → Prop) (a0 : Act) (w : World) (gt ct gl cl N L M x k : Nat) (t1 t2 : ByteArray) (l1 l2 lv : Int)
    (hz : a0.tmps.size = 193) (s4 : a0.tmps.getD 4 undef = .slice (some ⟨gt, 0, none⟩) N ct) (s5 : a0.tmps.getD 5 undef = .slice (some ⟨gl, 0, none⟩) N cl) (s7 : a0.tmps.getD 7 undef = .int .i64 N)
    (s8 : a0.tmps.getD 8 undef = .pointer (some ⟨x, 0, none⟩)) (s10 : a0.tmps.getD 10 undef = .int .i64 lv) (hN : N = L + 2) (hM : M = L + 1) (hN24 : N ≤ 24) (hlv : 1 ≤ lv ∧ lv ≤ 5) (hk : 5 ≤ k ∧ k ≤ 13) (z1 : t1.size ≤ 1000) (z2 : t2.size ≤ 1000)
    (c1 : w.cell? ⟨gt, L, none⟩ = some (.string t1)) (c2 : w.cell? ⟨gt, M, none⟩ = some (.string t2)) (d1 : w.cell? ⟨gl, L, none⟩ = some (.int .i64 l1)) (d2 : w.cell? ⟨gl, M, none⟩ = some (.int .i64 l2))
    (ck : w.cell? ⟨x, 0, none⟩ = some (.int .i64 k)) (fz : w.frozen? ⟨gt, L, none⟩ = false)
    (hQ : ∀ w1, Below w.heap.size w w1 → Q .normal (putL ops23 (val23 gt ct gl cl N L M w.heap.size x k t1 t2 l1 l2 lv) (Array.replicate 37 true) a0 37) (w1.setCell ⟨gt, L, none⟩ (.string (boundM t1 l1 lv ++ sg k ++ boundM t2 l2 (lv + 1))))) :
    (Code.region 23 ops23 true).wp Tryz.prog Q a0 w := by
  have b1 : gt < w.heap.size := World.block_lt_of_cell? w _ c1
  have b2 : gl < w.heap.size := World.block_lt_of_cell? w _ d1
  have b3 : x < w.heap.size := World.block_lt_of_cell? w _ ck
  have hbs1 := bound_size t1 l1 lv
  have hbs2 := bound_size t2 l2 (lv + 1)
  have hsg := sg_size k
  have q1 : (N : Int) - 2 = L := by omega
  have q2 : (N : Int) - 1 = M := by omega
  have q3 : (L : Int) < N := by omega
  have q4 : (M : Int) < N := by omega
  have q5 : L < N := by omega
  have q6 : M < N := by omega
  have p1 : IntKind.i64.wrap (L : Int) = L := IntWalk.i64_in _ ⟨by omega, by omega⟩
  have p2 : IntKind.i64.wrap (M : Int) = M := IntWalk.i64_in _ ⟨by omega, by omega⟩
  have p3 : IntKind.i64.wrap (lv + 1) = lv + 1 := IntWalk.i64_in _ ⟨by omega, by omega⟩
  have hk14 : (k : Int) < 14 := by omega
  have hk14n : k < 14 := by omega
  have y1 : (boundM t1 l1 lv).size + (sg k).size ≤ 9223372036854775807 := by omega
  have y2 : (boundM t1 l1 lv).size + (sg k).size + (boundM t2 l2 (lv + 1)).size ≤ 9223372036854775807 := by omega
  obtain ⟨V, hV⟩ : ∃ V, val23 gt ct gl cl N L M w.heap.size x k t1 t2 l1 l2 lv = V := ⟨_, rfl⟩
  rw [hV] at hQ
  refine wp_region_any (by kernel_rfl) ?_
  change wpAny Tryz.prog .any ops23 Q 37 (Array.replicate 37 false) a0 w.drew
  refine wpAny_inv (ops := ops23) (J V a0 w.drew ⟨gt, L, none⟩ (.string (boundM t1 l1 lv ++ sg k ++ boundM t2 l2 (lv + 1)))) (fun _ _ _ h => h.size.trans (by decide)) ?_ ?_ _ _ _ _ (by decide +kernel) (J.start _ _ _ _ _)
  · intro listed a w' i h hi
    obtain ⟨hi1, hi2, hi3⟩ := ready_mem hi
    have hi1 : i < 37 := hi1
    have g := h.get hz
    have gb := h.base
    rcases Nat.lt_or_ge i 36 with hi36 | hi36
    · have hu := h.undone hi36 hi2
      have hb := h.bel hu
      have cc : ∀ b o v, b < w.heap.size → w.cell? ⟨b, o, none⟩ = some v → w'.cell? ⟨b, o, none⟩ = some v := fun b o v h1 h2 => (hb.cell (p := ⟨b, o, none⟩) h1).trans h2
      have hcase : i = 0 ∨ i = 1 ∨ i = 2 ∨ i = 3 ∨ i = 4 ∨ i = 5 ∨ i = 6 ∨ i = 7 ∨ i = 8 ∨ i = 9 ∨ i = 10 ∨ i = 11 ∨ i = 12 ∨ i = 13 ∨ i = 14 ∨ i = 15 ∨ i = 16 ∨ i = 17 ∨ i = 18 ∨ i = 19 ∨ i = 20 ∨ i = 21 ∨ i = 22 ∨ i = 23 ∨ i = 24 ∨ i = 25 ∨ i = 26 ∨ i = 27 ∨ i = 28 ∨ i = 29 ∨ i = 30 ∨ i = 31 ∨ i = 32 ∨ i = 33 ∨ i = 34 ∨ i = 35 := by omega
      rcases hcase with rfl | rfl | rfl | rfl | rfl | rfl | rfl | rfl | rfl | rfl | rfl | rfl | rfl | rfl | rfl | rfl | rfl | rfl | rfl | rfl | rfl | rfl | rfl | rfl | rfl | rfl | rfl | rfl | rfl | rfl | rfl | rfl | rfl | rfl | rfl | rfl
      · have pl := h.plain (i := 0) (by decide) (by decide) hi2 (fun e => absurd e (by decide))
        have hv : V 0 = .slice (some ⟨gt, 0, none⟩) N ct := by rw [← hV]; rfl
        rw [hv] at pl
        exact val_at (n := 0) (by decide) rfl (r0 a w' ((gb 4 (by decide)).trans s4)) pl
      · have pl := h.plain (i := 1) (by decide) (by decide) hi2 (fun e => absurd e (by decide))
        have hv : V 1 = .int .i64 N := by rw [← hV]; rfl
        rw [hv] at pl
        exact val_at (n := 1) (by decide) rfl (r1 a w' ((gb 7 (by decide)).trans s7)) pl
      · have e139 : a.tmps.getD 139 undef = .int .i64 N := (g 1 (by decide) (dep23 hi3 (by decide +kernel))).trans (by rw [← hV]; rfl)
        have pl := h.plain (i := 2) (by decide) (by decide) hi2 (fun e => absurd e (by decide))
        have hv : V 2 = .int .i64 L := by rw [← hV]; rfl
        rw [hv] at pl
        exact val_at (n := 2) (by decide) rfl (r2 a w' e139 q1 p1) pl
      · have pl := h.plain (i := 3) (by decide) (by decide) hi2 (fun e => absurd e (by decide))
        have hv : V 3 = .slice (some ⟨gt, 0, none⟩) N ct := by rw [← hV]; rfl
        rw [hv] at pl
        exact val_at (n := 3) (by decide) rfl (r3 a w' ((gb 4 (by decide)).trans s4)) pl
      · have pl := h.plain (i := 4) (by decide) (by decide) hi2 (fun e => absurd e (by decide))
        have hv : V 4 = .int .i64 N := by rw [← hV]; rfl
        rw [hv] at pl
        exact val_at (n := 4) (by decide) rfl (r4 a w' ((gb 7 (by decide)).trans s7)) pl
      · have e142 : a.tmps.getD 142 undef = .int .i64 N := (g 4 (by decide) (dep23 hi3 (by decide +kernel))).trans (by rw [← hV]; rfl)
        have pl := h.plain (i := 5) (by decide) (by decide) hi2 (fun e => absurd e (by decide))
        have hv : V 5 = .int .i64 L := by rw [← hV]; rfl
        rw [hv] at pl
        exact val_at (n := 5) (by decide) rfl (r5 a w' e142 q1 p1) pl
      · have e141 : a.tmps.getD 141 undef = .slice (some ⟨gt, 0, none⟩) N ct := (g 3 (by decide) (dep23 hi3 (by decide +kernel))).trans (by rw [← hV]; rfl)
        have e143 : a.tmps.getD 143 undef = .int .i64 L := (g 5 (by decide) (dep23 hi3 (by decide +kernel))).trans (by rw [← hV]; rfl)
        have pl := h.plain (i := 6) (by decide) (by decide) hi2 (fun e => absurd e (by decide))
        have hv : V 6 = .pointer (some ⟨gt, L, none⟩) := by rw [← hV]; rfl
        rw [hv] at pl
        exact val_at (n := 6) (by decide) rfl (r6 a w' e141 e143 q3 q5) pl
      · have e144 : a.tmps.getD 144 undef = .pointer (some ⟨gt, L, none⟩) := (g 6 (by decide) (dep23 hi3 (by decide +kernel))).trans (by rw [← hV]; rfl)
        have pl := h.plain (i := 7) (by decide) (by decide) hi2 (fun e => absurd e (by decide))
        have hv : V 7 = .string t1 := by rw [← hV]; rfl
        rw [hv] at pl
        exact val_at (n := 7) (by decide) rfl (r7 a w' e144 (cc _ _ _ b1 c1)) pl
      · have pl := h.plain (i := 8) (by decide) (by decide) hi2 (fun e => absurd e (by decide))
        have hv : V 8 = .slice (some ⟨gl, 0, none⟩) N cl := by rw [← hV]; rfl
        rw [hv] at pl
        exact val_at (n := 8) (by decide) rfl (r8 a w' ((gb 5 (by decide)).trans s5)) pl
      · have pl := h.plain (i := 9) (by decide) (by decide) hi2 (fun e => absurd e (by decide))
        have hv : V 9 = .int .i64 N := by rw [← hV]; rfl
        rw [hv] at pl
        exact val_at (n := 9) (by decide) rfl (r9 a w' ((gb 7 (by decide)).trans s7)) pl
      · have e147 : a.tmps.getD 147 undef = .int .i64 N := (g 9 (by decide) (dep23 hi3 (by decide +kernel))).trans (by rw [← hV]; rfl)
        have pl := h.plain (i := 10) (by decide) (by decide) hi2 (fun e => absurd e (by decide))
        have hv : V 10 = .int .i64 L := by rw [← hV]; rfl
        rw [hv] at pl
        exact val_at (n := 10) (by decide) rfl (r10 a w' e147 q1 p1) pl
      · have e146 : a.tmps.getD 146 undef = .slice (some ⟨gl, 0, none⟩) N cl := (g 8 (by decide) (dep23 hi3 (by decide +kernel))).trans (by rw [← hV]; rfl)
        have e148 : a.tmps.getD 148 undef = .int .i64 L := (g 10 (by decide) (dep23 hi3 (by decide +kernel))).trans (by rw [← hV]; rfl)
        have pl := h.plain (i := 11) (by decide) (by decide) hi2 (fun e => absurd e (by decide))
        have hv : V 11 = .pointer (some ⟨gl, L, none⟩) := by rw [← hV]; rfl
        rw [hv] at pl
        exact val_at (n := 11) (by decide) rfl (r11 a w' e146 e148 q3 q5) pl
      · have e149 : a.tmps.getD 149 undef = .pointer (some ⟨gl, L, none⟩) := (g 11 (by decide) (dep23 hi3 (by decide +kernel))).trans (by rw [← hV]; rfl)
        have pl := h.plain (i := 12) (by decide) (by decide) hi2 (fun e => absurd e (by decide))
        have hv : V 12 = .int .i64 l1 := by rw [← hV]; rfl
        rw [hv] at pl
        exact val_at (n := 12) (by decide) rfl (r12 a w' e149 (cc _ _ _ b2 d1)) pl
      · have pl := h.plain (i := 13) (by decide) (by decide) hi2 (fun e => absurd e (by decide))
        have hv : V 13 = .int .i64 lv := by rw [← hV]; rfl
        rw [hv] at pl
        exact val_at (n := 13) (by decide) rfl (r13 a w' ((gb 10 (by decide)).trans s10)) pl
      · have e145 : a.tmps.getD 145 undef = .string t1 := (g 7 (by decide) (dep23 hi3 (by decide +kernel))).trans (by rw [← hV]; rfl)
        have e150 : a.tmps.getD 150 undef = .int .i64 l1 := (g 12 (by decide) (dep23 hi3 (by decide +kernel))).trans (by rw [← hV]; rfl)
        have e151 : a.tmps.getD 151 undef = .int .i64 lv := (g 13 (by decide) (dep23 hi3 (by decide +kernel))).trans (by rw [← hV]; rfl)
        have pl := h.plain (i := 14) (by decide) (by decide) hi2 (fun e => absurd e (by decide))
        have hv : V 14 = .string (boundM t1 l1 lv) := by rw [← hV]; rfl
        rw [hv] at pl
        refine call_at (n := 14) (by decide) rfl (r14 a w' e145 e150 e151) ((l1Bound_any t1 l1 lv w' (by omega)).mono ?_)
        rintro e w1 ⟨rfl, hw1⟩
        rw [hw1]
        exact ⟨_, rfl, pl⟩
      · have h15 : listed.getD 15 false = false := by have hlt : 15 < listed.size := (by rw [h.size]; decide); have h0 : listed[15] = false := (by simpa [Array.getD, hlt] using hi2); simp [Array.getD, hlt, h0]
        obtain rfl := h.w0 h15 hu
        have hv15 : V 15 = .slice (some ⟨w.heap.size, 0, none⟩) 14 14 := by rw [← hV]; rfl
        refine call_at (n := 15) (by decide) rfl (r15 a w.drew) ((l1Signs_any w.drew).mono ?_)
        rintro e w1 ⟨rfl, hb1, hlt1, hc1⟩
        refine ⟨_, rfl, ?_⟩
        have this := h.signs hi2 (w1 := w1) hb1 hc1
        rw [hv15] at this
        exact this
      · have pl := h.plain (i := 16) (by decide) (by decide) hi2 (fun e => absurd e (by decide))
        have hv : V 16 = .pointer (some ⟨x, 0, none⟩) := by rw [← hV]; rfl
        rw [hv] at pl
        exact val_at (n := 16) (by decide) rfl (r16 a w' ((gb 8 (by decide)).trans s8)) pl
      · have e154 : a.tmps.getD 154 undef = .pointer (some ⟨x, 0, none⟩) := (g 16 (by decide) (dep23 hi3 (by decide +kernel))).trans (by rw [← hV]; rfl)
        have pl := h.plain (i := 17) (by decide) (by decide) hi2 (fun e => absurd e (by decide))
        have hv : V 17 = .int .i64 k := by rw [← hV]; rfl
        rw [hv] at pl
        exact val_at (n := 17) (by decide) rfl (r17 a w' e154 (cc _ _ _ b3 ck)) pl
      · have e153 : a.tmps.getD 153 undef = .slice (some ⟨w.heap.size, 0, none⟩) 14 14 := (g 15 (by decide) (dep23 hi3 (by decide +kernel))).trans (by rw [← hV]; rfl)
        have e155 : a.tmps.getD 155 undef = .int .i64 k := (g 17 (by decide) (dep23 hi3 (by decide +kernel))).trans (by rw [← hV]; rfl)
        have pl := h.plain (i := 18) (by decide) (by decide) hi2 (fun _ => dep23 hi3 (by decide +kernel))
        have hv : V 18 = .pointer (some ⟨w.heap.size, k, none⟩) := by rw [← hV]; rfl
        rw [hv] at pl
        exact val_at (n := 18) (by decide) rfl (r18 a w' e153 e155 hk14 hk14n) pl
      · have e156 : a.tmps.getD 156 undef = .pointer (some ⟨w.heap.size, k, none⟩) := (g 18 (by decide) (dep23 hi3 (by decide +kernel))).trans (by rw [← hV]; rfl)
        have pl := h.plain (i := 19) (by decide) (by decide) hi2 (fun e => absurd e (by decide))
        have hv : V 19 = .string (sg k) := by rw [← hV]; rfl
        rw [hv] at pl
        have h15 : listed.getD 15 false = true := h.sgn (dep23 hi3 (by decide +kernel))
        have hcs := (h.w1 h15 hu).2 k hk14n
        exact val_at (n := 19) (by decide) rfl (r19 a w' e156 hcs) pl
      · have e152 : a.tmps.getD 152 undef = .string (boundM t1 l1 lv) := (g 14 (by decide) (dep23 hi3 (by decide +kernel))).trans (by rw [← hV]; rfl)
        have e157 : a.tmps.getD 157 undef = .string (sg k) := (g 19 (by decide) (dep23 hi3 (by decide +kernel))).trans (by rw [← hV]; rfl)
        have pl := h.plain (i := 20) (by decide) (by decide) hi2 (fun e => absurd e (by decide))
        have hv : V 20 = .string (boundM t1 l1 lv ++ sg k) := by rw [← hV]; rfl
        rw [hv] at pl
        exact val_at (n := 20) (by decide) rfl (r20 a w' e152 e157 y1) pl
      · have pl := h.plain (i := 21) (by decide) (by decide) hi2 (fun e => absurd e (by decide))
        have hv : V 21 = .slice (some ⟨gt, 0, none⟩) N ct := by rw [← hV]; rfl
        rw [hv] at pl
        exact val_at (n := 21) (by decide) rfl (r21 a w' ((gb 4 (by decide)).trans s4)) pl
      · have pl := h.plain (i := 22) (by decide) (by decide) hi2 (fun e => absurd e (by decide))
        have hv : V 22 = .int .i64 N := by rw [← hV]; rfl
        rw [hv] at pl
        exact val_at (n := 22) (by decide) rfl (r22 a w' ((gb 7 (by decide)).trans s7)) pl
      · have e160 : a.tmps.getD 160 undef = .int .i64 N := (g 22 (by decide) (dep23 hi3 (by decide +kernel))).trans (by rw [← hV]; rfl)
        have pl := h.plain (i := 23) (by decide) (by decide) hi2 (fun e => absurd e (by decide))
        have hv : V 23 = .int .i64 M := by rw [← hV]; rfl
        rw [hv] at pl
        exact val_at (n := 23) (by decide) rfl (r23 a w' e160 q2 p2) pl
      · have e159 : a.tmps.getD 159 undef = .slice (some ⟨gt, 0, none⟩) N ct := (g 21 (by decide) (dep23 hi3 (by decide +kernel))).trans (by rw [← hV]; rfl)
        have e161 : a.tmps.getD 161 undef = .int .i64 M := (g 23 (by decide) (dep23 hi3 (by decide +kernel))).trans (by rw [← hV]; rfl)
        have pl := h.plain (i := 24) (by decide) (by decide) hi2 (fun e => absurd e (by decide))
        have hv : V 24 = .pointer (some ⟨gt, M, none⟩) := by rw [← hV]; rfl
        rw [hv] at pl
        exact val_at (n := 24) (by decide) rfl (r24 a w' e159 e161 q4 q6) pl
      · have e162 : a.tmps.getD 162 undef = .pointer (some ⟨gt, M, none⟩) := (g 24 (by decide) (dep23 hi3 (by decide +kernel))).trans (by rw [← hV]; rfl)
        have pl := h.plain (i := 25) (by decide) (by decide) hi2 (fun e => absurd e (by decide))
        have hv : V 25 = .string t2 := by rw [← hV]; rfl
        rw [hv] at pl
        exact val_at (n := 25) (by decide) rfl (r25 a w' e162 (cc _ _ _ b1 c2)) pl
      · have pl := h.plain (i := 26) (by decide) (by decide) hi2 (fun e => absurd e (by decide))
        have hv : V 26 = .slice (some ⟨gl, 0, none⟩) N cl := by rw [← hV]; rfl
        rw [hv] at pl
        exact val_at (n := 26) (by decide) rfl (r26 a w' ((gb 5 (by decide)).trans s5)) pl
      · have pl := h.plain (i := 27) (by decide) (by decide) hi2 (fun e => absurd e (by decide))
        have hv : V 27 = .int .i64 N := by rw [← hV]; rfl
        rw [hv] at pl
        exact val_at (n := 27) (by decide) rfl (r27 a w' ((gb 7 (by decide)).trans s7)) pl
      · have e165 : a.tmps.getD 165 undef = .int .i64 N := (g 27 (by decide) (dep23 hi3 (by decide +kernel))).trans (by rw [← hV]; rfl)
        have pl := h.plain (i := 28) (by decide) (by decide) hi2 (fun e => absurd e (by decide))
        have hv : V 28 = .int .i64 M := by rw [← hV]; rfl
        rw [hv] at pl
        exact val_at (n := 28) (by decide) rfl (r28 a w' e165 q2 p2) pl
      · have e164 : a.tmps.getD 164 undef = .slice (some ⟨gl, 0, none⟩) N cl := (g 26 (by decide) (dep23 hi3 (by decide +kernel))).trans (by rw [← hV]; rfl)
        have e166 : a.tmps.getD 166 undef = .int .i64 M := (g 28 (by decide) (dep23 hi3 (by decide +kernel))).trans (by rw [← hV]; rfl)
        have pl := h.plain (i := 29) (by decide) (by decide) hi2 (fun e => absurd e (by decide))
        have hv : V 29 = .pointer (some ⟨gl, M, none⟩) := by rw [← hV]; rfl
        rw [hv] at pl
        exact val_at (n := 29) (by decide) rfl (r29 a w' e164 e166 q4 q6) pl
      · have e167 : a.tmps.getD 167 undef = .pointer (some ⟨gl, M, none⟩) := (g 29 (by decide) (dep23 hi3 (by decide +kernel))).trans (by rw [← hV]; rfl)
        have pl := h.plain (i := 30) (by decide) (by decide) hi2 (fun e => absurd e (by decide))
        have hv : V 30 = .int .i64 l2 := by rw [← hV]; rfl
        rw [hv] at pl
        exact val_at (n := 30) (by decide) rfl (r30 a w' e167 (cc _ _ _ b2 d2)) pl
      · have pl := h.plain (i := 31) (by decide) (by decide) hi2 (fun e => absurd e (by decide))
        have hv : V 31 = .int .i64 lv := by rw [← hV]; rfl
        rw [hv] at pl
        exact val_at (n := 31) (by decide) rfl (r31 a w' ((gb 10 (by decide)).trans s10)) pl
      · have e169 : a.tmps.getD 169 undef = .int .i64 lv := (g 31 (by decide) (dep23 hi3 (by decide +kernel))).trans (by rw [← hV]; rfl)
        have pl := h.plain (i := 32) (by decide) (by decide) hi2 (fun e => absurd e (by decide))
        have hv : V 32 = .int .i64 (lv + 1) := by rw [← hV]; rfl
        rw [hv] at pl
        exact val_at (n := 32) (by decide) rfl (r32 a w' e169 p3) pl
      · have e163 : a.tmps.getD 163 undef = .string t2 := (g 25 (by decide) (dep23 hi3 (by decide +kernel))).trans (by rw [← hV]; rfl)
        have e168 : a.tmps.getD 168 undef = .int .i64 l2 := (g 30 (by decide) (dep23 hi3 (by decide +kernel))).trans (by rw [← hV]; rfl)
        have e170 : a.tmps.getD 170 undef = .int .i64 (lv + 1) := (g 32 (by decide) (dep23 hi3 (by decide +kernel))).trans (by rw [← hV]; rfl)
        have pl := h.plain (i := 33) (by decide) (by decide) hi2 (fun e => absurd e (by decide))
        have hv : V 33 = .string (boundM t2 l2 (lv + 1)) := by rw [← hV]; rfl
        rw [hv] at pl
        refine call_at (n := 33) (by decide) rfl (r33 a w' e163 e168 e170) ((l1Bound_any t2 l2 (lv + 1) w' (by omega)).mono ?_)
        rintro e w1 ⟨rfl, hw1⟩
        rw [hw1]
        exact ⟨_, rfl, pl⟩
      · have e158 : a.tmps.getD 158 undef = .string (boundM t1 l1 lv ++ sg k) := (g 20 (by decide) (dep23 hi3 (by decide +kernel))).trans (by rw [← hV]; rfl)
        have e171 : a.tmps.getD 171 undef = .string (boundM t2 l2 (lv + 1)) := (g 33 (by decide) (dep23 hi3 (by decide +kernel))).trans (by rw [← hV]; rfl)
        have pl := h.plain (i := 34) (by decide) (by decide) hi2 (fun e => absurd e (by decide))
        have hv : V 34 = .string (boundM t1 l1 lv ++ sg k ++ boundM t2 l2 (lv + 1)) := by rw [← hV]; rfl
        rw [hv] at pl
        exact val_at (n := 34) (by decide) rfl (r34 a w' e158 e171 y2) pl
      · have e138 : a.tmps.getD 138 undef = .slice (some ⟨gt, 0, none⟩) N ct := (g 0 (by decide) (dep23 hi3 (by decide +kernel))).trans (by rw [← hV]; rfl)
        have e140 : a.tmps.getD 140 undef = .int .i64 L := (g 2 (by decide) (dep23 hi3 (by decide +kernel))).trans (by rw [← hV]; rfl)
        have pl := h.plain (i := 35) (by decide) (by decide) hi2 (fun e => absurd e (by decide))
        have hv : V 35 = .pointer (some ⟨gt, L, none⟩) := by rw [← hV]; rfl
        rw [hv] at pl
        exact val_at (n := 35) (by decide) rfl (r35 a w' e138 e140 q3 q5) pl
    · have hi : i = 36 := by omega
      subst hi
      have hall : ∀ j, j < 36 → listed.getD j false = true := by
        have key : ∀ j : Fin 36, ((ops23[36]?).map fun o => o.after.any fun e => (e.on == j.val) && Region.binds .any e).getD false = true := by decide +kernel
        exact fun j hj => dep23 hi3 (key ⟨j, hj⟩)
      have hlt : 36 < listed.size := by rw [h.size]; decide
      have hu : listed.getD 36 false = false := by
        have : listed[36] = false := by simpa [Array.getD, hlt] using hi2
        simp [Array.getD, hlt, this]
      have hb := h.bel hu
      have e172 : a.tmps.getD 172 undef = .string (boundM t1 l1 lv ++ sg k ++ boundM t2 l2 (lv + 1)) := (g 34 (by decide) (hall 34 (by decide))).trans (by rw [← hV]; rfl)
      have e173 : a.tmps.getD 173 undef = .pointer (some ⟨gt, L, none⟩) := (g 35 (by decide) (hall 35 (by decide))).trans (by rw [← hV]; rfl)
      refine step_skip (ops23[36]'(by decide)) (Array.getElem?_eq_getElem _) rfl (r36 a w' e172 e173 ((hb.cell (p := ⟨gt, L, none⟩) b1).trans c1) ((hb.frozen (p := ⟨gt, L, none⟩) b1).trans fz)) ?_
      exact h.store hi2 hall
  · intro listed a w' h hr
    have hall : ∀ j, j < 37 → listed.getD j false = true := all_listed h.size back23 hr
    obtain ⟨w1, hb, hw⟩ := h.w2 (hall 36 (by decide))
    rw [hw, h.act, putL_congr 37 (l' := Array.replicate 37 true) (fun j hj => by rw [hall j hj]; simp [Array.getD_eq_getD_getElem?, hj])]
    exact hQ w1 ⟨hb.os, hb.tape, hb.output, hb.size, hb.block⟩
end Go.Proofs.YtbpfonmkbbnkcaaGreatDoor

/- The model's l1Show, walked. -/
namespace Go.Proofs.YtbpfonmkbbnkcaaGreatDoor
open Go.RowKit Go.PlainAid
set_option linter.unusedSimpArgs false
set_option linter.unusedVariables false

theorem infoStr : (Tryz.prog.info? 9).map (fun i => (i.zero, i.size, i.bytes)) = some (some (.string ByteArray.empty), 1, 16) := by kernel_rfl

theorem Two.mid {B : Nat} {W w1 : World} {gt ct gl cl : Nat} {stk : TL} {o1 : Obj} (h : Two B W gt ct gl cl stk) (hg1 : (W.alloc o1).grownBy w1 (some gt)) :
    w1.ownsRow B 3 1 (.slice (some ⟨gl, 0, none⟩) stk.length cl) stk.length (lvsOf stk) := by
  have hl := h.lt
  refine own_of_block h.l (fun g hg => ?_)
  have : g = gl := by simpa [Value.ownBlock] using hg.symm
  subst this
  exact (hg1.block g (by simp; omega) (fun e => h.ne (by simpa using e.symm))).trans (Below.heap_alloc _ _ _ hl.2.2)
theorem Two.push {B : Nat} {W w1 w2 : World} {gt ct gl cl g1 c1 g2 c2 : Nat} {stk : TL} {o1 o2 : Obj} {t : ByteArray} {lv : Int} (h : Two B W gt ct gl cl stk)
    (ho1 : w1.ownsRow B 9 1 (.slice (some ⟨g1, 0, none⟩) (stk.length + 1) c1) (stk.length + 1) (strsOf stk ++ [.string t])) (hg1 : (W.alloc o1).grownBy w1 (some gt)) (hat1 : some gt = some g1 ∨ g1 = W.heap.size + 1)
    (ho2 : w2.ownsRow B 3 1 (.slice (some ⟨g2, 0, none⟩) (stk.length + 1) c2) (stk.length + 1) (lvsOf stk ++ [.int .i64 lv])) (hg2 : (w1.alloc o2).grownBy w2 (some gl)) (hat2 : some gl = some g2 ∨ g2 = w1.heap.size + 1) :
    Two B w2 g1 c1 g2 c2 ((t, lv) :: stk) := by
  have hl := h.lt
  have hn := h.ne
  have hlt1 := (ho1.lt g1 rfl).2
  have hz : W.heap.size + 1 ≤ w1.heap.size := by simpa using hg1.size
  have hgl : g1 ≠ gl := by
    rcases hat1 with e | e
    · simp at e; omega
    · omega
  refine ⟨?_, ?_, ?_⟩
  · rw [strsOf_cons]
    refine own_of_block ho1 (fun g hg => ?_)
    have : g = g1 := by simpa [Value.ownBlock] using hg.symm
    subst this
    exact (hg2.block g (by simp; omega) (fun e => hgl (by simpa using e))).trans (Below.heap_alloc _ _ _ hlt1)
  · rw [lvsOf_cons]; exact ho2
  · rcases hat2 with e | e
    · simp at e; omega
    · omega
/-- what is below the base is as it was behind both -/
theorem push_below {B : Nat} {w W w1 w2 : World} {gt gl : Nat} {o1 o2 : Obj} (hb : Below B w W) (hB : B ≤ W.heap.size) (hgt : B ≤ gt) (hgl : B ≤ gl) (hg1 : (W.alloc o1).grownBy w1 (some gt)) (hg2 : (w1.alloc o2).grownBy w2 (some gl)) : Below B w w2 := by
  have h1 := (hb.alloc hB o1).grown hg1 (by simp; omega) (fun k hk => by simp at hk; omega)
  have h2 : B ≤ w1.heap.size := by have := hg1.size; simp at this; omega
  exact (h1.alloc h2 o2).grown hg2 (by simp; omega) (fun k hk => by simp at hk; omega)

theorem cap_of {B : Nat} {w : World} {e : TypeId} {g n c : Nat} {xs : List Value} (h : w.ownsRow B e 1 (.slice (some ⟨g, 0, none⟩) n c) n xs) : n ≤ c ∧ c ≤ maxLen := by
  rcases h.2 with ⟨h, _⟩ | ⟨g', cap', cur, h, _, _, h3, h4, _⟩
  · simp at h
  · simp at h; omega
set_option maxRecDepth 100000 in
theorem putAll23 (V : Nat → Value) (a0 : Act) : putL ops23 V (Array.replicate 37 true) a0 37 = ((((((((((((((((((((((((((((((((((((a0.put (some 138) (V 0)).put (some 139) (V 1)).put (some 140) (V 2)).put (some 141) (V 3)).put (some 142) (V 4)).put (some 143) (V 5)).put (some 144) (V 6)).put (some 145) (V 7)).put (some 146) (V 8)).put (some 147) (V 9)).put (some 148) (V 10)).put (some 149) (V 11)).put (some 150) (V 12)).put (some 151) (V 13)).put (some 152) (V 14)).put (some 153) (V 15)).put (some 154) (V 16)).put (some 155) (V 17)).put (some 156) (V 18)).put (some 157) (V 19)).put (some 158) (V 20)).put (some 159) (V 21)).put (some 160) (V 22)).put (some 161) (V 23)).put (some 162) (V 24)).put (some 163) (V 25)).put (some 164) (V 26)).put (some 165) (V 27)).put (some 166) (V 28)).put (some 167) (V 29)).put (some 168) (V 30)).put (some 169) (V 31)).put (some 170) (V 32)).put (some 171) (V 33)).put (some 172) (V 34)).put (some 173) (V 35)) := by
  simp only [putL, dst23]
  rfl
theorem lvl_in (k : Int) : 1 ≤ lvl k ∧ lvl k ≤ 5 := by
  unfold lvl
  repeat' split
  all_goals decide
theorem pair_none {c : Prop} [Decidable c] (x0 : Int) {stk : TL} (h : ¬ 1 < stk.length) : (if c then pairStk x0 stk else none) = none := by
  rcases stk with _ | ⟨s1, _ | ⟨s2, r⟩⟩
  · simp [pairStk]
  · simp [pairStk]
  · simp at h
def showRes (l : List Nd) : ByteArray × Bool := match showM l with | some t => (t, true) | none => (noName, false)
theorem showRes_no {l : List Nd} (h : showM l = none) : showRes l = (noName, false) := by unfold showRes; rw [h]

set_option maxHeartbeats 12800000 in
set_option maxRecDepth 100000 in
theorem l1Show_any (B0 : Nat) (a : Option Addr) (n cap : Nat) (l : List Nd) (w : World) (hn : n ≤ 24) (hB0 : B0 ≤ w.heap.size) (hsz : ∀ x ∈ l, x.2.2.size ≤ 1048576) (hz : IsNds B0 w a n l) :
    Calls Tryz.prog 70 #[.slice a n cap] w fun e w' => e = .returned (.tuple #[.string (showRes l).1, .bool (showRes l).2]) ∧ Below w.heap.size w w' := by
  obtain ⟨hlen, hcells⟩ := hz
  obtain ⟨i0, hi, hz0, hz1, hz2⟩ := info_parts infoInt'
  obtain ⟨j0, hj, hy0, hy1, hy2⟩ := info_parts infoStr
  obtain ⟨D, hD⟩ : ∃ D, showRes l = D := ⟨_, rfl⟩
  have HD : Hid (showRes l = D) := hD
  rw [hD]; clear hD
  go_enter Tryz.func70, Tryz.ntmps70
  go_wp2_with fail
  go_loopw [4, 5, 6] (fun v4 v5 i wr => ∃ (k gt ct gl cl : Nat) (stk : TL), k ≤ n ∧ i = .int .i64 k ∧ v4 = .slice (some ⟨gt, 0, none⟩) stk.length ct ∧ v5 = .slice (some ⟨gl, 0, none⟩) stk.length cl ∧
      Hid (showTo l k = some stk) ∧ Hid (Two w.heap.size wr gt ct gl cl stk) ∧ Below w.heap.size w wr) (fun _ _ i _ => n - (intOf i).toNat)
  case atStart =>
    refine ⟨0, w.heap.size, 0, w.heap.size + 1, 0, [], Nat.zero_le _, rfl, rfl, rfl, rfl, ⟨?_, ?_, by omega⟩, ((Below.refl _ _).alloc (Nat.le_refl _) _).alloc (by simp) _⟩
    · exact (World.ownsRow_made w #[] 0 (Nat.le_refl _) (Nat.zero_le _) rfl).alloc _
    · have := World.ownsRow_made (base := w.heap.size) (e := 3) (size := 1) (w.alloc (.cells #[] 9)) #[] 0 (by simp) (Nat.zero_le _) rfl
      simpa [lvsOf] using this
  case round =>
    obtain ⟨k, gt, ct, gl, cl, stk, hk, rfl, rfl, rfl, HT, HW, hbel⟩ := hrel
    obtain ⟨tot1, tot2⟩ := total_to HT.out
    obtain ⟨⟨m1, m2⟩, m3, m4⟩ := HW.out.lt
    have hwz := hbel.size
    by_cases hlt : k < n
    · rcases hcells with h0 | ⟨b, off, rfl, hb, hc⟩
      · omega
      have hkl : k < l.length := by omega
      obtain ⟨x0, x1, x2, hx⟩ : ∃ x0 x1 x2, l[k] = (x0, x1, x2) := ⟨_, _, _, rfl⟩
      have hcx := hc k hkl
      have hx2 : x2.size ≤ 1048576 := by have := hsz l[k] (List.getElem_mem hkl); rw [hx] at this; exact this
      rw [hx] at hcx
      have hbw : b < w.heap.size := by omega
      have p0 := (hbel.cell (p := ⟨b, off + k * 3, none⟩) hbw).trans hcx.1
      have p1 := (hbel.cell (p := ⟨b, off + k * 3 + 1, none⟩) hbw).trans hcx.2.1
      have p2 := (hbel.cell (p := ⟨b, off + k * 3 + 1 + 1, none⟩) hbw).trans hcx.2.2
      simp only at p0 p1 p2
      have hgd : l.getD k (0, 0, noName) = (x0, x1, x2) := by simp [hkl, hx]
      have hno : showStep (x0, x1, x2) stk = none → D = (noName, false) := fun hs => HD.out.symm.trans (showRes_no (showM_no HT.out hkl (by rw [hgd]; exact hs)))
      have hyes : ∀ st', showStep (x0, x1, x2) stk = some st' → showTo l (k + 1) = some st' := fun st' hs => by simp only [showTo, HT.out, hgd]; exact hs
      clear hc hcx hx hgd
      by_cases h1 : x0 = 1
      · subst h1
        cases hin : decide (0 ≤ x1 ∧ x1 ≤ 999999)
        · have HN : Hid (D = (noName, false)) := hno (by unfold showStep; rw [if_pos rfl, if_neg (by rintro ⟨h, _⟩; simp [h] at hin)])
          clear hno hyes
          go_wp2_with (first | (go_at_call 95; refine (l1In_any _ _ _ _).mono ?_; rintro e w' ⟨rfl, hw'⟩; rw [hw']; clear hw' w') | (go_at_call 97; refine (l1Name_any _ _ (by unfold maxLen; omega)).mono ?_; rintro e w' ⟨rfl, hw'⟩; rw [hw']; clear hw' w'))
          go_ret2
          exact ⟨by rw [HN.out]; rfl, hbel.alloc hwz _⟩
        · cases he : x2.toList.isEmpty
          · have HN : Hid (D = (noName, false)) := hno (by unfold showStep; rw [if_pos rfl, if_neg (by rintro ⟨_, h⟩; simp only [he] at h; cases h)])
            clear hno hyes
            go_wp2_with (first | (go_at_call 95; refine (l1In_any _ _ _ _).mono ?_; rintro e w' ⟨rfl, hw'⟩; rw [hw']; clear hw' w') | (go_at_call 97; refine (l1Name_any _ _ (by unfold maxLen; omega)).mono ?_; rintro e w' ⟨rfl, hw'⟩; rw [hw']; clear hw' w'))
            go_ret2
            exact ⟨by rw [HN.out]; rfl, hbel.alloc hwz _⟩
          · have hin2 : 0 ≤ x1 ∧ x1 ≤ 999999 := by simpa using hin
            have HY : Hid (showTo l (k + 1) = some ((decF 5 x1, 7) :: stk)) := hyes _ (by unfold showStep; rw [if_pos rfl, if_pos ⟨hin2, he⟩])
            have hds := decF_size 5 x1
            obtain ⟨dt, hdt⟩ : ∃ dt, decF 5 x1 = dt := ⟨_, rfl⟩
            have HDT : Hid (decF 5 x1 = dt) := hdt
            rw [hdt] at HY hds
            clear hno hyes hdt
            go_wp2_with (first | (go_at_call 95; refine (l1In_any _ _ _ _).mono ?_; rintro e w' ⟨rfl, hw'⟩; rw [hw']; clear hw' w') | (go_at_call 97; refine (l1Name_any _ _ (by unfold maxLen; omega)).mono ?_; rintro e w' ⟨rfl, hw'⟩; rw [hw']; clear hw' w'))
            refine (l1Dec_any 5 (by decide) x1 _ hin2.1 (by omega) hin2.2).mono ?_
            rw [HDT.out]
            rintro e w1 ⟨rfl, hb1⟩
            have HB1 : Hid (Below w.heap.size w w1) := (hbel.alloc hwz _).trans (hb1.mono (by simp; omega))
            have HW1 : Hid (Two w.heap.size w1 gt ct gl cl stk) := (HW.out.old ((Below.refl _ _).alloc (Nat.le_refl _) _)).old hb1
            have hz1w : w.heap.size ≤ w1.heap.size := HB1.out.size
            have hwz1 := hb1.size
            clear hb1
            go_wp2_with (at_builtin; refine wpList_append_lies _ rfl (.tmp 39) (.tmp 43) 31 rfl w.heap.size 9 j0 (.string ByteArray.empty) 1 16 Tryz.underlying31 hj hy0 hy1 hy2 rfl (by decide) _ _ _ rfl (World.ownsRow.alloc HW1.out.t _) ⟨w1.heap.size, 0, none⟩ 1 1 [.string dt] rfl rfl (by exact one_new' _ _ _ _ rfl) (by intro u hu; simp at hu; subst hu; rfl) (by decide) (by unfold maxLen; omega) (by omega) (by simp; omega) _ rfl ?_)
            intro g1 c1 w5 ho1 hg1 hat1 hl1
            have HG1 : Hid ((w1.alloc (.cells #[.string dt] 9)).grownBy w5 (some gt)) := hg1
            have HO1 : Hid (w5.ownsRow w.heap.size 9 1 (.slice (some ⟨g1, 0, none⟩) (stk.length + 1) c1) (stk.length + 1) (strsOf stk ++ [.string dt])) := ho1
            have HAT1 : Hid (some gt = some g1 ∨ g1 = w1.heap.size + 1) := by
              show _ ∨ _
              simpa [Value.ownBlock] using hat1
            have HL5 : Hid (w5.ownsRow w.heap.size 3 1 (.slice (some ⟨gl, 0, none⟩) stk.length cl) stk.length (lvsOf stk)) := HW1.out.mid HG1.out
            have hz5 : w.heap.size ≤ w5.heap.size := by have := hg1.size; simp at this; omega
            clear ho1 hg1 hat1 hl1
            go_wp2_with (at_builtin; refine wpList_append_lies _ rfl (.tmp 45) (.tmp 46) 32 rfl w.heap.size 3 i0 (.int .i64 0) 1 8 Tryz.underlying32 hi hz0 hz1 hz2 rfl (by decide) _ _ _ rfl (World.ownsRow.alloc HL5.out _) ⟨w5.heap.size, 0, none⟩ 1 1 [.int .i64 7] rfl rfl (by exact one_new' _ _ _ _ rfl) (by intro u hu; simp at hu; subst hu; rfl) (by decide) (by unfold maxLen; omega) (by omega) (by simp; omega) _ rfl ?_)
            intro g2 c2 w6 ho2 hg2 hat2 hl2
            have HG2 : Hid ((w5.alloc (.cells #[.int .i64 7] 3)).grownBy w6 (some gl)) := hg2
            have HW6 : Hid (Two w.heap.size w6 g1 c1 g2 c2 ((dt, 7) :: stk)) := HW1.out.push HO1.out HG1.out HAT1.out ho2 HG2.out (by simpa [Value.ownBlock] using hat2)
            have HB6 : Hid (Below w.heap.size w w6) := push_below HB1.out (by omega) m1 m3 HG1.out HG2.out
            clear ho2 hg2 hat2 hl2
            go_wp2_with fail
            go_roundw
            case rel => exact ⟨k + 1, g1, c1, g2, c2, (dt, 7) :: stk, by omega, by go_num, rfl, rfl, HY.out, HW6.out, HB6.out⟩
            case measure => simp [intOf]; omega
      have e1 : (x0 == 1) = false := by simp [h1]
      by_cases h2 : x0 = 2
      · subst h2
        cases hnm : nmB x2
        · have HN : Hid (D = (noName, false)) := hno (by unfold showStep; rw [if_neg h1, if_pos rfl, if_neg (by rintro ⟨h, _⟩; simp [h] at hnm)])
          clear hno hyes
          go_wp2_with (first | (go_at_call 95; refine (l1In_any _ _ _ _).mono ?_; rintro e w' ⟨rfl, hw'⟩; rw [hw']; clear hw' w') | (go_at_call 97; refine (l1Name_any _ _ (by unfold maxLen; omega)).mono ?_; rintro e w' ⟨rfl, hw'⟩; rw [hw']; clear hw' w'))
          go_ret2
          exact ⟨by rw [HN.out]; rfl, hbel.alloc hwz _⟩
        · by_cases hx1 : x1 = 0
          · subst hx1
            have HY : Hid (showTo l (k + 1) = some ((x2, 7) :: stk)) := hyes _ (by unfold showStep; rw [if_neg h1, if_pos rfl, if_pos ⟨hnm, rfl⟩])
            have HW1 : Hid (Two w.heap.size (wr.alloc (.cells #[.int .i64 2, .int .i64 0, .string x2] 38)) gt ct gl cl stk) := HW.out.old ((Below.refl _ _).alloc (Nat.le_refl _) _)
            clear hno hyes
            go_wp2_with (first | (go_at_call 95; refine (l1In_any _ _ _ _).mono ?_; rintro e w' ⟨rfl, hw'⟩; rw [hw']; clear hw' w') | (go_at_call 97; refine (l1Name_any _ _ (by unfold maxLen; omega)).mono ?_; rintro e w' ⟨rfl, hw'⟩; rw [hw']; clear hw' w') | (at_builtin; refine wpList_append_lies _ rfl (.tmp 62) (.tmp 65) 31 rfl w.heap.size 9 j0 (.string ByteArray.empty) 1 16 Tryz.underlying31 hj hy0 hy1 hy2 rfl (by decide) _ _ _ rfl (World.ownsRow.alloc HW1.out.t _) ⟨wr.heap.size + 1, 0, none⟩ 1 1 [.string x2] rfl rfl (by exact one_new' _ _ _ _ (by simp)) (by intro u hu; simp at hu; subst hu; rfl) (by decide) (by unfold maxLen; omega) (by omega) (by simp; omega) _ rfl ?_))
            intro g1 c1 w5 ho1 hg1 hat1 hl1
            have HG1 : Hid (((wr.alloc (.cells #[.int .i64 2, .int .i64 0, .string x2] 38)).alloc (.cells #[.string x2] 9)).grownBy w5 (some gt)) := hg1
            have HO1 : Hid (w5.ownsRow w.heap.size 9 1 (.slice (some ⟨g1, 0, none⟩) (stk.length + 1) c1) (stk.length + 1) (strsOf stk ++ [.string x2])) := ho1
            have HAT1 : Hid (some gt = some g1 ∨ g1 = (wr.alloc (.cells #[.int .i64 2, .int .i64 0, .string x2] 38)).heap.size + 1) := by
              show _ ∨ _
              simpa [Value.ownBlock] using hat1
            have HL5 : Hid (w5.ownsRow w.heap.size 3 1 (.slice (some ⟨gl, 0, none⟩) stk.length cl) stk.length (lvsOf stk)) := HW1.out.mid HG1.out
            have hz5 : w.heap.size ≤ w5.heap.size := by have := hg1.size; simp at this; omega
            clear ho1 hg1 hat1 hl1
            go_wp2_with (at_builtin; refine wpList_append_lies _ rfl (.tmp 67) (.tmp 68) 32 rfl w.heap.size 3 i0 (.int .i64 0) 1 8 Tryz.underlying32 hi hz0 hz1 hz2 rfl (by decide) _ _ _ rfl (World.ownsRow.alloc HL5.out _) ⟨w5.heap.size, 0, none⟩ 1 1 [.int .i64 7] rfl rfl (by exact one_new' _ _ _ _ rfl) (by intro u hu; simp at hu; subst hu; rfl) (by decide) (by unfold maxLen; omega) (by omega) (by simp; omega) _ rfl ?_)
            intro g2 c2 w6 ho2 hg2 hat2 hl2
            have HG2 : Hid ((w5.alloc (.cells #[.int .i64 7] 3)).grownBy w6 (some gl)) := hg2
            have HW6 : Hid (Two w.heap.size w6 g1 c1 g2 c2 ((x2, 7) :: stk)) := HW1.out.push HO1.out HG1.out HAT1.out ho2 HG2.out (by simpa [Value.ownBlock] using hat2)
            have HB6 : Hid (Below w.heap.size w w6) := push_below (hbel.alloc hwz _) (by simp; omega) m1 m3 HG1.out HG2.out
            clear ho2 hg2 hat2 hl2
            go_wp2_with fail
            go_roundw
            case rel => exact ⟨k + 1, g1, c1, g2, c2, (x2, 7) :: stk, by omega, by go_num, rfl, rfl, HY.out, HW6.out, HB6.out⟩
            case measure => simp [intOf]; omega
          · have hx1' : (x1 == 0) = false := by simp [hx1]
            have HN : Hid (D = (noName, false)) := hno (by unfold showStep; rw [if_neg h1, if_pos rfl, if_neg (by rintro ⟨_, h⟩; exact hx1 h)])
            clear hno hyes
            go_wp2_with (first | (go_at_call 95; refine (l1In_any _ _ _ _).mono ?_; rintro e w' ⟨rfl, hw'⟩; rw [hw']; clear hw' w') | (go_at_call 97; refine (l1Name_any _ _ (by unfold maxLen; omega)).mono ?_; rintro e w' ⟨rfl, hw'⟩; rw [hw']; clear hw' w'))
            go_ret2
            exact ⟨by rw [HN.out]; rfl, hbel.alloc hwz _⟩
      have e2 : (x0 == 2) = false := by simp [h2]
      by_cases h34 : x0 = 3 ∨ x0 = 4
      · have hsh : showStep (x0, x1, x2) stk = (if x1 = 0 ∧ x2.toList.isEmpty = true then aheadStk x0 stk else none) := by
          unfold showStep; rw [if_neg h1, if_neg h2, if_pos h34]
        have hin : decide (5 ≤ x0 ∧ x0 ≤ 13) = false := by simp; omega
        have e34 : ((x0 == 3) = true ∧ aheadSg x0 = minus ∧ (x0 == 4) = false) ∨ ((x0 == 3) = false ∧ (x0 == 4) = true ∧ aheadSg x0 = bang) := by
          rcases h34 with rfl | rfl
          · exact .inl ⟨rfl, rfl, rfl⟩
          · exact .inr ⟨rfl, rfl, rfl⟩
        have HSH : Hid (showStep (x0, x1, x2) stk = (if x1 = 0 ∧ x2.toList.isEmpty = true then aheadStk x0 stk else none)) := hsh
        clear hsh
        by_cases hx1 : x1 = 0
        · subst hx1
          cases he : x2.toList.isEmpty
          · rcases e34 with ⟨e3, ea, e4⟩ | ⟨e3, e4, ea⟩
            all_goals
              clear ea h34
              by_cases hs0 : 0 < stk.length
              · have HN : Hid (D = (noName, false)) := hno (by rw [HSH.out, if_neg (by rintro ⟨_, h⟩; simp only [he] at h; cases h)])
                clear hno hyes
                go_wp2_with (first | (go_at_call 95; refine (l1In_any _ _ _ _).mono ?_; rintro e w' ⟨rfl, hw'⟩; rw [hw']; clear hw' w') | (go_at_call 97; refine (l1Name_any _ _ (by unfold maxLen; omega)).mono ?_; rintro e w' ⟨rfl, hw'⟩; rw [hw']; clear hw' w'))
                go_ret2
                exact ⟨by rw [HN.out]; rfl, hbel.alloc hwz _⟩
              · have HN : Hid (D = (noName, false)) := hno (by rw [HSH.out, if_neg (by rintro ⟨_, h⟩; simp only [he] at h; cases h)])
                clear hno hyes
                go_wp2_with (first | (go_at_call 95; refine (l1In_any _ _ _ _).mono ?_; rintro e w' ⟨rfl, hw'⟩; rw [hw']; clear hw' w') | (go_at_call 97; refine (l1Name_any _ _ (by unfold maxLen; omega)).mono ?_; rintro e w' ⟨rfl, hw'⟩; rw [hw']; clear hw' w'))
                go_ret2
                exact ⟨by rw [HN.out]; rfl, hbel.alloc hwz _⟩
          · rcases stk with _ | ⟨⟨t, lv⟩, r⟩
            · rcases e34 with ⟨e3, ea, e4⟩ | ⟨e3, e4, ea⟩
              all_goals
                clear ea h34
                have HN : Hid (D = (noName, false)) := hno (by rw [HSH.out, if_pos ⟨rfl, he⟩]; rfl)
                clear hno hyes
                go_wp2_with (first | (go_at_call 95; refine (l1In_any _ _ _ _).mono ?_; rintro e w' ⟨rfl, hw'⟩; rw [hw']; clear hw' w') | (go_at_call 97; refine (l1Name_any _ _ (by unfold maxLen; omega)).mono ?_; rintro e w' ⟨rfl, hw'⟩; rw [hw']; clear hw' w'))
                go_ret2
                exact ⟨by rw [HN.out]; rfl, hbel.alloc hwz _⟩
            · have HY : Hid (showTo l (k + 1) = some ((aheadSg x0 ++ boundM t lv 6, 6) :: r)) := hyes _ (by rw [HSH.out, if_pos ⟨rfl, he⟩]; rfl)
              have hbs := bound_size t lv 6
              have htt : t.size ≤ 144 := by simp only [total] at tot1; omega
              obtain ⟨t1, t2, t3, t4⟩ := HW.out.top
              have hne := HW.out.ne
              obtain ⟨N, hN⟩ : ∃ N, ((t, lv) :: r : TL).length = N := ⟨_, rfl⟩
              obtain ⟨L, hL⟩ : ∃ L, r.length = L := ⟨_, rfl⟩
              have q1 : (N : Int) - 1 = L := by simp at hN; omega
              have q2 : L < N := by simp at hN; omega
              have hN24 : N ≤ 24 := by simp at hN tot2; omega
              have q3 : (L : Int) < N := by omega
              have q4 : (0 : Int) ≤ L := by omega
              have q5 : (0 : Int) < N := by omega
              have q6 : IntKind.i64.wrap (L : Int) = L := IntWalk.i64_in _ ⟨by omega, by omega⟩
              rw [hL] at t1 t2 t3 t4
              have HL : Hid (r.length = L) := hL
              have HNN : Hid (((t, lv) :: r : TL).length = N) := hN
              rw [hN]
              have hgtw : gt < wr.heap.size := m2
              have hglw : gl < wr.heap.size := m4
              have HPU : Hid (∀ y, Two w.heap.size (((wr.setCell ⟨gt, L, none⟩ (.string y)).setCell ⟨gl, L, none⟩ (.int .i64 6)).alloc (.cells #[.int .i64 x0, .int .i64 0, .string x2] 38)).drew gt ct gl cl ((y, 6) :: r)) := fun y => by
                have h := HW.out.put y 6
                rw [hL] at h
                exact (h.old ((Below.refl _ _).alloc (Nat.le_refl _) _)).drew
              clear hno hyes hN hL tot1 tot2
              rcases e34 with ⟨e3, ea, e4⟩ | ⟨e3, e4, ea⟩
              all_goals
                rw [ea] at HY
                clear ea h34
                go_wp2_with fail
                go_region_with (go_at_call 98; refine (l1Bound_any t lv 6 _ (by omega)).mono ?_; rintro e w' ⟨rfl, hw'⟩; rw [hw']; clear hw' w')
                all_goals
                  go_wp2_with fail
                  go_roundw
                  case rel =>
                    refine ⟨k + 1, gt, ct, gl, cl, _, by omega, by go_num, ?_, ?_, HY.out, ?_, ?_⟩
                    · rw [← HNN.out]; rfl
                    · rw [← HNN.out]; rfl
                    · exact HPU.out _
                    · exact (((hbel.setCell m1 _).setCell m3 _).alloc (by simpa [World.setCell] using hwz) _).drew
                  case measure => simp [intOf]; omega
        · have hx1' : (x1 == 0) = false := by simp [hx1]
          rcases e34 with ⟨e3, ea, e4⟩ | ⟨e3, e4, ea⟩
          all_goals
            clear ea h34
            by_cases hs0 : 0 < stk.length
            · have HN : Hid (D = (noName, false)) := hno (by rw [HSH.out, if_neg (by rintro ⟨h, _⟩; exact hx1 h)])
              clear hno hyes
              go_wp2_with (first | (go_at_call 95; refine (l1In_any _ _ _ _).mono ?_; rintro e w' ⟨rfl, hw'⟩; rw [hw']; clear hw' w') | (go_at_call 97; refine (l1Name_any _ _ (by unfold maxLen; omega)).mono ?_; rintro e w' ⟨rfl, hw'⟩; rw [hw']; clear hw' w'))
              go_ret2
              exact ⟨by rw [HN.out]; rfl, hbel.alloc hwz _⟩
            · have HN : Hid (D = (noName, false)) := hno (by rw [HSH.out, if_neg (by rintro ⟨h, _⟩; exact hx1 h)])
              clear hno hyes
              go_wp2_with (first | (go_at_call 95; refine (l1In_any _ _ _ _).mono ?_; rintro e w' ⟨rfl, hw'⟩; rw [hw']; clear hw' w') | (go_at_call 97; refine (l1Name_any _ _ (by unfold maxLen; omega)).mono ?_; rintro e w' ⟨rfl, hw'⟩; rw [hw']; clear hw' w'))
              go_ret2
              exact ⟨by rw [HN.out]; rfl, hbel.alloc hwz _⟩
      have e3 : (x0 == 3) = false := by simp; omega
      have e4 : (x0 == 4) = false := by simp; omega
      cases hin : decide (5 ≤ x0 ∧ x0 ≤ 13)
      · have HN : Hid (D = (noName, false)) := hno (by unfold showStep; rw [if_neg h1, if_neg h2, if_neg h34, if_neg (by simpa using hin)])
        clear hno hyes
        go_wp2_with (first | (go_at_call 95; refine (l1In_any _ _ _ _).mono ?_; rintro e w' ⟨rfl, hw'⟩; rw [hw']; clear hw' w') | (go_at_call 97; refine (l1Name_any _ _ (by unfold maxLen; omega)).mono ?_; rintro e w' ⟨rfl, hw'⟩; rw [hw']; clear hw' w'))
        go_ret2
        exact ⟨by rw [HN.out]; rfl, hbel.alloc hwz _⟩
      have hin2 : 5 ≤ x0 ∧ x0 ≤ 13 := by simpa using hin
      have HSH : Hid (showStep (x0, x1, x2) stk = (if x1 = 0 ∧ x2.toList.isEmpty = true then pairStk x0 stk else none)) := by
        show _ = _
        unfold showStep; rw [if_neg h1, if_neg h2, if_neg h34, if_pos hin2]
      by_cases hs1 : 1 < stk.length
      · by_cases hx1 : x1 = 0
        · subst hx1
          cases he : x2.toList.isEmpty
          · have HN : Hid (D = (noName, false)) := hno (by rw [HSH.out, if_neg (by rintro ⟨_, h⟩; simp only [he] at h; cases h)])
            clear hno hyes
            go_wp2_with (first | (go_at_call 95; refine (l1In_any _ _ _ _).mono ?_; rintro e w' ⟨rfl, hw'⟩; rw [hw']; clear hw' w') | (go_at_call 97; refine (l1Name_any _ _ (by unfold maxLen; omega)).mono ?_; rintro e w' ⟨rfl, hw'⟩; rw [hw']; clear hw' w'))
            go_ret2
            exact ⟨by rw [HN.out]; rfl, hbel.alloc hwz _⟩
          · rcases stk with _ | ⟨⟨t2, l2⟩, _ | ⟨⟨t1, l1⟩, r⟩⟩
            · simp at hs1
            · simp at hs1
            obtain ⟨k0, rfl⟩ : ∃ k0 : Nat, x0 = k0 := ⟨x0.toNat, by omega⟩
            have HY : Hid (showTo l (k + 1) = some ((boundM t1 l1 (lvl k0) ++ sg k0 ++ boundM t2 l2 (lvl k0 + 1), lvl k0) :: r)) := hyes _ (by rw [HSH.out, if_pos ⟨rfl, he⟩]; rfl)
            have hlv := lvl_in k0
            have ht1 : t1.size ≤ 1000 := by simp only [total] at tot1; omega
            have ht2 : t2.size ≤ 1000 := by simp only [total] at tot1; omega
            obtain ⟨a1, a2, a3, a4⟩ := HW.out.pop.top
            obtain ⟨g1, g2, g3, g4⟩ := HW.out.top
            have hne := HW.out.ne
            have hc1 := cap_of HW.out.t
            have hc2 := cap_of HW.out.l
            obtain ⟨N, hN⟩ : ∃ N, ((t2, l2) :: (t1, l1) :: r : TL).length = N := ⟨_, rfl⟩
            obtain ⟨L, hL⟩ : ∃ L, r.length = L := ⟨_, rfl⟩
            obtain ⟨M, hM⟩ : ∃ M, ((t1, l1) :: r : TL).length = M := ⟨_, rfl⟩
            have hNL : N = L + 2 := by simp at hN; omega
            have hML : M = L + 1 := by simp at hM; omega
            have hN24 : N ≤ 24 := by simp at hN tot2; omega
            rw [hN] at hc1 hc2
            rw [hM] at g1 g2 g3 g4
            rw [hL] at a1 a2 a3 a4
            have HL : Hid (r.length = L) := hL
            have HNN : Hid (((t2, l2) :: (t1, l1) :: r : TL).length = N) := hN
            rw [hN]
            have hs1' : (1 : Int) < N := by omega
            have HLV : Hid (1 ≤ lvl k0 ∧ lvl k0 ≤ 5) := hlv
            have HK : Hid (5 ≤ k0 ∧ k0 ≤ 13) := ⟨by omega, by omega⟩
            obtain ⟨lv, hlvl⟩ : ∃ lv, lvl k0 = lv := ⟨_, rfl⟩
            rw [hlvl] at HY HLV
            have HLL : Hid (lvl k0 = lv) := hlvl
            have HNL : Hid (N = L + 2) := hNL
            have HML : Hid (M = L + 1) := hML
            clear hNL hML
            clear hno hyes hN hL hM tot1 tot2 hs1 hlv hlvl
            go_wp2_with (first | (go_at_call 95; refine (l1In_any _ _ _ _).mono ?_; rintro e w' ⟨rfl, hw'⟩; rw [hw']; clear hw' w') | (go_at_call 99; refine (l1Level_any _ _).mono ?_; rw [HLL.out]; rintro e w' ⟨rfl, hw'⟩; rw [hw']; clear hw' w'))
            have ol : ∀ p : Addr, p.block < wr.heap.size → ∀ v, wr.cell? p = some v → (wr.alloc (.cells #[.int .i64 k0, .int .i64 0, .string x2] 38)).cell? p = some v := fun p hp v hv => (((Below.refl wr.heap.size wr).alloc (Nat.le_refl _) _).cell hp).trans hv
            have HP : Hid (∀ w1, Below (wr.alloc (.cells #[.int .i64 k0, .int .i64 0, .string x2] 38)).heap.size (wr.alloc (.cells #[.int .i64 k0, .int .i64 0, .string x2] 38)) w1 → Two w.heap.size w1 gt ct gl cl ((t2, l2) :: (t1, l1) :: r) ∧ Below w.heap.size w w1) := fun w1 hb1 =>
              ⟨(HW.out.old ((Below.refl _ _).alloc (Nat.le_refl _) _)).old hb1, (hbel.alloc hwz _).trans (hb1.mono (by simp; omega))⟩
            refine region23 _ _ _ gt ct gl cl N L M wr.heap.size k0 t1 t2 l1 l2 lv rfl rfl rfl rfl rfl rfl HNL.out HML.out hN24 HLV.out HK.out ht1 ht2 (ol _ m2 _ a1) (ol _ m2 _ g1) (ol _ m4 _ a2) (ol _ m4 _ g2) ?_ ((((Below.refl wr.heap.size wr).alloc (Nat.le_refl _) _).frozen (p := ⟨gt, L, none⟩) m2).trans a3) ?_
            · simp [go_sem]
            intro w1 hb1
            obtain ⟨hT, hB⟩ := HP.out w1 hb1
            have HT1 : Hid (Two w.heap.size w1 gt ct gl cl ((t1, l1) :: r)) := hT.pop
            have HB1 : Hid (Below w.heap.size w w1) := hB
            obtain ⟨v1, v2, v3, v4⟩ := HT1.out.top
            rw [HL.out] at v1 v2 v3 v4
            obtain ⟨y, hy⟩ : ∃ y, boundM t1 l1 lv ++ sg k0 ++ boundM t2 l2 (lv + 1) = y := ⟨_, rfl⟩
            rw [hy] at HY
            rw [hy, putAll23]
            have hgtw : gt < w1.heap.size := (HT1.out.lt).1.2
            have hglw : gl < w1.heap.size := (HT1.out.lt).2.2
            clear hb1 hT hB ol HP a1 a2 a3 a4 g1 g2 g3 g4 hy
            have q1 : (N : Int) - 2 = L := by have h1 := HNL.out; have h2 := HML.out; omega
            have q2 : (N : Int) - 1 = M := by have h1 := HNL.out; have h2 := HML.out; omega
            have q3 : (L : Int) < N := by have h1 := HNL.out; have h2 := HML.out; omega
            have q5 : L < N := by have h1 := HNL.out; have h2 := HML.out; omega
            have q7 : M ≤ ct := by have h1 := HNL.out; have h2 := HML.out; omega
            have q8 : M ≤ cl := by have h1 := HNL.out; have h2 := HML.out; omega
            have q9 : (M : Int) ≤ ct := by have h1 := HNL.out; have h2 := HML.out; omega
            have q10 : (M : Int) ≤ cl := by have h1 := HNL.out; have h2 := HML.out; omega
            have p1 : IntKind.i64.wrap (L : Int) = L := IntWalk.i64_in _ ⟨by omega, by omega⟩
            have p2 : IntKind.i64.wrap (M : Int) = M := IntWalk.i64_in _ ⟨by omega, by omega⟩
            simp only [Act.put, List.setIfInBounds_toArray, List.set_cons_succ, List.set_cons_zero, val23]
            go_wp2_with fail
            go_roundw
            case rel =>
              refine ⟨k + 1, gt, ct, gl, cl, (y, lv) :: r, by omega, by go_num, ?_, ?_, HY.out, ?_, ?_⟩
              · simp [HL.out, HML.out]
              · simp [HL.out, HML.out]
              · have h := HT1.out.put y lv
                rw [HL.out] at h
                exact h
              · exact (HB1.out.setCell m1 _).setCell m3 _
            case measure => simp [intOf]; omega
        · have hx1' : (x1 == 0) = false := by simp [hx1]
          have HN : Hid (D = (noName, false)) := hno (by rw [HSH.out, if_neg (by rintro ⟨h, _⟩; exact hx1 h)])
          clear hno hyes
          go_wp2_with (first | (go_at_call 95; refine (l1In_any _ _ _ _).mono ?_; rintro e w' ⟨rfl, hw'⟩; rw [hw']; clear hw' w') | (go_at_call 97; refine (l1Name_any _ _ (by unfold maxLen; omega)).mono ?_; rintro e w' ⟨rfl, hw'⟩; rw [hw']; clear hw' w'))
          go_ret2
          exact ⟨by rw [HN.out]; rfl, hbel.alloc hwz _⟩
      · have HN : Hid (D = (noName, false)) := hno (by rw [HSH.out]; exact pair_none _ hs1)
        clear hno hyes
        go_wp2_with (first | (go_at_call 95; refine (l1In_any _ _ _ _).mono ?_; rintro e w' ⟨rfl, hw'⟩; rw [hw']; clear hw' w') | (go_at_call 97; refine (l1Name_any _ _ (by unfold maxLen; omega)).mono ?_; rintro e w' ⟨rfl, hw'⟩; rw [hw']; clear hw' w'))
        go_ret2
        exact ⟨by rw [HN.out]; rfl, hbel.alloc hwz _⟩
    · rcases stk with _ | ⟨⟨t, lv⟩, _ | ⟨y, r⟩⟩
      · have HN : Hid (D = (noName, false)) := HD.out.symm.trans (showRes_no (by unfold showM; rw [hlen, show n = k by omega, HT.out]))
        go_wp2_with fail
        go_ret2
        exact ⟨by rw [HN.out]; rfl, hbel⟩
      · have HN : Hid (D = (t, true)) := HD.out.symm.trans (by unfold showRes showM; rw [hlen, show n = k by omega, HT.out])
        obtain ⟨t1, t2, t3, t4⟩ := HW.out.top
        simp only [List.length_nil] at t1
        go_wp2_with fail
        go_ret2
        exact ⟨by rw [HN.out]; rfl, hbel⟩
      · have HN : Hid (D = (noName, false)) := HD.out.symm.trans (showRes_no (by unfold showM; rw [hlen, show n = k by omega, HT.out]))
        obtain ⟨N, hN⟩ : ∃ N, ((t, lv) :: y :: r : TL).length = N := ⟨_, rfl⟩
        have hN1 : ((N : Int) == 1) = false := by simp at hN ⊢; omega
        have HNN : Hid (((t, lv) :: y :: r : TL).length = N) := hN
        rw [hN]
        clear hN
        go_wp2_with fail
        go_ret2
        exact ⟨by rw [HN.out]; rfl, hbel⟩
end Go.Proofs.YtbpfonmkbbnkcaaGreatDoor

/- The model's l1Put, ExprPut and ExprGet, walked. -/
namespace Go.Proofs.YtbpfonmkbbnkcaaGreatDoor
open Go Go.RowKit Go.PlainAid
set_option linter.unusedSimpArgs false
set_option linter.unusedVariables false

/-- the text of nodes that are a sum; the empty one of others -/
def putM (l : List Nd) : ByteArray := if 24 < l.length then noName else match showM l with | some t => if getM t = some l then t else noName | none => noName

theorem showM_size {l : List Nd} {t : ByteArray} (h : showM l = some t) : t.size ≤ 6 * l.length := by
  unfold showM at h
  split at h
  · rename_i t' lv he
    cases h
    have := (total_to he).1
    simp [total] at this
    omega
  · cases h

set_option maxHeartbeats 800000 in
set_option maxRecDepth 100000 in
theorem l1Put_any (B0 : Nat) (a : Option Addr) (n cap : Nat) (l : List Nd) (w : World) (hn : n ≤ 1048576) (hB0 : B0 ≤ w.heap.size) (hsz : ∀ x ∈ l, x.2.2.size ≤ 1048576) (hz : IsNds B0 w a n l) :
    Calls Tryz.prog 46 #[.slice a n cap] w fun e w' => e = .returned (.string (putM l)) ∧ Below w.heap.size w w' := by
  have hlen := hz.1
  have HZ : Hid (IsNds B0 w a n l) := hz
  have HSZ : Hid (∀ x ∈ l, x.2.2.size ≤ 1048576) := hsz
  clear hz hsz
  obtain ⟨D, hD⟩ : ∃ D, putM l = D := ⟨_, rfl⟩
  have HD : Hid (putM l = D) := hD
  rw [hD]; clear hD
  by_cases h24 : 24 < n
  · have HN : Hid (D = noName) := by
      show D = noName
      rw [← HD.out]; unfold putM; rw [if_pos (by omega)]
    go_enter Tryz.func46, Tryz.ntmps46
    go_wp2_with fail
    go_ret
    exact ⟨ret_str HN.out.symm, Below.refl _ _⟩
  · have HP : Hid (D = match showM l with | some t => if getM t = some l then t else noName | none => noName) := by
      show D = _
      rw [← HD.out]; unfold putM; rw [if_neg (by omega)]
    cases hsh : showM l with
    | none =>
      have HN : Hid (D = noName) := by
        show D = noName
        rw [HP.out, hsh]
      have HS : Hid (showRes l = (noName, false)) := showRes_no hsh
      clear hsh
      go_enter Tryz.func46, Tryz.ntmps46
      go_wp2_with fail
      refine (l1Show_any B0 a n cap l _ (by omega) hB0 HSZ.out HZ.out).mono ?_
      rw [HS.out]
      rintro e w1 ⟨rfl, hb1⟩
      go_wp2_with fail
      refine (l1Get_any noName _ (by decide)).mono ?_
      rintro e w2 ⟨v, b, rfl, _, _, hb2⟩
      have HB : Hid (Below w.heap.size w w2) := hb1.trans (hb2.mono hb1.size)
      clear hb1 hb2
      go_wp2_with fail
      go_ret
      exact ⟨ret_str HN.out.symm, HB.out⟩
    | some t =>
      have HS : Hid (showRes l = (t, true)) := by
        show showRes l = _
        unfold showRes; rw [hsh]
      have hts := showM_size hsh
      have HT : Hid (D = if getM t = some l then t else noName) := by
        show D = _
        rw [HP.out, hsh]
      clear hsh
      go_enter Tryz.func46, Tryz.ntmps46
      go_wp2_with fail
      refine (l1Show_any B0 a n cap l _ (by omega) hB0 HSZ.out HZ.out).mono ?_
      rw [HS.out]
      rintro e w1 ⟨rfl, hb1⟩
      have HZ1 : Hid (IsNds B0 w1 a n l) := HZ.out.below (hb1.mono hB0)
      go_wp2_with fail
      refine (l1Get_any t _ (by omega)).mono ?_
      rintro e w2 ⟨v, b, rfl, hno, hyes, hb2⟩
      have HB : Hid (Below w.heap.size w w2) := hb1.trans (hb2.mono hb1.size)
      have HZ2 : Hid (IsNds w2.heap.size w2 a n l) := (HZ1.out.below (hb2.mono (by have := hb1.size; omega))).mono (by have := hb1.size; have := hb2.size; omega)
      cases hg : getM t with
      | none =>
        have HN : Hid (D = noName) := by
          show D = noName
          rw [HT.out, hg]; rfl
        obtain ⟨rfl, rfl⟩ := hno hg
        clear hb1 hb2 hno hyes hg
        go_wp2_with fail
        go_ret
        exact ⟨ret_str HN.out.symm, HB.out⟩
      | some l' =>
        obtain ⟨rfl, ho⟩ := hyes l' hg
        have hl' := getM_len hg
        obtain ⟨a', cap', rfl, hi'⟩ := ho.is
        have HI : Hid (IsNds w2.heap.size w2 a' l'.length l') := hi'
        have HR : Hid (D = if l' = l then t else noName) := by
          show D = _
          rw [HT.out, hg]; simp
        clear hb1 hb2 hno hyes hg ho hi'
        obtain ⟨n', hn'⟩ : ∃ n', l'.length = n' := ⟨_, rfl⟩
        rw [hn'] at HI hl'
        rw [hn']
        clear hn'
        go_wp2_with fail
        refine (l1Same_any _ a' a n' n cap' cap l' l _ (by omega) hn HI.out HZ2.out).mono ?_
        rintro e w3 ⟨rfl, hb3⟩
        have HB3 : Hid (Below w.heap.size w w3) := HB.out.trans (hb3.mono HB.out.size)
        clear hb3
        cases hd : decide (l' = l)
        · have HN : Hid (D = noName) := by
            show D = noName
            rw [HR.out, if_neg (by simpa using hd)]
          clear hd
          go_wp2_with fail
          go_ret
          exact ⟨ret_str HN.out.symm, HB3.out⟩
        · have HN : Hid (D = t) := by
            show D = t
            rw [HR.out, if_pos (by simpa using hd)]
          clear hd
          go_wp2_with fail
          go_ret
          exact ⟨ret_str HN.out.symm, HB3.out⟩
end Go.Proofs.YtbpfonmkbbnkcaaGreatDoor

/- The model's ExprGet, walked; names that are read are not longer than what is read. -/
namespace Go.Proofs.YtbpfonmkbbnkcaaGreatDoor
open Go Go.RowKit Go.PlainAid
set_option linter.unusedSimpArgs false
set_option linter.unusedVariables false

def Sm (s : ByteArray) (st : Par) : Prop := ∀ x ∈ st.out, x.2.2.size ≤ s.size
theorem sm_put {s : ByteArray} {st : Par} {x : Nd} (h : Sm s st) (hx : x.2.2.size ≤ s.size) : Sm s (putNd st x) := by
  unfold putNd
  split
  · exact h
  · intro y hy
    simp at hy
    rcases hy with hy | rfl
    · exact h y hy
    · exact hx
theorem sm_putAll {s : ByteArray} (l : List Int) : ∀ st, Sm s st → Sm s (putAll l st) := by
  induction l with
  | nil => exact fun _ h => h
  | cons k r ih =>
    intro st h
    unfold putAll
    split
    · exact h
    · exact ih _ (sm_put h (Nat.zero_le _))
theorem sm_prim {s : ByteArray} {rec : Int → Par → Par} (hrec : ∀ l st, Sm s st → Sm s (rec l st)) (st : Par) (h : Sm s st) : Sm s (primM rec s st) := by
  unfold primM
  split
  · split
    · exact h
    · exact hrec 1 { st with at_ := skipTo s st.at_ + 1, deep := st.deep + 1 } h
  · simp only
    split
    · exact sm_put h (Nat.zero_le _)
    · exact sm_put h (by simp only [ByteArray.size_extract]; omega)
theorem sm_unary {s : ByteArray} {rec : Int → Par → Par} (hrec : ∀ l st, Sm s st → Sm s (rec l st)) (st : Par) (h : Sm s st) : Sm s (unaryM rec s st) := by
  unfold unaryM
  exact sm_putAll _ _ (sm_prim hrec _ h)
theorem sm_loop {s : ByteArray} {rec : Int → Par → Par} (hrec : ∀ l st, Sm s st → Sm s (rec l st)) (level : Int) (n : Nat) : ∀ st, Sm s st → Sm s (loopS rec s level n st) := by
  induction n with
  | zero => exact fun _ h => h
  | succ n ih =>
    intro st h
    unfold loopS
    split
    · exact h
    · split
      · exact h
      · exact ih _ (sm_put (hrec _ { st with at_ := signAt s (skipTo s st.at_) level } h) (Nat.zero_le _))
theorem sm_sum (s : ByteArray) (f : Nat) : ∀ level st, Sm s st → Sm s (sumF s f level st) := by
  induction f with
  | zero => exact fun _ _ h => h
  | succ f ih =>
    intro level st h
    unfold sumF
    split
    · exact sm_unary ih st h
    · exact sm_loop ih level _ _ (ih _ _ h)
theorem getM_names {s : ByteArray} {l : List Nd} (h : getM s = some l) : ∀ x ∈ l, x.2.2.size ≤ 60 := by
  unfold getM at h
  split at h
  · cases h
  · rename_i h60
    split at h
    · cases h
    · cases h
      intro x hx
      have := sm_sum s (7 * s.size + 7) 1 par0 (fun x hx => by simp [par0] at hx) x hx
      omega
theorem OwnNd.old {B : Nat} {w w' : World} {v : Value} {l : List Nd} (h : OwnNd B w v l) (hb : Below w.heap.size w w') : OwnNd B w' v l :=
  own_of_block h (fun g hg => hb.block g (World.ownsRow.lt h g hg).2)

/-- the nodes of all of a text that can be written -/
def exprM (s : ByteArray) : Option (List Nd) := match getM s with | some l => if (putM l).toList.isEmpty = true then none else some l | none => none

set_option maxHeartbeats 800000 in
set_option maxRecDepth 100000 in
theorem ExprGet_any (s : ByteArray) (w : World) (hs : s.size ≤ 1048576) : Calls Tryz.prog 18 #[.string s] w fun e w' => ∃ v b, e = .returned (.tuple #[v, .bool b]) ∧
    (exprM s = none → b = false ∧ v = .slice none 0 0) ∧ (∀ l, exprM s = some l → b = true ∧ OwnNd w.heap.size w' v l) ∧ Below w.heap.size w w' := by
  cases hg : getM s with
  | none =>
    have HN : Hid (exprM s = none) := by
      show exprM s = none
      unfold exprM; rw [hg]
    have HG : Hid (getM s = none) := hg
    clear hg
    go_enter Tryz.func18, Tryz.ntmps18
    go_wp2_with fail
    refine (l1Get_any s _ hs).mono ?_
    rintro e w1 ⟨v, b, rfl, hno, hyes, hb1⟩
    obtain ⟨rfl, rfl⟩ := hno HG.out
    have HB : Hid (Below w.heap.size w w1) := hb1
    clear hno hyes hb1
    go_wp2_with fail
    go_ret2
    exact ⟨_, _, rfl, fun _ => ⟨rfl, rfl⟩, (fun l hl => by rw [HN.out] at hl; cases hl), HB.out⟩
  | some l =>
    have hl24 := getM_len hg
    have HSM : Hid (∀ x ∈ l, x.2.2.size ≤ 1048576) := fun x hx => Nat.le_trans (getM_names hg x hx) (by decide)
    have HE : Hid (exprM s = if (putM l).toList.isEmpty = true then none else some l) := by
      show exprM s = _
      unfold exprM; rw [hg]
    have HG : Hid (getM s = some l) := hg
    clear hg
    go_enter Tryz.func18, Tryz.ntmps18
    go_wp2_with fail
    refine (l1Get_any s _ hs).mono ?_
    rintro e w1 ⟨v, b, rfl, hno, hyes, hb1⟩
    obtain ⟨rfl, ho⟩ := hyes l HG.out
    have HO : Hid (OwnNd w.heap.size w1 v l) := ho
    obtain ⟨a, cap, rfl, hi⟩ := ho.is
    have HB : Hid (Below w.heap.size w w1) := hb1
    have HI : Hid (IsNds w1.heap.size w1 a l.length l) := hi
    obtain ⟨n, hn⟩ : ∃ n, l.length = n := ⟨_, rfl⟩
    rw [hn] at HI hl24 HO
    rw [hn]
    clear hno hyes hb1 ho hi hn
    go_wp2_with fail
    refine (l1Put_any w1.heap.size a n cap l _ (by omega) (Nat.le_refl _) HSM.out HI.out).mono ?_
    rintro e w2 ⟨rfl, hb2⟩
    have HB2 : Hid (Below w.heap.size w w2) := HB.out.trans (hb2.mono HB.out.size)
    have HO2 : Hid (OwnNd w.heap.size w2 (.slice a n cap) l) := HO.out.old hb2
    clear hb2
    obtain ⟨P, hP⟩ : ∃ P, putM l = P := ⟨_, rfl⟩
    rw [hP] at HE
    rw [hP]
    clear hP
    cases he : P.toList.isEmpty
    · have HN : Hid (exprM s = some l) := by
        show exprM s = _
        rw [HE.out, if_neg (by rw [he]; decide)]
      go_wp2_with fail
      go_ret2
      exact ⟨_, _, rfl, (fun h => by rw [HN.out] at h; cases h), (fun l' hl => by rw [HN.out] at hl; cases hl; exact ⟨rfl, HO2.out⟩), HB2.out⟩
    · have HN : Hid (exprM s = none) := by
        show exprM s = _
        rw [HE.out, if_pos he]
      go_wp2_with fail
      go_ret2
      exact ⟨_, _, rfl, fun _ => ⟨rfl, rfl⟩, (fun l' hl => by rw [HN.out] at hl; cases hl), HB2.out⟩
end Go.Proofs.YtbpfonmkbbnkcaaGreatDoor
