/- What a sum comes to: by its parts, and by its nodes one after the other. Plain: no program. -/
import Derived.Test.YtcajjngjojegfaaGreatDoorBunE
import Derived.Test.YtcajjngjojegfaaGreatDoorBunB
import Derived.Test.YtcajjngjojegfaaGreatDoorBunG
import Derived.Deep.RegionLaw
namespace Go.Proofs.YtcajjngjojegfaaGreatDoor
open Go Go.RowKit Go.PlainAid
set_option linter.unusedSimpArgs false
set_option linter.unusedVariables false

/-- what a name comes to -/
def ofM (names : List ByteArray) (vals : List Int) (x : ByteArray) : Int := if findM names x < 0 ∨ (vals.length : Int) ≤ findM names x then 0 else wr32 (vals.getD (findM names x).toNat 0)
theorem ofM_in (names : List ByteArray) (vals : List Int) (x : ByteArray) : In32 (ofM names vals x) := by
  unfold ofM
  split
  · unfold In32; omega
  · exact in32_wr _
def valT (f : ByteArray → Int) : Tree → Int
  | .num n => wr32 n
  | .name x => f x
  | .ahead k t => one k (valT f t)
  | .pair k l r => two k (valT f l) (valT f r)
theorem valT_in {f : ByteArray → Int} (hf : ∀ x, In32 (f x)) : ∀ t, In32 (valT f t)
  | .num n => in32_wr _
  | .name x => hf x
  | .ahead k t => in32_one _ _
  | .pair k l r => in32_two (valT_in hf l)
def runNd (f : ByteArray → Int) (x : Nd) (st : List Int) : List Int :=
  if x.1 = 1 then x.2.1 :: st else if x.1 = 2 then f x.2.2 :: st
  else if x.1 = 3 ∨ x.1 = 4 then one x.1 (st.headD 0) :: st.tail else two x.1 (st.tail.headD 0) (st.headD 0) :: st.tail.tail
/-- what stands behind the first k nodes, the top first -/
def runNds (f : ByteArray → Int) (l : List Nd) : Nat → List Int
  | 0 => []
  | k + 1 => runNd f (l.getD k (0, 0, noName)) (runNds f l k)
/-- what a sum comes to; 0 of what is none -/
def valM (f : ByteArray → Int) (l : List Nd) : Int := match sumM l with | none => 0 | some t => valT f t

theorem run_tree {f : ByteArray → Int} {l : List Nd} (ho : ∀ j, j < l.length → ndOk (l.getD j (0, 0, noName))) : ∀ k, k ≤ l.length → ∀ {st : List Tree}, treeTo l k = some st → runNds f l k = st.map (valT f) := by
  intro k
  induction k with
  | zero => intro _ st h; simp [treeTo] at h; subst h; rfl
  | succ k ih =>
    intro hk st h
    simp only [treeTo, Option.bind_eq_some_iff] at h
    obtain ⟨st0, h0, h1⟩ := h
    have ih1 := ih (by omega) h0
    have hx := ho k (by omega)
    simp only [runNds]
    rw [ih1]
    generalize l.getD k (0, 0, noName) = x at *
    obtain ⟨kd, n, y⟩ := x
    obtain ⟨o1, o2, o3⟩ := hx
    unfold treeNext treeStep at h1
    unfold runNd
    simp only at h1 o1 o2 o3 ⊢
    by_cases e1 : kd = 1
    · rw [if_pos e1] at h1 ⊢
      cases h1
      have := o1 e1
      simp [valT, wr32_in (show In32 n from ⟨by omega, by omega⟩)]
    rw [if_neg e1] at h1 ⊢
    by_cases e2 : kd = 2
    · rw [if_pos e2] at h1 ⊢
      by_cases hm : nmB y = true
      · rw [if_pos hm] at h1
        cases h1
        simp [valT]
      · rw [if_neg hm] at h1; cases h1
    rw [if_neg e2] at h1 ⊢
    by_cases e3 : kd = 3 ∨ kd = 4
    · rw [if_pos e3] at h1 ⊢
      match st0, h1 with
      | [], h1 => cases h1
      | t0 :: r, h1 =>
        cases h1
        simp [valT]
    rw [if_neg e3] at h1 ⊢
    by_cases e5 : 5 ≤ kd ∧ kd ≤ 13
    · rw [if_pos e5] at h1
      match st0, h1 with
      | [], h1 => cases h1
      | [_], h1 => cases h1
      | r0 :: l0 :: q, h1 =>
        cases h1
        simp [valT]
    rw [if_neg e5] at h1
    cases h1
theorem sumM_some {l : List Nd} {t : Tree} (h : sumM l = some t) : l.length ≤ 24 ∧ treeTo l l.length = some [t] ∧ getM (textT t) = some l ∧ ∀ j, j < l.length → ndOk (l.getD j (0, 0, noName)) := by
  unfold sumM at h
  split at h
  · cases h
  · rename_i t' he
    split at h
    · rename_i hg
      cases h
      unfold treeM at he
      split at he
      · cases he
      · rename_i h24
        split at he
        · rename_i t2 h2
          cases he
          exact ⟨by omega, h2, hg, getD_all (getM_ok hg)⟩
        · cases he
    · cases h
theorem runNds_sum {f : ByteArray → Int} {l : List Nd} {t : Tree} (h : sumM l = some t) : runNds f l l.length = [valT f t] := by
  obtain ⟨_, h1, _, h3⟩ := sumM_some h
  rw [run_tree h3 _ (Nat.le_refl _) h1]; rfl
theorem treeTo_some {l : List Nd} {n k : Nat} {st : List Tree} (h : treeTo l n = some st) (hk : k ≤ n) : ∃ s, treeTo l k = some s := by
  cases e : treeTo l k with
  | none => rw [treeTo_none hk e] at h; cases h
  | some s => exact ⟨s, rfl⟩
/-- what a node finds -/
theorem node_finds {f : ByteArray → Int} {l : List Nd} {t : Tree} (hs : sumM l = some t) {k : Nat} (hk : k < l.length) {x : Nd} (hx : l.getD k (0, 0, noName) = x) :
    (x.1 = 1 ∧ 0 ≤ x.2.1 ∧ x.2.1 ≤ 999999) ∨ x.1 = 2 ∨ ((x.1 = 3 ∨ x.1 = 4) ∧ ∃ z r, runNds f l k = z :: r) ∨ ((5 ≤ x.1 ∧ x.1 ≤ 13) ∧ ∃ z z' r, runNds f l k = z :: z' :: r) := by
  obtain ⟨_, h1, _, h3⟩ := sumM_some hs
  obtain ⟨st, h4⟩ := treeTo_some h1 (show k ≤ l.length by omega)
  obtain ⟨st', h5⟩ := treeTo_some h1 (show k + 1 ≤ l.length by omega)
  rw [run_tree h3 k (by omega) h4]
  have ho := h3 k hk
  simp only [treeTo, h4, Option.bind_some] at h5
  rw [hx] at h5 ho
  unfold treeNext treeStep at h5
  by_cases e1 : x.1 = 1
  · have := (ho.1 e1).1
    exact .inl ⟨e1, this.1, this.2⟩
  rw [if_neg e1] at h5
  by_cases e2 : x.1 = 2
  · exact .inr (.inl e2)
  rw [if_neg e2] at h5
  by_cases e3 : x.1 = 3 ∨ x.1 = 4
  · rw [if_pos e3] at h5
    match st, h5 with
    | [], h5 => cases h5
    | t0 :: r, h5 => exact .inr (.inr (.inl ⟨e3, _, _, rfl⟩))
  rw [if_neg e3] at h5
  by_cases e5 : 5 ≤ x.1 ∧ x.1 ≤ 13
  · rw [if_pos e5] at h5
    match st, h5 with
    | [], h5 => cases h5
    | [_], h5 => cases h5
    | r0 :: l0 :: q, h5 => exact .inr (.inr (.inr ⟨e5, _, _, _, rfl⟩))
  rw [if_neg e5] at h5
  cases h5
theorem run_in {f : ByteArray → Int} (hf : ∀ x, In32 (f x)) {l : List Nd} {t : Tree} (hs : sumM l = some t) {k : Nat} (hk : k ≤ l.length) : (∀ z ∈ runNds f l k, In32 z) ∧ (runNds f l k).length ≤ k := by
  obtain ⟨_, h1, _, h3⟩ := sumM_some hs
  obtain ⟨st, h4⟩ := treeTo_some h1 hk
  rw [run_tree h3 k hk h4]
  refine ⟨fun z hz => ?_, ?_⟩
  · obtain ⟨t, _, rfl⟩ := List.mem_map.1 hz
    exact valT_in hf t
  · have := treeTo_len k h4
    simpa using this
theorem getM_no : getM noName = none := by
  rw [getM_free]
  have e : sumP noName (7 * noName.size + 7) 1 0 0 = none := by kernel_rfl
  rw [e, if_neg (by decide)]
/-- a sum is written by at least one byte -/
theorem putM_empty (l : List Nd) : (putM l).toList.isEmpty = true ↔ sumM l = none := by
  rw [putM_sumM]
  cases h : sumM l with
  | none => simp [isEmpty_noName]
  | some t =>
    obtain ⟨_, _, hg, _⟩ := sumM_some h
    simp only [reduceCtorEq, iff_false]
    intro he
    have e : textT t = noName := by
      rw [Lib.toList_data] at he
      apply ByteArray.ext
      rw [← Array.toList_inj]
      simpa [noName] using he
    rw [e, getM_no] at hg
    cases hg
end Go.Proofs.YtcajjngjojegfaaGreatDoor

/- What a part comes to, by its methods. -/
namespace Go.Proofs.YtcajjngjojegfaaGreatDoor
open Go Go.RowKit Go.PlainAid
set_option linter.unusedSimpArgs false
set_option linter.unusedVariables false

set_option maxHeartbeats 800000 in
set_option maxRecDepth 100000 in
theorem index_any (B : Nat) (a : Option Addr) (n cap : Nat) (l : List ByteArray) (x : ByteArray) (w : World) (hn : n ≤ 1048576) (hz : IsStrs B w a n l) :
    Calls Tryz.prog 56 #[.slice a n cap, .string x] w fun e w' => e = .returned (.int .i64 (findM l x)) ∧ w' = w := by
  obtain ⟨hlen, hcells⟩ := hz
  obtain ⟨D, hD⟩ : ∃ D, findM l x = D := ⟨_, rfl⟩
  have HD : Hid (findM l x = D) := hD
  rw [hD]; clear hD
  go_enter Tryz.func56, Tryz.ntmps56
  go_wp2_with fail
  go_loopw [8] (fun i wr => ∃ k : Nat, k ≤ n ∧ i = .int .i64 k ∧ Hid (∀ j, (h : j < l.length) → j < k → l[j] ≠ x) ∧ wr = w) (fun i _ => n - (intOf i).toNat)
  case atStart => exact ⟨0, Nat.zero_le _, rfl, fun j _ h => by omega, rfl⟩
  case round =>
    obtain ⟨k, hk, rfl, hdone, rfl⟩ := hrel
    by_cases hlt : k < n
    · rcases hcells with h0 | ⟨b, off, rfl, hb, hc⟩
      · omega
      have hkl : k < l.length := by omega
      have hcx := hc k hkl
      obtain ⟨y, hy⟩ : ∃ y, l[k] = y := ⟨_, rfl⟩
      have HY : Hid (l[k] = y) := hy
      rw [hy] at hcx
      clear hc hy
      by_cases hxy : y = x
      · subst hxy
        have HN : Hid (D = k) := by
          show D = k
          rw [← HD.out]
          exact findM_at hkl HY.out (fun j hj => hdone.out j (by omega) hj)
        go_wp2_with fail
        go_ret
        exact ⟨ret_int HN.out.symm, rfl⟩
      · have e2' : (x.toList == y.toList) = false := by
          simp only [beq_eq_false_iff_ne, ne_eq]
          intro e; exact hxy (by rw [Lib.toList_data, Lib.toList_data] at e; exact ByteArray.ext (Array.toList_inj.1 e.symm))
        have HK : Hid (∀ j, (h : j < l.length) → j < k + 1 → l[j] ≠ x) := fun j h1 h2 => by
          rcases Nat.lt_or_ge j k with h3 | h3
          · exact hdone.out j h1 h3
          · have : j = k := by omega
            subst this
            rw [HY.out]; exact hxy
        clear hxy
        go_wp2_with fail
        go_roundw
        case rel => exact ⟨k + 1, by omega, by go_num, HK.out, trivial⟩
        case measure => simp [intOf]; omega
    · have HN : Hid (D = -1) := by
        show D = -1
        rw [← HD.out]
        exact findM_none (fun j hj => hdone.out j hj (by omega))
      go_wp2_with fail
      go_ret
      exact ⟨ret_int HN.out.symm, rfl⟩

/-- what names stand for, in memory -/
structure ScopeAt (B : Nat) (w : World) (a1 : Option Addr) (n1 : Nat) (a2 : Option Addr) (n2 : Nat) (names : List ByteArray) (vals : List Int) : Prop where
  names : IsStrs B w a1 n1 names
  vals : IsInts B w a2 n2 vals
theorem ScopeAt.keep {B : Nat} {w w' : World} {a1 : Option Addr} {n1 : Nat} {a2 : Option Addr} {n2 : Nat} {names : List ByteArray} {vals : List Int} (h : ScopeAt B w a1 n1 a2 n2 names vals) (hb : Below B w w') : ScopeAt B w' a1 n1 a2 n2 names vals :=
  ⟨h.names.below hb, h.vals.below hb⟩
theorem ScopeAt.mono {B B' : Nat} {w : World} {a1 : Option Addr} {n1 : Nat} {a2 : Option Addr} {n2 : Nat} {names : List ByteArray} {vals : List Int} (h : ScopeAt B w a1 n1 a2 n2 names vals) (hb : B ≤ B') : ScopeAt B' w a1 n1 a2 n2 names vals :=
  ⟨h.names.mono hb, h.vals.mono hb⟩

set_option maxHeartbeats 800000 in
set_option maxRecDepth 100000 in
theorem valueOf_any (B : Nat) (a1 : Option Addr) (n1 c1 : Nat) (a2 : Option Addr) (n2 c2 : Nat) (names : List ByteArray) (vals : List Int) (x : ByteArray) (w : World) (hB : B ≤ w.heap.size) (h1 : n1 ≤ 1048576) (h2 : n2 ≤ 1048576) (h : ScopeAt B w a1 n1 a2 n2 names vals) :
    Calls Tryz.prog 191 #[.agg #[.slice a1 n1 c1, .slice a2 n2 c2], .string x] w fun e w' => e = .returned (.int .i32 (ofM names vals x)) ∧ Below w.heap.size w w' := by
  obtain ⟨hlen, hvs⟩ := h.vals
  have hfl := findM_lt names x
  have hnl := h.names.1
  have HB : Hid (Below w.heap.size w (w.alloc (.cells #[.slice a1 n1 c1, .slice a2 n2 c2] 78))) := (Below.refl _ _).alloc (Nat.le_refl _) _
  have HI : Hid (Calls Tryz.prog 56 #[.slice a1 n1 c1, .string x] (w.alloc (.cells #[.slice a1 n1 c1, .slice a2 n2 c2] 78)) fun e w' => e = .returned (.int .i64 (findM names x)) ∧ w' = (w.alloc (.cells #[.slice a1 n1 c1, .slice a2 n2 c2] 78))) := index_any B a1 n1 c1 names x _ h1 (h.names.below (HB.out.mono hB))
  obtain ⟨V, hV⟩ : ∃ V, ofM names vals x = V := ⟨_, rfl⟩
  have HV : Hid (ofM names vals x = V) := hV
  unfold ofM at hV
  rw [hlen] at hV
  obtain ⟨k, hk⟩ : ∃ k, findM names x = k := ⟨_, rfl⟩
  rw [hk] at hV HI hfl
  rw [HV.out]
  clear h hk
  by_cases hk0 : k < 0
  · rw [if_pos (.inl hk0)] at hV
    subst hV
    go_enter Tryz.func191, Tryz.ntmps191
    go_wp2_with (go_at_call 56; refine HI.out.mono ?_; rintro e w1 ⟨rfl, hw1⟩; rw [hw1]; clear hw1 w1)
    go_ret
    exact ⟨rfl, HB.out⟩
  by_cases hk1 : (n2 : Int) ≤ k
  · rw [if_pos (.inr hk1)] at hV
    subst hV
    go_enter Tryz.func191, Tryz.ntmps191
    go_wp2_with (go_at_call 56; refine HI.out.mono ?_; rintro e w1 ⟨rfl, hw1⟩; rw [hw1]; clear hw1 w1)
    go_ret
    exact ⟨rfl, HB.out⟩
  rw [if_neg (by omega)] at hV
  obtain ⟨j, rfl⟩ : ∃ j : Nat, k = j := ⟨k.toNat, by omega⟩
  rcases hvs with h0 | ⟨b, off, rfl, hb, hc⟩
  · omega
  have hcj := hc j (by omega)
  have hbw : b < w.heap.size := by omega
  have e0 : (j : Int).toNat = j := by omega
  rw [e0] at hV
  obtain ⟨y, hy⟩ : ∃ y, vals.getD j 0 = y := ⟨_, rfl⟩
  rw [hy] at hcj hV
  have HVV : Hid (wr32 y = V) := hV
  have hwr := wr32_is y
  clear hc hy hV e0
  go_enter Tryz.func191, Tryz.ntmps191
  go_wp2_with (go_at_call 56; refine HI.out.mono ?_; rintro e w1 ⟨rfl, hw1⟩; rw [hw1]; clear hw1 w1)
  go_ret
  exact ⟨ret_int (by rw [← HVV.out]; exact hwr), HB.out⟩

theorem ScopeAt.drew {B : Nat} {w : World} {a1 : Option Addr} {n1 : Nat} {a2 : Option Addr} {n2 : Nat} {names : List ByteArray} {vals : List Int} (h : ScopeAt B w a1 n1 a2 n2 names vals) : ScopeAt B w.drew a1 n1 a2 n2 names vals := ⟨h.names, h.vals⟩
theorem upon_of {P : Program} {o : Oper} {a : Act} {next : Act → World → Prop} {Q : Exit → Act → World → Prop} {R R' : Result Next} (h : R = R') (h2 : Oper.upon P o a next Q R') : Oper.upon P o a next Q R := by rw [h]; exact h2
def valueFn : Tree → FuncId
  | .num _ => 201
  | .name _ => 205
  | .ahead _ _ => 209
  | .pair _ _ _ => 196
theorem value_method (t : Tree) (y : Value) (u : World) : (callMethod (.iface (partT t) (partX t)) "loop.example/telltale/impl.value" #[y]).run Tryz.prog u = .ok (.enter (valueFn t) #[partX t, y]) u := by
  cases t
  · kernel_rfl
  · kernel_rfl
  · kernel_rfl
  · kernel_rfl
def ValueOk (t : Tree) : Prop := ∀ (B : Nat) (a1 : Option Addr) (n1 c1 : Nat) (a2 : Option Addr) (n2 c2 : Nat) (names : List ByteArray) (vals : List Int) (w : World), B ≤ w.heap.size → n1 ≤ 1048576 → n2 ≤ 1048576 → ScopeAt B w a1 n1 a2 n2 names vals →
  Calls Tryz.prog (valueFn t) #[partX t, .agg #[.slice a1 n1 c1, .slice a2 n2 c2]] w fun e w' => e = .returned (.int .i32 (valT (ofM names vals) t)) ∧ Below w.heap.size w w'

theorem numValue_any (n : Int) : ValueOk (.num n) := by
  intro B a1 n1 c1 a2 n2 c2 names vals w hB h1 h2 h
  clear h
  show Calls Tryz.prog 201 #[.agg #[.int .i64 n], .agg #[.slice a1 n1 c1, .slice a2 n2 c2]] w fun e w' => e = .returned (.int .i32 (wr32 n)) ∧ Below w.heap.size w w'
  have hwr := wr32_is n
  go_enter Tryz.func201, Tryz.ntmps201
  go_wp2_with fail
  go_ret
  exact ⟨ret_int (by first | rfl | exact hwr), ((Below.refl _ _).alloc (Nat.le_refl _) _).alloc (by simp) _⟩
theorem nameValue_any (x : ByteArray) : ValueOk (.name x) := by
  intro B a1 n1 c1 a2 n2 c2 names vals w hB h1 h2 h
  show Calls Tryz.prog 205 #[.agg #[.string x], .agg #[.slice a1 n1 c1, .slice a2 n2 c2]] w fun e w' => e = .returned (.int .i32 (ofM names vals x)) ∧ Below w.heap.size w w'
  obtain ⟨W, hW⟩ : ∃ W, W = (w.alloc (.cells #[.string x] 151)).alloc (.cells #[.slice a1 n1 c1, .slice a2 n2 c2] 78) := ⟨_, rfl⟩
  have HB : Hid (Below w.heap.size w W) := by
    show Below _ _ _
    rw [hW]; exact ((Below.refl _ _).alloc (Nat.le_refl _) _).alloc (by simp) _
  have HV : Hid (Calls Tryz.prog 191 #[.agg #[.slice a1 n1 c1, .slice a2 n2 c2], .string x] W fun e w' => e = .returned (.int .i32 (ofM names vals x)) ∧ Below W.heap.size W w') := valueOf_any B a1 n1 c1 a2 n2 c2 names vals x W (Nat.le_trans hB HB.out.size) h1 h2 (h.keep (HB.out.mono hB))
  rw [hW] at HV HB
  clear h hW
  go_enter Tryz.func205, Tryz.ntmps205
  go_wp2_with (go_at_call 191; refine HV.out.mono ?_; rintro e w1 ⟨rfl, hb1⟩)
  go_ret
  exact ⟨rfl, below_up HB.out HB.out.size hb1⟩

set_option maxHeartbeats 1600000 in
set_option maxRecDepth 100000 in
theorem aheadValue_ok (k : Int) (t : Tree) (hk : k = 3 ∨ k = 4) (hT : ValueOk t) : ValueOk (.ahead k t) := by
  intro B a1 n1 c1 a2 n2 c2 names vals w hB h1 h2 h
  show Calls Tryz.prog 209 #[.agg #[.int .i64 k, partV t], .agg #[.slice a1 n1 c1, .slice a2 n2 c2]] w fun e w' => e = .returned (.int .i32 (one k (valT (ofM names vals) t))) ∧ Below w.heap.size w w'
  rw [partV_eq]
  have HT : Hid (∀ w, B ≤ w.heap.size → ScopeAt B w a1 n1 a2 n2 names vals → Calls Tryz.prog (valueFn t) #[partX t, .agg #[.slice a1 n1 c1, .slice a2 n2 c2]] w fun e w' => e = .returned (.int .i32 (valT (ofM names vals) t)) ∧ Below w.heap.size w w') := fun w hB hs => hT B a1 n1 c1 a2 n2 c2 names vals w hB h1 h2 hs
  have hcm : ∀ u, (callMethod (.iface (partT t) (partX t)) "loop.example/telltale/impl.value" #[.agg #[.slice a1 n1 c1, .slice a2 n2 c2]]).run Tryz.prog u = .ok (.enter (valueFn t) #[partX t, .agg #[.slice a1 n1 c1, .slice a2 n2 c2]]) u := value_method t _
  generalize valT (ofM names vals) t = v at *
  generalize partX t = px at *
  generalize partT t = pt at *
  generalize valueFn t = fn at *
  have HA : Hid (∀ w, Calls Tryz.prog 110 #[.int .i64 k, .int .i32 v] w fun e w' => e = .returned (.int .i32 (one k v)) ∧ w' = w) := fun w => aheadValue_any k v w hk
  generalize one k v = r at *
  simp [go_sem, callMethod] at hcm
  have HCM := hidOf hcm
  clear hcm
  have B0 : Below w.heap.size w ((w.alloc (.cells #[.int .i64 k, .iface pt px] 153)).alloc (.cells #[.slice a1 n1 c1, .slice a2 n2 c2] 78)) := ((Below.refl _ _).alloc (Nat.le_refl _) _).alloc (by simp) _
  have hsc := h.keep (B0.mono hB)
  clear h hT hk
  go_enter Tryz.func209, Tryz.ntmps209
  go_wp2_with fail
  go_region_held3 (fun w' => w'.cell? ⟨w.heap.size, 0, none⟩ = some (.int .i64 k) ∧ w'.cell? ⟨w.heap.size, 1, none⟩ = some (.iface pt px) ∧ w'.cell? ⟨w.heap.size + 1, 0, none⟩ = some (.slice a1 n1 c1) ∧ w'.cell? ⟨w.heap.size + 1, 1, none⟩ = some (.slice a2 n2 c2)) (simp [go_sem, *])
    (first
     | (go_at_call 110; refine (HA.out _).mono ?_; rintro e w2 ⟨rfl, hw2⟩; rw [hw2]; clear hw2 w2)
     | (refine upon_of (HCM.out _) ?_; show Calls _ _ _ _ _; refine (HT.out _ (by simp; omega) (by first | assumption | exact ScopeAt.drew (by assumption))).mono ?_; rintro e w1 ⟨rfl, hb1⟩; have hs1 : w.heap.size + 1 < w1.heap.size := (by have := hb1.size; simp at this; omega); obtain ⟨hc1, hf1⟩ := bcell hb1))
  all_goals
    go_wp2_with fail
    go_ret
    exact ⟨rfl, B0.trans ((undrew hb1).mono (by simp; omega))⟩

set_option maxHeartbeats 3200000 in
set_option maxRecDepth 100000 in
theorem pairValue_ok (k : Int) (t u : Tree) (hk : 5 ≤ k ∧ k ≤ 13) (hT : ValueOk t) (hU : ValueOk u) : ValueOk (.pair k t u) := by
  intro B a1 n1 c1 a2 n2 c2 names vals w hB h1 h2 h
  show Calls Tryz.prog 196 #[.agg #[.int .i64 k, partV t, partV u], .agg #[.slice a1 n1 c1, .slice a2 n2 c2]] w fun e w' => e = .returned (.int .i32 (two k (valT (ofM names vals) t) (valT (ofM names vals) u))) ∧ Below w.heap.size w w'
  rw [partV_eq t, partV_eq u]
  have HT : Hid (∀ w, B ≤ w.heap.size → ScopeAt B w a1 n1 a2 n2 names vals → Calls Tryz.prog (valueFn t) #[partX t, .agg #[.slice a1 n1 c1, .slice a2 n2 c2]] w fun e w' => e = .returned (.int .i32 (valT (ofM names vals) t)) ∧ Below w.heap.size w w') := fun w hB hs => hT B a1 n1 c1 a2 n2 c2 names vals w hB h1 h2 hs
  have HU : Hid (∀ w, B ≤ w.heap.size → ScopeAt B w a1 n1 a2 n2 names vals → Calls Tryz.prog (valueFn u) #[partX u, .agg #[.slice a1 n1 c1, .slice a2 n2 c2]] w fun e w' => e = .returned (.int .i32 (valT (ofM names vals) u)) ∧ Below w.heap.size w w') := fun w hB hs => hU B a1 n1 c1 a2 n2 c2 names vals w hB h1 h2 hs
  have hcm : ∀ u, (callMethod (.iface (partT t) (partX t)) "loop.example/telltale/impl.value" #[.agg #[.slice a1 n1 c1, .slice a2 n2 c2]]).run Tryz.prog u = .ok (.enter (valueFn t) #[partX t, .agg #[.slice a1 n1 c1, .slice a2 n2 c2]]) u := value_method t _
  have hcu : ∀ w, (callMethod (.iface (partT u) (partX u)) "loop.example/telltale/impl.value" #[.agg #[.slice a1 n1 c1, .slice a2 n2 c2]]).run Tryz.prog w = .ok (.enter (valueFn u) #[partX u, .agg #[.slice a1 n1 c1, .slice a2 n2 c2]]) w := value_method u _
  generalize valT (ofM names vals) t = v at *
  generalize valT (ofM names vals) u = y at *
  generalize partX t = px at *
  generalize partT t = pt at *
  generalize valueFn t = fn at *
  generalize partX u = qx at *
  generalize partT u = qt at *
  generalize valueFn u = gn at *
  have HA : Hid (∀ w, Calls Tryz.prog 111 #[.int .i64 k, .int .i32 v, .int .i32 y] w fun e w' => e = .returned (.int .i32 (two k v y)) ∧ w' = w) := fun w => pairValue_any k v y w hk
  generalize two k v y = r at *
  simp [go_sem, callMethod] at hcm hcu
  have HCM := hidOf hcm
  have HCU := hidOf hcu
  clear hcm hcu
  have B0 : Below w.heap.size w ((w.alloc (.cells #[.int .i64 k, .iface pt px, .iface qt qx] 140)).alloc (.cells #[.slice a1 n1 c1, .slice a2 n2 c2] 78)) := ((Below.refl _ _).alloc (Nat.le_refl _) _).alloc (by simp) _
  have hsc := h.keep (B0.mono hB)
  clear h hT hU hk
  go_enter Tryz.func196, Tryz.ntmps196
  go_wp2_with fail
  go_region_held3 (fun w' => w'.cell? ⟨w.heap.size, 0, none⟩ = some (.int .i64 k) ∧ w'.cell? ⟨w.heap.size, 1, none⟩ = some (.iface pt px) ∧ w'.cell? ⟨w.heap.size, 2, none⟩ = some (.iface qt qx) ∧ w'.cell? ⟨w.heap.size + 1, 0, none⟩ = some (.slice a1 n1 c1) ∧ w'.cell? ⟨w.heap.size + 1, 1, none⟩ = some (.slice a2 n2 c2)) (simp [go_sem, *])
    (first
     | (go_at_call 111; refine (HA.out _).mono ?_; rintro e w2 ⟨rfl, hw2⟩; rw [hw2]; clear hw2 w2)
     | (refine upon_of (HCM.out _) ?_; show Calls _ _ _ _ _; refine (HT.out _ (by simp; omega) (by first | assumption | exact ScopeAt.drew (by assumption))).mono ?_; rintro e w1 ⟨rfl, hb1⟩; have hs1 : w.heap.size + 1 < w1.heap.size := (by have := hb1.size; simp at this; omega); have hs0 : w.heap.size < w1.heap.size := (by omega); have hB1 : Below w.heap.size w w1 := B0.trans ((undrew hb1).mono (by simp; omega)); have hsc1 : ScopeAt B w1 a1 n1 a2 n2 names vals := hsc.keep ((undrew hb1).mono (by simp; omega)); obtain ⟨hc1, hf1⟩ := bcell hb1; clear hb1 hf1)
     | (refine upon_of (HCU.out _) ?_; show Calls _ _ _ _ _; refine (HU.out _ (by omega) (by first | assumption | exact ScopeAt.drew (by assumption))).mono ?_; rintro e w3 ⟨rfl, hb3⟩; have hs3 : w.heap.size + 1 < w3.heap.size := (by have := hb3.size; omega); have hB3 : Below w.heap.size w w3 := hB1.trans (hb3.mono (by omega)); obtain ⟨hc3, hf3⟩ := bcell hb3; clear hb3 hf3))
  all_goals
    go_wp2_with fail
    go_ret
    exact ⟨rfl, by assumption⟩

theorem value_ok (t : Tree) (h : Wf t) : ValueOk t := by
  induction t with
  | num n => exact numValue_any n
  | name x => exact nameValue_any x
  | ahead k t ih => exact aheadValue_ok k t h.1 (ih h.2)
  | pair k l r ihl ihr => exact pairValue_ok k l r h.1 (ihl h.2.1) (ihr h.2.2)

set_option maxHeartbeats 800000 in
set_option maxRecDepth 100000 in
theorem implRun_nds (B0 : Nat) (a : Option Addr) (n cap : Nat) (l : List Nd) (a1 : Option Addr) (n1 c1 : Nat) (a2 : Option Addr) (n2 c2 : Nat) (names : List ByteArray) (vals : List Int) (w : World) (hw : Tabs w) (hn : n ≤ 1048576) (hB0 : B0 ≤ w.heap.size) (hsz : ∀ x ∈ l, x.2.2.size ≤ 1048576) (h64 : Nums64 l) (hz : IsNds B0 w a n l)
    (h1 : n1 ≤ 1048576) (h2 : n2 ≤ 1048576) (hs : ScopeAt B0 w a1 n1 a2 n2 names vals) :
    Calls Tryz.prog 20 #[.slice a n cap, .slice a1 n1 c1, .slice a2 n2 c2] w fun e w' => e = .returned (.int .i64 (valM (ofM names vals) l)) ∧ Below w.heap.size w w' := by
  have HT : Hid (Calls Tryz.prog 45 #[.slice a n cap] w fun e w' => TreePost w (sumM l) e w') := sumOf_any B0 a n cap l w hw hn hB0 hsz h64 hz
  have HS : Hid (ScopeAt B0 w a1 n1 a2 n2 names vals) := hs
  clear hz hw hsz hs
  unfold valM
  cases ht : sumM l with
  | none =>
    rw [ht] at HT
    simp only
    go_enter Tryz.func20, Tryz.ntmps20
    go_wp2_with fail
    refine HT.out.mono ?_
    rintro e w1 ⟨hb1, v, hv, rfl⟩
    rcases hv with rfl | ⟨tv, xv, rfl⟩
    · go_wp2_with fail
      go_ret
      exact ⟨rfl, hb1⟩
    · go_wp2_with fail
      go_ret
      exact ⟨rfl, hb1⟩
  | some t =>
    rw [ht] at HT
    simp only
    obtain ⟨hwf, hl24⟩ := sumM_wf h64 ht
    have HCM : Hid (∀ u, (callMethod (.iface (partT t) (partX t)) "loop.example/telltale/impl.value" #[.agg #[.slice a1 n1 c1, .slice a2 n2 c2]]).run Tryz.prog u = .ok (.enter (valueFn t) #[partX t, .agg #[.slice a1 n1 c1, .slice a2 n2 c2]]) u) := value_method t _
    have HVO : Hid (ValueOk t) := value_ok t hwf
    have hin := valT_in (ofM_in names vals) t
    clear ht hwf h64
    go_enter Tryz.func20, Tryz.ntmps20
    go_wp2_with fail
    refine HT.out.mono ?_
    rintro e w1 ⟨hb1, rfl⟩
    have HB1 : Hid (Below w.heap.size w w1) := hb1
    have hs1 := hb1.size
    have HX : Hid (Calls Tryz.prog (valueFn t) #[partX t, .agg #[.slice a1 n1 c1, .slice a2 n2 c2]] w1 fun e w' => e = .returned (.int .i32 (valT (ofM names vals) t)) ∧ Below w1.heap.size w1 w') := HVO.out B0 a1 n1 c1 a2 n2 c2 names vals w1 (by omega) h1 h2 (HS.out.keep (hb1.mono hB0))
    clear hb1 HT HVO
    rw [partV_eq]
    generalize partX t = px at *
    generalize partT t = pt at *
    generalize valueFn t = fn at *
    obtain ⟨r, hr⟩ : ∃ r, valT (ofM names vals) t = r := ⟨_, rfl⟩
    have HR : Hid (valT (ofM names vals) t = r) := hr
    rw [hr] at HX hin
    obtain ⟨hi1, hi2⟩ := hin
    clear hr
    go_wp2_with (refine wpList_invoke rfl (.tmp 16) (.tmp 19) _ _ rfl pt px (.agg #[.slice a1 n1 c1, .slice a2 n2 c2]) fn rfl rfl (HCM.out _) HX.out ?_)
    intro e w2 he hb2
    subst he
    refine ⟨_, rfl, ?_⟩
    have HB2 : Hid (Below w.heap.size w w2) := below_up HB1.out hs1 hb2
    clear hb2 HX HCM
    go_wp2_with fail
    go_ret
    exact ⟨ret_int (by rw [HR.out]), HB2.out⟩
end Go.Proofs.YtcajjngjojegfaaGreatDoor

/- What ExprRun of the model comes to. -/
namespace Go.Proofs.YtcajjngjojegfaaGreatDoor
open Go Go.RowKit Go.PlainAid
set_option linter.unusedSimpArgs false
set_option linter.unusedVariables false

set_option maxHeartbeats 800000 in
set_option maxRecDepth 100000 in
theorem l1Of_any (B : Nat) (a1 : Option Addr) (n1 c1 : Nat) (a2 : Option Addr) (n2 c2 : Nat) (names : List ByteArray) (vals : List Int) (x : ByteArray) (w : World) (hB : B ≤ w.heap.size) (h1 : n1 ≤ 1048576) (h2 : n2 ≤ 1048576) (hx : x.size ≤ 1048576) (hls : ∀ y ∈ names, y.size ≤ 1048576) (h : ScopeAt B w a1 n1 a2 n2 names vals) :
    Calls Tryz.prog 75 #[.slice a1 n1 c1, .slice a2 n2 c2, .string x] w fun e w' => e = .returned (.int .i64 (ofM names vals x)) ∧ w' = w := by
  obtain ⟨hlen, hvs⟩ := h.vals
  have hfl := findM_lt names x
  have hnl := h.names.1
  have HI : Hid (Calls Tryz.prog 83 #[.slice a1 n1 c1, .string x] w fun e w' => e = .returned (.int .i64 (findM names x)) ∧ w' = w) := l1Find_any B a1 n1 c1 names x _ h1 hx hls h.names
  obtain ⟨V, hV⟩ : ∃ V, ofM names vals x = V := ⟨_, rfl⟩
  have HV : Hid (ofM names vals x = V) := hV
  unfold ofM at hV
  rw [hlen] at hV
  obtain ⟨k, hk⟩ : ∃ k, findM names x = k := ⟨_, rfl⟩
  rw [hk] at hV HI hfl
  rw [HV.out]
  clear h hk hls
  by_cases hk0 : k < 0
  · rw [if_pos (.inl hk0)] at hV
    subst hV
    go_enter Tryz.func75, Tryz.ntmps75
    go_wp2_with (go_at_call 83; refine HI.out.mono ?_; rintro e w1 ⟨rfl, hw1⟩; rw [hw1]; clear hw1 w1)
    go_ret
    exact ⟨rfl, rfl⟩
  by_cases hk1 : (n2 : Int) ≤ k
  · rw [if_pos (.inr hk1)] at hV
    subst hV
    go_enter Tryz.func75, Tryz.ntmps75
    go_wp2_with (go_at_call 83; refine HI.out.mono ?_; rintro e w1 ⟨rfl, hw1⟩; rw [hw1]; clear hw1 w1)
    go_ret
    exact ⟨rfl, rfl⟩
  rw [if_neg (by omega)] at hV
  obtain ⟨j, rfl⟩ : ∃ j : Nat, k = j := ⟨k.toNat, by omega⟩
  rcases hvs with h0 | ⟨b, off, rfl, hb, hc⟩
  · omega
  have hcj := hc j (by omega)
  have e0 : (j : Int).toNat = j := by omega
  rw [e0] at hV
  obtain ⟨y, hy⟩ : ∃ y, vals.getD j 0 = y := ⟨_, rfl⟩
  rw [hy] at hcj hV
  have HVV : Hid (wr32 y = V) := hV
  clear hc hy hV e0
  go_enter Tryz.func75, Tryz.ntmps75
  go_wp2_with (first
    | (go_at_call 83; refine HI.out.mono ?_; rintro e w1 ⟨rfl, hw1⟩; rw [hw1]; clear hw1 w1)
    | (go_at_call 76; refine (l1Wrap_any _ _).mono ?_; rintro e w1 ⟨rfl, hw1⟩; rw [hw1]; clear hw1 w1))
  go_ret
  exact ⟨ret_int HVV.out, rfl⟩

set_option maxHeartbeats 1600000 in
set_option maxRecDepth 100000 in
theorem l1Run_any (B0 : Nat) (a : Option Addr) (n cap : Nat) (l : List Nd) (a1 : Option Addr) (n1 c1 : Nat) (a2 : Option Addr) (n2 c2 : Nat) (names : List ByteArray) (vals : List Int) (t : Tree) (w : World) (hB0 : B0 ≤ w.heap.size) (ht : sumM l = some t) (hz : IsNds B0 w a n l)
    (h1 : n1 ≤ 1048576) (h2 : n2 ≤ 1048576) (hls : ∀ y ∈ names, y.size ≤ 1048576) (hsz : ∀ x ∈ l, x.2.2.size ≤ 1048576) (hs : ScopeAt B0 w a1 n1 a2 n2 names vals) :
    Calls Tryz.prog 55 #[.slice a n cap, .slice a1 n1 c1, .slice a2 n2 c2] w fun e w' => e = .returned (.int .i64 (valT (ofM names vals) t)) ∧ Below w.heap.size w w' := by
  have hlen := hz.1
  have h24 := (sumM_some ht).1
  rw [hlen] at h24
  have HZ : Hid (IsNds B0 w a n l) := hz
  have HS : Hid (ScopeAt B0 w a1 n1 a2 n2 names vals) := hs
  have HT : Hid (sumM l = some t) := ht
  have HLS : Hid (∀ y ∈ names, y.size ≤ 1048576) := hls
  have HSZ : Hid (∀ x ∈ l, x.2.2.size ≤ 1048576) := hsz
  obtain ⟨f, hf⟩ : ∃ f, ofM names vals = f := ⟨_, rfl⟩
  have HF : Hid (ofM names vals = f) := hf
  have HFI : Hid (∀ x, In32 (f x)) := fun x => by rw [← hf]; exact ofM_in names vals x
  have HE : Hid (runNds f l n = [valT f t]) := by
    show runNds f l n = _
    rw [← hlen]; exact runNds_sum ht
  rw [hf]
  obtain ⟨i0, hi, hz0, hz1, hz2⟩ := info_parts infoInt
  clear hz hs ht hls hsz hf
  go_enter Tryz.func55, Tryz.ntmps55
  go_wp2_with fail
  go_loopw [7, 8] (fun v i wr => ∃ (k g c : Nat), k ≤ n ∧ i = .int .i64 k ∧ v = .slice (some ⟨g, 0, none⟩) (runNds f l k).length c ∧ Hid (Own w.heap.size g c wr (runNds f l k)) ∧ Below w.heap.size w wr) (fun _ i _ => n - (intOf i).toNat)
  case atStart =>
    exact ⟨0, w.heap.size, 0, Nat.zero_le _, rfl, rfl, World.ownsRow_made w #[] 0 (Nat.le_refl _) (Nat.zero_le _) rfl, (Below.refl _ _).alloc (Nat.le_refl _) _⟩
  case round =>
    obtain ⟨k, g, c, hk, rfl, rfl, HO, hbel⟩ := hrel
    obtain ⟨hg1, hg2⟩ := HO.out.lt
    have hcap := HO.out.cap
    by_cases hlt : k < n
    · obtain ⟨h32, hl⟩ := run_in HFI.out HT.out (show k ≤ l.length by omega)
      rcases HZ.out.2 with h0 | ⟨b, off, rfl, hb, hc⟩
      · omega
      obtain ⟨x, hx⟩ : ∃ x, l[k]'(by omega) = x := ⟨_, rfl⟩
      have hgx : l.getD k (0, 0, noName) = x := by rw [List.getD_eq_getElem?_getD, List.getElem?_eq_getElem (by omega), hx]; rfl
      have hxs : x.2.2.size ≤ 1048576 := by
        have := HSZ.out (l[k]'(by omega)) (List.getElem_mem _)
        rw [hx] at this; exact this
      have hfind := node_finds (f := f) HT.out (show k < l.length by omega) hgx
      have cc := hc k (by omega)
      rw [hx] at cc
      have HR : Hid (runNds f l (k + 1) = runNd f x (runNds f l k)) := by
        show runNds f l (k + 1) = _
        rw [← hgx]; rfl
      obtain ⟨xk, xn, xs⟩ := x
      have c0 := (hbel.cell (p := ⟨b, off + k * 3, none⟩) (by simp; omega)).trans cc.1
      have c1' := (hbel.cell (p := ⟨b, off + k * 3 + 1, none⟩) (by simp; omega)).trans cc.2.1
      have c2' := (hbel.cell (p := ⟨b, off + k * 3 + 1 + 1, none⟩) (by simp; omega)).trans cc.2.2
      generalize runNds f l k = st at *
      have hbw : b < wr.heap.size := by have := hbel.size; omega
      have hws := hbel.size
      have HOF : Hid (∀ w', Below w.heap.size w w' → Calls Tryz.prog 75 #[.slice a1 n1 c1, .slice a2 n2 c2, .string xs] w' fun e w'' => e = .returned (.int .i64 (f xs)) ∧ w'' = w') := fun w' hb' => by
        rw [← HF.out]
        exact l1Of_any B0 a1 n1 c1 a2 n2 c2 names vals xs w' (Nat.le_trans hB0 hb'.size) h1 h2 hxs HLS.out (HS.out.keep (hb'.mono hB0))
      simp only at hfind
      clear hc cc hx hgx
      rcases hfind with ⟨rfl, y0, y1⟩ | rfl | ⟨hx, hst1⟩ | ⟨hx, hst1⟩
      · have HR0 : runNd f (1, xn, xs) st = xn :: st := by simp [runNd]
        rw [HR0] at HR
        clear HR0 h32
        · skip
          go_wp2_with (at_builtin; refine wpList_append_own _ rfl _ _ 32 rfl w.heap.size 3 i0 (.int .i64 0) 1 8 Tryz.underlying32 hi hz0 hz1 hz2 rfl (by decide) _ _ _ rfl (World.ownsRow.alloc HO.out _) ⟨wr.heap.size, 0, none⟩ 1 1 [.int .i64 xn] rfl rfl ?c1 ?c2 ?c3 ?c4 ?c5 ?_)
          case c2 => first | rfl | (intro u hu; simp at hu; subst hu; rfl)
          case c3 => unfold maxLen; omega
          case c4 => omega
          case c5 => first | omega | (simp; omega)
          intro v' w1 hown' hgrow _
          obtain ⟨g1, cap1, hv1, ho1⟩ := Own.of hown'
          have hb1 : Below w.heap.size w w1 := (hbel.alloc hbel.size _).grown hgrow (by simp; omega) (fun q hq => by have := (World.ownsRow.lt HO.out q hq).1; omega)
          have HO1 : Hid (Own w.heap.size g1 cap1 w1 (runNds f l (k + 1))) := by
            show Own _ _ _ _ _
            rw [HR.out]; exact ho1
          have HL : Hid ((runNds f l (k + 1)).length = st.length + 1) := by
            show List.length _ = _
            rw [HR.out]; simp
          clear hown' hgrow ho1
          subst hv1
          go_wp2_with fail
          go_roundw
          case rel => exact ⟨k + 1, g1, cap1, by omega, by go_num, by rw [HL.out], HO1.out, hb1⟩
          case measure => simp [intOf]; omega
      · have HR0 : runNd f (2, xn, xs) st = f xs :: st := by simp [runNd]
        rw [HR0] at HR
        clear HR0 h32
        obtain ⟨q, hq⟩ : ∃ q, f xs = q := ⟨_, rfl⟩
        rw [hq] at HR HOF
        clear hq
        · skip
          go_wp2_with (first
            | (go_at_call 75; refine (HOF.out _ hbel).mono ?_; rintro e w' ⟨rfl, hw'⟩; rw [hw']; clear hw' w')
            | (at_builtin; refine wpList_append_own _ rfl _ _ 32 rfl w.heap.size 3 i0 (.int .i64 0) 1 8 Tryz.underlying32 hi hz0 hz1 hz2 rfl (by decide) _ _ _ rfl (World.ownsRow.alloc HO.out _) ⟨wr.heap.size, 0, none⟩ 1 1 [.int .i64 q] rfl rfl ?d1 ?d2 ?d3 ?d4 ?d5 ?_))
          case d1 => exact one_new _ _ _
          case d2 => intro u hu; simp at hu; subst hu; rfl
          case d3 => unfold maxLen; omega
          case d4 => omega
          case d5 => simp; omega
          intro v' w1 hown' hgrow _
          obtain ⟨g1, cap1, hv1, ho1⟩ := Own.of hown'
          have hb1 : Below w.heap.size w w1 := (hbel.alloc hbel.size _).grown hgrow (by simp; omega) (fun q hq => by have := (World.ownsRow.lt HO.out q hq).1; omega)
          have HO1 : Hid (Own w.heap.size g1 cap1 w1 (runNds f l (k + 1))) := by
            show Own _ _ _ _ _
            rw [HR.out]; exact ho1
          have HL : Hid ((runNds f l (k + 1)).length = st.length + 1) := by
            show List.length _ = _
            rw [HR.out]; simp
          clear hown' hgrow ho1
          subst hv1
          go_wp2_with fail
          go_roundw
          case rel => exact ⟨k + 1, g1, cap1, by omega, by go_num, by rw [HL.out], HO1.out, hb1⟩
          case measure => simp [intOf]; omega
      · obtain ⟨z, r, rfl⟩ := hst1
        obtain ⟨z1, z2⟩ := h32 z (by simp)
        obtain ⟨t1, t2⟩ := HO.out.top
        have HL : Hid ((runNds f l (k + 1)).length = r.length + 1) := by
          show List.length _ = _
          rw [HR.out]; rcases hx with rfl | rfl <;> simp [runNd]
        have HO1 : ∀ u, u = one xk z → Hid (Own w.heap.size g c (wr.setCell ⟨g, r.length, none⟩ (.int .i64 u)) (runNds f l (k + 1))) := fun u hu => by
          show Own _ _ _ _ _
          have e : runNds f l (k + 1) = u :: r := by rw [HR.out, hu]; rcases hx with rfl | rfl <;> simp [runNd]
          rw [e]; exact HO.out.put u
        have hb1 : ∀ u, Below w.heap.size w (wr.setCell ⟨g, r.length, none⟩ u) := fun u => hbel.setCell hg1 u
        simp at hl hcap
        clear h32 HR
        rcases hx with rfl | rfl
        · have HO2 := HO1 (wr32 (-z)) rfl
          clear HO1
          go_wp2_with (go_at_call 76; refine (l1Wrap_any _ _).mono ?_; rintro e w' ⟨rfl, rfl⟩)
          go_roundw
          case rel => exact ⟨k + 1, g, c, by omega, by go_num, by rw [HL.out], HO2, hb1 _⟩
          case measure => simp [intOf]; omega
        · have HO2 := HO1 (bit (z == 0)) rfl
          clear HO1
          go_wp2_with (go_at_call 77; refine (l1Bit_any _ _).mono ?_; rintro e w' ⟨rfl, rfl⟩)
          go_roundw
          case rel => exact ⟨k + 1, g, c, by omega, by go_num, by rw [HL.out], HO2, hb1 _⟩
          case measure => simp [intOf]; omega
      · obtain ⟨z, z', r, rfl⟩ := hst1
        have HZ1 : Hid (In32 z) := h32 z (by simp)
        have HZ2 : Hid (In32 z') := h32 z' (by simp)
        have HX : Hid (5 ≤ xk ∧ xk ≤ 13) := hx
        obtain ⟨t1, t2⟩ := HO.out.top
        obtain ⟨t3, t4⟩ := HO.out.next
        have HR2 : runNd f (xk, xn, xs) (z :: z' :: r) = two xk z' z :: r := by
          unfold runNd
          rw [if_neg (by simp; omega), if_neg (by simp; omega), if_neg (by simp; omega)]
          rfl
        have HL : Hid ((runNds f l (k + 1)).length = r.length + 1) := by
          show List.length _ = _
          rw [HR.out, HR2]; rfl
        have HO1 : Hid (Own w.heap.size g c (wr.setCell ⟨g, r.length, none⟩ (.int .i64 (two xk z' z))) (runNds f l (k + 1))) := by
          show Own _ _ _ _ _
          rw [HR.out, HR2]; exact HO.out.put2 _
        have hb1 : ∀ u, Below w.heap.size w (wr.setCell ⟨g, r.length, none⟩ u) := fun u => hbel.setCell hg1 u
        have e1 : (xk == 1) = false := by simp; omega
        have e2 : (xk == 2) = false := by simp; omega
        have e3 : (xk == 3) = false := by simp; omega
        have e4 : (xk == 4) = false := by simp; omega
        obtain ⟨N, hN⟩ : ∃ N, (z :: z' :: r).length = N := ⟨_, rfl⟩
        obtain ⟨L, hL⟩ : ∃ L, r.length = L := ⟨_, rfl⟩
        obtain ⟨M, hM⟩ : ∃ M, (z' :: r).length = M := ⟨_, rfl⟩
        have q1 : (N : Int) - 2 = L := by simp at hN; omega
        have q2 : (N : Int) - 1 = M := by simp at hN hM; omega
        have q3 : L < N := by simp at hN; omega
        have q4 : M < N := by simp at hN hM; omega
        have q5 : M = L + 1 := by simp at hM; omega
        have HQ5 : Hid (M = L + 1) := q5
        rw [hN] at hl hcap ⊢
        have p1 : IntKind.i64.wrap (L : Int) = L := by exact IntWalk.i64_in _ ⟨by omega, by omega⟩
        have p2 : IntKind.i64.wrap (M : Int) = M := by exact IntWalk.i64_in _ ⟨by omega, by omega⟩
        have p3 : (L : Int) < N := by omega
        have p4 : (M : Int) < N := by omega
        have p5 : (0 : Int) ≤ L := by omega
        have p6 : (0 : Int) ≤ M := by omega
        clear q5
        rw [hL] at t3 t4 HO1 hb1 HL
        rw [hM] at t1 t2
        clear h32 HR HR2 hx hN hL hM HO HOF
        go_wp2_with fail
        go_region_with (go_at_call 78; refine (l1Two_any _ _ _ _ HX.out HZ2.out HZ1.out).mono ?_; rintro e w' ⟨rfl, rfl⟩)
        all_goals
          go_wp2_with fail
          go_roundw
          case rel => exact ⟨k + 1, g, c, by omega, by go_num, by rw [HL.out, HQ5.out], HO1.out, (hb1 _).drew⟩
          case measure => simp [intOf]; omega
    · have : k = n := by omega
      subst this
      obtain ⟨z, hzz⟩ : ∃ z, valT f t = z := ⟨_, rfl⟩
      have HZZ : Hid (valT f t = z) := hzz
      have he := HE.out
      rw [hzz] at he
      rw [he] at HO ⊢
      obtain ⟨t1, t2⟩ := HO.out.top
      simp at t1
      clear he hzz
      go_wp2_with fail
      go_ret
      exact ⟨ret_int HZZ.out.symm, hbel⟩

set_option maxHeartbeats 800000 in
set_option maxRecDepth 100000 in
theorem specRun_nds (B0 : Nat) (a : Option Addr) (n cap : Nat) (l : List Nd) (a1 : Option Addr) (n1 c1 : Nat) (a2 : Option Addr) (n2 c2 : Nat) (names : List ByteArray) (vals : List Int) (w : World) (hn : n ≤ 1048576) (hB0 : B0 ≤ w.heap.size) (hsz : ∀ x ∈ l, x.2.2.size ≤ 1048576) (hz : IsNds B0 w a n l)
    (h1 : n1 ≤ 1048576) (h2 : n2 ≤ 1048576) (hls : ∀ y ∈ names, y.size ≤ 1048576) (hs : ScopeAt B0 w a1 n1 a2 n2 names vals) :
    Calls Tryz.prog 21 #[.slice a n cap, .slice a1 n1 c1, .slice a2 n2 c2] w fun e w' => e = .returned (.int .i64 (valM (ofM names vals) l)) ∧ Below w.heap.size w w' := by
  have HP : Hid (Calls Tryz.prog 46 #[.slice a n cap] w fun e w' => e = .returned (.string (putM l)) ∧ Below w.heap.size w w') := l1Put_any B0 a n cap l w hn hB0 hsz hz
  have HPE := hidOf (putM_empty l)
  have HZ : Hid (IsNds B0 w a n l) := hz
  have HS : Hid (ScopeAt B0 w a1 n1 a2 n2 names vals) := hs
  have HLS : Hid (∀ y ∈ names, y.size ≤ 1048576) := hls
  have HSZ : Hid (∀ x ∈ l, x.2.2.size ≤ 1048576) := hsz
  clear hz hs hls hsz
  unfold valM
  obtain ⟨P, hP⟩ : ∃ P, putM l = P := ⟨_, rfl⟩
  rw [hP] at HP HPE
  clear hP
  cases ht : sumM l with
  | none =>
    have he : P.toList.isEmpty = true := HPE.out.2 ht
    simp only
    go_enter Tryz.func21, Tryz.ntmps21
    go_wp2_with (go_at_call 46; refine HP.out.mono ?_; rintro e w1 ⟨rfl, hb1⟩)
    go_ret
    exact ⟨rfl, hb1⟩
  | some t =>
    have he : P.toList.isEmpty = false := by
      cases h : P.toList.isEmpty with
      | false => rfl
      | true => rw [HPE.out.1 h] at ht; cases ht
    simp only
    have HT : Hid (sumM l = some t) := ht
    clear ht
    go_enter Tryz.func21, Tryz.ntmps21
    go_wp2_with (first
      | (go_at_call 46; refine HP.out.mono ?_; rintro e w1 ⟨rfl, hb1⟩)
      | (go_at_call 55; refine (l1Run_any B0 a n cap l a1 n1 c1 a2 n2 c2 names vals t w1 (Nat.le_trans hB0 hb1.size) HT.out (HZ.out.below (hb1.mono hB0)) h1 h2 HLS.out HSZ.out (HS.out.keep (hb1.mono hB0))).mono ?_; rintro e w2 ⟨rfl, hb2⟩))
    go_ret
    exact ⟨rfl, below_up hb1 hb1.size hb2⟩
end Go.Proofs.YtcajjngjojegfaaGreatDoor
