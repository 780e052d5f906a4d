/- The model's l1Put, ExprPut and ExprGet, walked. -/
import Derived.Test.YtchemhjcknkbgaaGreatDoorParShow2
import Derived.Test.YtchemhjcknkbgaaGreatDoorBunY12
import Derived.Test.YtchemhjcknkbgaaGreatDoorBunY15
import Derived.Test.YtchemhjcknkbgaaGreatDoorBunY2
namespace Go.Proofs.YtchemhjcknkbgaaGreatDoor
open Go Go.RowKit Go.PlainAid
set_option linter.unusedSimpArgs false
set_option linter.unusedVariables false

/-- the text of nodes that are a sum; the empty one of others -/
def putM (l : List Nd) : ByteArray := if 24 < l.length then noName else match showM l with | some t => if getM t = some l then t else noName | none => noName

theorem showM_size {l : List Nd} {t : ByteArray} (h : showM l = some t) : t.size ≤ 6 * l.length := by
  unfold showM at h
  split at h
  · rename_i t' lv he
    cases h
    have := (total_to he).1
    simp [total] at this
    omega
  · cases h

set_option maxHeartbeats 800000 in
set_option maxRecDepth 100000 in
theorem l1Put_any (B0 : Nat) (a : Option Addr) (n cap : Nat) (l : List Nd) (w : World) (hn : n ≤ 1048576) (hB0 : B0 ≤ w.heap.size) (hsz : ∀ x ∈ l, x.2.2.size ≤ 1048576) (hz : IsNds B0 w a n l) :
    Calls Tryz.prog 196 #[.slice a n cap] w fun e w' => e = .returned (.string (putM l)) ∧ Below w.heap.size w w' := by
  have hlen := hz.1
  have HZ : Hid (IsNds B0 w a n l) := hz
  have HSZ : Hid (∀ x ∈ l, x.2.2.size ≤ 1048576) := hsz
  clear hz hsz
  obtain ⟨D, hD⟩ : ∃ D, putM l = D := ⟨_, rfl⟩
  have HD : Hid (putM l = D) := hD
  rw [hD]; clear hD
  by_cases h24 : 24 < n
  · have HN : Hid (D = noName) := by
      show D = noName
      rw [← HD.out]; unfold putM; rw [if_pos (by omega)]
    go_enter Tryz.func196, Tryz.ntmps196
    go_wp2_with fail
    go_ret
    exact ⟨ret_str HN.out.symm, Below.refl _ _⟩
  · have HP : Hid (D = match showM l with | some t => if getM t = some l then t else noName | none => noName) := by
      show D = _
      rw [← HD.out]; unfold putM; rw [if_neg (by omega)]
    cases hsh : showM l with
    | none =>
      have HN : Hid (D = noName) := by
        show D = noName
        rw [HP.out, hsh]
      have HS : Hid (showRes l = (noName, false)) := showRes_no hsh
      clear hsh
      go_enter Tryz.func196, Tryz.ntmps196
      go_wp2_with fail
      refine (l1Show_any B0 a n cap l _ (by omega) hB0 HSZ.out HZ.out).mono ?_
      rw [HS.out]
      rintro e w1 ⟨rfl, hb1⟩
      go_wp2_with fail
      refine (l1Get_any noName _ (by decide)).mono ?_
      rintro e w2 ⟨v, b, rfl, _, _, hb2⟩
      have HB : Hid (Below w.heap.size w w2) := hb1.trans (hb2.mono hb1.size)
      clear hb1 hb2
      go_wp2_with fail
      go_ret
      exact ⟨ret_str HN.out.symm, HB.out⟩
    | some t =>
      have HS : Hid (showRes l = (t, true)) := by
        show showRes l = _
        unfold showRes; rw [hsh]
      have hts := showM_size hsh
      have HT : Hid (D = if getM t = some l then t else noName) := by
        show D = _
        rw [HP.out, hsh]
      clear hsh
      go_enter Tryz.func196, Tryz.ntmps196
      go_wp2_with fail
      refine (l1Show_any B0 a n cap l _ (by omega) hB0 HSZ.out HZ.out).mono ?_
      rw [HS.out]
      rintro e w1 ⟨rfl, hb1⟩
      have HZ1 : Hid (IsNds B0 w1 a n l) := HZ.out.below (hb1.mono hB0)
      go_wp2_with fail
      refine (l1Get_any t _ (by omega)).mono ?_
      rintro e w2 ⟨v, b, rfl, hno, hyes, hb2⟩
      have HB : Hid (Below w.heap.size w w2) := hb1.trans (hb2.mono hb1.size)
      have HZ2 : Hid (IsNds w2.heap.size w2 a n l) := (HZ1.out.below (hb2.mono (by have := hb1.size; omega))).mono (by have := hb1.size; have := hb2.size; omega)
      cases hg : getM t with
      | none =>
        have HN : Hid (D = noName) := by
          show D = noName
          rw [HT.out, hg]; rfl
        obtain ⟨rfl, rfl⟩ := hno hg
        clear hb1 hb2 hno hyes hg
        go_wp2_with fail
        go_ret
        exact ⟨ret_str HN.out.symm, HB.out⟩
      | some l' =>
        obtain ⟨rfl, ho⟩ := hyes l' hg
        have hl' := getM_len hg
        obtain ⟨a', cap', rfl, hi'⟩ := ho.is
        have HI : Hid (IsNds w2.heap.size w2 a' l'.length l') := hi'
        have HR : Hid (D = if l' = l then t else noName) := by
          show D = _
          rw [HT.out, hg]; simp
        clear hb1 hb2 hno hyes hg ho hi'
        obtain ⟨n', hn'⟩ : ∃ n', l'.length = n' := ⟨_, rfl⟩
        rw [hn'] at HI hl'
        rw [hn']
        clear hn'
        go_wp2_with fail
        refine (l1Same_any _ a' a n' n cap' cap l' l _ (by omega) hn HI.out HZ2.out).mono ?_
        rintro e w3 ⟨rfl, hb3⟩
        have HB3 : Hid (Below w.heap.size w w3) := HB.out.trans (hb3.mono HB.out.size)
        clear hb3
        cases hd : decide (l' = l)
        · have HN : Hid (D = noName) := by
            show D = noName
            rw [HR.out, if_neg (by simpa using hd)]
          clear hd
          go_wp2_with fail
          go_ret
          exact ⟨ret_str HN.out.symm, HB3.out⟩
        · have HN : Hid (D = t) := by
            show D = t
            rw [HR.out, if_pos (by simpa using hd)]
          clear hd
          go_wp2_with fail
          go_ret
          exact ⟨ret_str HN.out.symm, HB3.out⟩
end Go.Proofs.YtchemhjcknkbgaaGreatDoor

/- The model's ExprGet, walked; names that are read are not longer than what is read. -/
namespace Go.Proofs.YtchemhjcknkbgaaGreatDoor
open Go Go.RowKit Go.PlainAid
set_option linter.unusedSimpArgs false
set_option linter.unusedVariables false

def Sm (s : ByteArray) (st : Par) : Prop := ∀ x ∈ st.out, x.2.2.size ≤ s.size
theorem sm_put {s : ByteArray} {st : Par} {x : Nd} (h : Sm s st) (hx : x.2.2.size ≤ s.size) : Sm s (putNd st x) := by
  unfold putNd
  split
  · exact h
  · intro y hy
    simp at hy
    rcases hy with hy | rfl
    · exact h y hy
    · exact hx
theorem sm_putAll {s : ByteArray} (l : List Int) : ∀ st, Sm s st → Sm s (putAll l st) := by
  induction l with
  | nil => exact fun _ h => h
  | cons k r ih =>
    intro st h
    unfold putAll
    split
    · exact h
    · exact ih _ (sm_put h (Nat.zero_le _))
theorem sm_prim {s : ByteArray} {rec : Int → Par → Par} (hrec : ∀ l st, Sm s st → Sm s (rec l st)) (st : Par) (h : Sm s st) : Sm s (primM rec s st) := by
  unfold primM
  split
  · split
    · exact h
    · exact hrec 1 { st with at_ := skipTo s st.at_ + 1, deep := st.deep + 1 } h
  · simp only
    split
    · exact sm_put h (Nat.zero_le _)
    · exact sm_put h (by simp only [ByteArray.size_extract]; omega)
theorem sm_unary {s : ByteArray} {rec : Int → Par → Par} (hrec : ∀ l st, Sm s st → Sm s (rec l st)) (st : Par) (h : Sm s st) : Sm s (unaryM rec s st) := by
  unfold unaryM
  exact sm_putAll _ _ (sm_prim hrec _ h)
theorem sm_loop {s : ByteArray} {rec : Int → Par → Par} (hrec : ∀ l st, Sm s st → Sm s (rec l st)) (level : Int) (n : Nat) : ∀ st, Sm s st → Sm s (loopS rec s level n st) := by
  induction n with
  | zero => exact fun _ h => h
  | succ n ih =>
    intro st h
    unfold loopS
    split
    · exact h
    · split
      · exact h
      · exact ih _ (sm_put (hrec _ { st with at_ := signAt s (skipTo s st.at_) level } h) (Nat.zero_le _))
theorem sm_sum (s : ByteArray) (f : Nat) : ∀ level st, Sm s st → Sm s (sumF s f level st) := by
  induction f with
  | zero => exact fun _ _ h => h
  | succ f ih =>
    intro level st h
    unfold sumF
    split
    · exact sm_unary ih st h
    · exact sm_loop ih level _ _ (ih _ _ h)
theorem getM_names {s : ByteArray} {l : List Nd} (h : getM s = some l) : ∀ x ∈ l, x.2.2.size ≤ 60 := by
  unfold getM at h
  split at h
  · cases h
  · rename_i h60
    split at h
    · cases h
    · cases h
      intro x hx
      have := sm_sum s (7 * s.size + 7) 1 par0 (fun x hx => by simp [par0] at hx) x hx
      omega
theorem OwnNd.old {B : Nat} {w w' : World} {v : Value} {l : List Nd} (h : OwnNd B w v l) (hb : Below w.heap.size w w') : OwnNd B w' v l :=
  own_of_block h (fun g hg => hb.block g (World.ownsRow.lt h g hg).2)

/-- the nodes of all of a text that can be written -/
def exprM (s : ByteArray) : Option (List Nd) := match getM s with | some l => if (putM l).toList.isEmpty = true then none else some l | none => none

end Go.Proofs.YtchemhjcknkbgaaGreatDoor

/- The model's l1Find, and the reader of drawn bytes: l11Open, pick. -/
namespace Go.Proofs.YtchemhjcknkbgaaGreatDoor
open Go Go.RowKit Go.PlainAid
set_option linter.unusedSimpArgs false
set_option linter.unusedVariables false

def IsStrs (B : Nat) (w : World) (a : Option Addr) (n : Nat) (l : List ByteArray) : Prop :=
  l.length = n ∧ (n = 0 ∨ ∃ b off, a = some ⟨b, off, none⟩ ∧ b < B ∧ ∀ i, (h : i < l.length) → w.cell? ⟨b, off + i, none⟩ = some (.string l[i]))
theorem IsStrs.below {B : Nat} {w w' : World} {a : Option Addr} {n : Nat} {l : List ByteArray} (h : IsStrs B w a n l) (hb : Below B w w') : IsStrs B w' a n l := by
  obtain ⟨h1, h2⟩ := h
  refine ⟨h1, ?_⟩
  rcases h2 with h2 | ⟨b, off, rfl, hlt, hc⟩
  · exact .inl h2
  · exact .inr ⟨b, off, rfl, hlt, fun i hi => (hb.cell (p := ⟨b, off + i, none⟩) hlt).trans (hc i hi)⟩
theorem IsStrs.mono {B B' : Nat} {w : World} {a : Option Addr} {n : Nat} {l : List ByteArray} (h : IsStrs B w a n l) (hb : B ≤ B') : IsStrs B' w a n l := by
  obtain ⟨h1, h2⟩ := h
  refine ⟨h1, ?_⟩
  rcases h2 with h2 | ⟨b, off, rfl, hlt, hc⟩
  · exact .inl h2
  · exact .inr ⟨b, off, rfl, by omega, hc⟩

/-- the place of a name; -1, if it is not there -/
def findM : List ByteArray → ByteArray → Int
  | [], _ => -1
  | y :: r, x => if y = x then 0 else if findM r x < 0 then -1 else findM r x + 1
theorem findM_at {x : ByteArray} : ∀ {l : List ByteArray} {k : Nat}, (hk : k < l.length) → l[k] = x → (∀ j, (h : j < k) → l[j] ≠ x) → findM l x = k
  | y :: r, 0, _, h, _ => by simp at h; simp [findM, h]
  | y :: r, k + 1, hk, h, hb => by
    have h0 : y ≠ x := hb 0 (by omega)
    have ih := findM_at (l := r) (k := k) (by simpa using hk) (by simpa using h) (fun j hj => by simpa using hb (j + 1) (by omega))
    simp only [findM, if_neg h0, ih]
    rw [if_neg (by omega)]; simp
theorem findM_none {x : ByteArray} : ∀ {l : List ByteArray}, (∀ j, (h : j < l.length) → l[j] ≠ x) → findM l x = -1
  | [], _ => rfl
  | y :: r, hb => by
    have h0 : y ≠ x := hb 0 (by simp)
    have ih := findM_none (l := r) (x := x) (fun j hj => fun e => hb (j + 1) (by simp only [List.length_cons]; omega) e)
    simp only [findM, if_neg h0, ih]
    rfl
theorem findM_lt (l : List ByteArray) (x : ByteArray) : -1 ≤ findM l x ∧ findM l x < l.length := by
  induction l with
  | nil => exact ⟨Int.le_refl _, by show (-1 : Int) < 0; decide⟩
  | cons y r ih =>
    simp only [findM, List.length_cons]
    split
    · omega
    · split <;> omega

set_option maxHeartbeats 800000 in
set_option maxRecDepth 100000 in
theorem l1Find_any (B : Nat) (a : Option Addr) (n cap : Nat) (l : List ByteArray) (x : ByteArray) (w : World) (hn : n ≤ 1048576) (hx : x.size ≤ 1048576) (hls : ∀ y ∈ l, y.size ≤ 1048576) (hz : IsStrs B w a n l) :
    Calls Tryz.prog 34 #[.slice a n cap, .string x] w fun e w' => e = .returned (.int .i64 (findM l x)) ∧ w' = w := by
  obtain ⟨hlen, hcells⟩ := hz
  obtain ⟨D, hD⟩ : ∃ D, findM l x = D := ⟨_, rfl⟩
  have HD : Hid (findM l x = D) := hD
  rw [hD]; clear hD
  go_enter Tryz.func34, Tryz.ntmps34
  go_wp2_with fail
  go_loopw [5] (fun i wr => ∃ k : Nat, k ≤ n ∧ i = .int .i64 k ∧ Hid (∀ j, (h : j < l.length) → j < k → l[j] ≠ x) ∧ wr = w) (fun i _ => n - (intOf i).toNat)
  case atStart => exact ⟨0, Nat.zero_le _, rfl, fun j _ h => by omega, rfl⟩
  case round =>
    obtain ⟨k, hk, rfl, hdone, rfl⟩ := hrel
    by_cases hlt : k < n
    · rcases hcells with h0 | ⟨b, off, rfl, hb, hc⟩
      · omega
      have hkl : k < l.length := by omega
      have hcx := hc k hkl
      obtain ⟨y, hy⟩ : ∃ y, l[k] = y := ⟨_, rfl⟩
      have HY : Hid (l[k] = y) := hy
      rw [hy] at hcx
      clear hc hy hls
      by_cases hxy : y = x
      · subst hxy
        have HN : Hid (D = k) := by
          show D = k
          rw [← HD.out]
          exact findM_at hkl HY.out (fun j hj => hdone.out j (by omega) hj)
        go_wp2_with fail
        go_ret
        exact ⟨ret_int HN.out.symm, rfl⟩
      · have e2' : (y.toList == x.toList) = false := by
          simp only [beq_eq_false_iff_ne, ne_eq]
          intro e; exact hxy (by rw [Lib.toList_data, Lib.toList_data] at e; exact ByteArray.ext (Array.toList_inj.1 e))
        have HK : Hid (∀ j, (h : j < l.length) → j < k + 1 → l[j] ≠ x) := fun j h1 h2 => by
          rcases Nat.lt_or_ge j k with h3 | h3
          · exact hdone.out j h1 h3
          · have : j = k := by omega
            subst this
            rw [HY.out]; exact hxy
        clear hxy
        go_wp2_with fail
        go_roundw
        case rel => exact ⟨k + 1, by omega, by go_num, HK.out, trivial⟩
        case measure => simp [intOf]; omega
    · have HN : Hid (D = -1) := by
        show D = -1
        rw [← HD.out]
        exact findM_none (fun j hj => hdone.out j hj (by omega))
      go_wp2_with fail
      go_ret
      exact ⟨ret_int HN.out.symm, rfl⟩
end Go.Proofs.YtchemhjcknkbgaaGreatDoor

/- Nodes that some text is read as. -/
namespace Go.Proofs.YtchemhjcknkbgaaGreatDoor
open Go Go.RowKit Go.PlainAid

/-- nodes that were read, and can be written -/
def Summy (l : List Nd) : Prop := ∃ s, exprM s = some l
end Go.Proofs.YtchemhjcknkbgaaGreatDoor

/- Nodes that were read and can be written: how many numbers stand, node by node. -/
namespace Go.Proofs.YtchemhjcknkbgaaGreatDoor
open Go Go.RowKit Go.PlainAid
set_option linter.unusedSimpArgs false
set_option linter.unusedVariables false

theorem good_show {l : List Nd} (h : Summy l) : ∃ t lv, showTo l l.length = some [(t, lv)] ∧ l.length ≤ 24 ∧ ∀ x ∈ l, x.2.2.size ≤ 60 := by
  obtain ⟨s, hs⟩ := h
  unfold exprM at hs
  split at hs
  · rename_i l' hg
    split at hs
    · cases hs
    · rename_i hp
      cases hs
      have h1 := getM_len hg
      have h2 := getM_names hg
      cases hm : showM l with
      | none =>
        exfalso
        apply hp
        unfold putM
        rw [if_neg (by omega), hm]
        show noName.toList.isEmpty = true
        rw [Lib.toList_data]; rfl
      | some t =>
        unfold showM at hm
        split at hm
        · rename_i t' lv he
          exact ⟨t', lv, he, h1, h2⟩
        · cases hm
  · cases hs

/-- how many numbers stand behind the first k nodes -/
theorem good_to {l : List Nd} (h : Summy l) : ∀ k, k ≤ l.length → ∃ stk, showTo l k = some stk := by
  intro k hk
  obtain ⟨t, lv, he, _⟩ := good_show h
  cases hs : showTo l k with
  | none => rw [showTo_none hk hs] at he; cases he
  | some stk => exact ⟨stk, rfl⟩

/-- a node's kind, and how many numbers it takes of those that stand -/
theorem good_at {l : List Nd} (h : Summy l) {k : Nat} (hk : k < l.length) {stk : TL} (hs : showTo l k = some stk) :
    ∃ stk', showTo l (k + 1) = some stk' ∧ ((l[k].1 = 1 ∨ l[k].1 = 2) ∧ stk'.length = stk.length + 1 ∨ (l[k].1 = 3 ∨ l[k].1 = 4) ∧ 1 ≤ stk.length ∧ stk'.length = stk.length ∨ (5 ≤ l[k].1 ∧ l[k].1 ≤ 13) ∧ 2 ≤ stk.length ∧ stk'.length + 1 = stk.length) := by
  obtain ⟨stk', hs'⟩ := good_to h (k + 1) (by omega)
  refine ⟨stk', hs', ?_⟩
  have h1 : showStep l[k] stk = some stk' := by
    simp only [showTo, hs, Option.bind_some] at hs'
    rw [← hs']; simp [hk]
  generalize l[k] = x at h1
  unfold showStep at h1
  split at h1
  · rename_i e
    split at h1
    · cases h1; exact .inl ⟨.inl e, rfl⟩
    · cases h1
  · split at h1
    · rename_i e
      split at h1
      · cases h1; exact .inl ⟨.inr e, rfl⟩
      · cases h1
    · split at h1
      · rename_i e
        split at h1
        · unfold aheadStk at h1
          split at h1
          · cases h1; exact .inr (.inl ⟨e, by simp, by simp⟩)
          · cases h1
        · cases h1
      · split at h1
        · rename_i e
          split at h1
          · unfold pairStk at h1
            split at h1
            · cases h1; exact .inr (.inr ⟨e, by simp, by simp⟩)
            · cases h1
          · cases h1
        · cases h1
theorem good_pos {l : List Nd} (h : Summy l) : 1 ≤ l.length := by
  obtain ⟨t, lv, he, _⟩ := good_show h
  rcases Nat.eq_zero_or_pos l.length with h0 | h0
  · rw [h0] at he; simp [showTo] at he
  · exact h0
end Go.Proofs.YtchemhjcknkbgaaGreatDoor

/- Blocks that may be written, and the law's marks in texts there. -/
namespace Go.Proofs.YtchemhjcknkbgaaGreatDoor
open Go Go.RowKit Go.PlainAid
set_option linter.unusedSimpArgs false
set_option linter.unusedVariables false

set_option maxHeartbeats 1600000 in
set_option maxRecDepth 100000 in
theorem markStringS_open (b n cap : Nat) (k : Int) (w : World) (h : Open b n w) (hl : n ≤ 1048576) (hk0 : 0 < k) (hk1 : k ≤ 1000000000) :
    Calls Tryz.prog 12 #[.slice (some ⟨b, 0, none⟩) n cap, .int .i64 k] w fun e w' => e = .returned (.int .i64 (k + n)) ∧ Mv b w w' := by
  have HO := hidOf h
  clear h
  go_enter Tryz.func12, Tryz.ntmps12
  go_wp2_with fail
  go_loopw [1, 5] (fun q i wr => ∃ m : Nat, m ≤ n ∧ i = .int .i64 m ∧ q = .int .i64 (k + m) ∧ Hid (Open b n wr) ∧ Mv b w wr) (fun _ i _ => n - (intOf i).toNat)
  case atStart => exact ⟨0, Nat.zero_le _, rfl, by simp, HO, Mv.refl _ _⟩
  case round =>
    obtain ⟨m, hm, rfl, rfl, HC, hbel⟩ := hrel
    have p0 : IntKind.i64.wrap (k + m + 1) = k + m + 1 := IntWalk.i64_in _ ⟨by omega, by omega⟩
    by_cases hlt : m < n
    · have HMT : Hid (∀ w, Calls Tryz.prog 49 #[.int .i64 (k + m)] w fun e w' => e = .returned (.string (mtx (k + m))) ∧ Below w.heap.size w w') := fun w => markText_any _ w (by omega) (by omega)
      go_wp2_with fail
      refine (HMT.out wr).mono ?_
      rintro e w3 ⟨rfl, hb3⟩
      have HO3 := hidOf (HC.out.below hb3)
      have HM3 : Hid (Mv b w w3) := hbel.trans (Mv.of_below hb3)
      have hbs3 := HO3.out.1
      obtain ⟨⟨x2, c2⟩, f2⟩ := HO3.out.2 m (by omega)
      clear hb3
      go_wp2_with fail
      go_roundw
      case rel => exact ⟨m + 1, by omega, by go_num, congrArg (Value.int IntKind.i64) (by push_cast; omega), HO3.out.set _ _ (by omega), HM3.out.cell _ _⟩
      case measure => simp [intOf]; omega
    · have : m = n := by omega
      subst this
      go_wp2_with fail
      go_ret
      exact ⟨rfl, hbel⟩
end Go.Proofs.YtchemhjcknkbgaaGreatDoor
