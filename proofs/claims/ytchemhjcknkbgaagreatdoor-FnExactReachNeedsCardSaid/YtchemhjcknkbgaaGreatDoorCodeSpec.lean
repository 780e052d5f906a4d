/- The model's l2Of: the ops of nodes that are a sum. -/
import Derived.Test.YtchemhjcknkbgaaGreatDoorFold
import Derived.Test.YtchemhjcknkbgaaGreatDoorBunY18
namespace Go.Proofs.YtchemhjcknkbgaaGreatDoor
open Go Go.RowKit Go.PlainAid
set_option linter.unusedSimpArgs false
set_option linter.unusedVariables false

/-- all numbers are in 32 bits -/
def Nums (st : List (Int × Int)) : Prop := ∀ x ∈ st, x.1 = 1 → In32 x.2
theorem nums_nil : Nums [] := fun x hx => by simp at hx
theorem nums_cons {x : Int × Int} {st : List (Int × Int)} (h : Nums st) (hx : x.1 = 1 → In32 x.2) : Nums (x :: st) := fun y hy => by
  rcases List.mem_cons.1 hy with rfl | hy
  · exact hx
  · exact h y hy
theorem nums_tail {x : Int × Int} {st : List (Int × Int)} (h : Nums (x :: st)) : Nums st := fun y hy => h y (List.mem_cons_of_mem _ hy)
theorem nums_fold {k n : Int} {st : List (Int × Int)} (h : Nums st) (hn : k = 1 → In32 n) : Nums (foldOp (k, n) st) := by
  have hp : Nums ((k, n) :: st) := nums_cons h hn
  unfold foldOp
  split
  · unfold foldOne
    split
    · split
      · exact nums_cons (nums_tail h) (fun _ => in32_one _ _)
      · exact hp
    · exact hp
  · split
    · unfold foldTwo
      split
      · split
        · rename_i y x r hh
          exact nums_cons (nums_tail (nums_tail h)) (fun _ => in32_two (h x (by simp) hh.2))
        · exact hp
      · exact hp
    · exact hp
theorem len_fold (k n : Int) (st : List (Int × Int)) (hk : (k = 1 ∨ k = 2) ∨ (k = 3 ∨ k = 4) ∧ 1 ≤ st.length ∨ (5 ≤ k ∧ k ≤ 13) ∧ 2 ≤ st.length) :
    (foldOp (k, n) st).length ≤ st.length + 1 ∧ ((k = 1 ∨ k = 2) → (foldOp (k, n) st).length = st.length + 1) ∧ ((k = 3 ∨ k = 4) → st.length ≤ (foldOp (k, n) st).length) ∧ (5 ≤ k → st.length ≤ (foldOp (k, n) st).length + 1) := by
  unfold foldOp
  simp only
  split
  · unfold foldOne
    split
    · split <;> simp <;> omega
    · simp
  · split
    · unfold foldTwo
      split
      · split <;> simp <;> omega
      · simp; omega
    · simp; omega
theorem l2One_any (B : Nat) (v : Value) (k n : Int) (st : List (Int × Int)) (w : World) (hB : B ≤ w.heap.size) (h : OwnOp B w v st) (hl : st.length ≤ 1000) (h32 : Nums st)
    (hk : (k = 1 ∨ k = 2) ∨ (k = 3 ∨ k = 4) ∧ 1 ≤ st.length ∨ (5 ≤ k ∧ k ≤ 13) ∧ 2 ≤ st.length) :
    Calls Tryz.prog 225 #[v, .agg #[.int .i64 k, .int .i64 n]] w fun e w' => ∃ v', e = .returned v' ∧ OwnOp B w' v' (foldOp (k, n) st) ∧ Below B w w' := by
  rcases hk with hk | ⟨hk, h1⟩ | ⟨hk, h2⟩
  · have e : foldOp (k, n) st = (k, n) :: st := by
      unfold foldOp; simp only; rw [if_neg (by omega), if_neg (by omega)]
    rw [e]
    exact l2One_plain B v k n st w hB h hl (.inl hk)
  · match st, h1 with
    | (x, y) :: r, _ =>
      by_cases hx : x = 1
      · subst hx
        have e : foldOp (k, n) ((1, y) :: r) = (1, one k y) :: r := by
          unfold foldOp; simp only; rw [if_pos hk]; simp [foldOne]
        rw [e]
        exact l2One_one B v k n y r w hB h (by simp at hl; omega) hk (h32 (1, y) (by simp) rfl)
      · have e : foldOp (k, n) ((x, y) :: r) = (k, n) :: (x, y) :: r := by
          unfold foldOp; simp only; rw [if_pos hk]; simp [foldOne, hx]
        rw [e]
        exact l2One_plain B v k n _ w hB h hl (.inr (.inl ⟨hk, _, _, rfl, hx⟩))
  · match st, h2 with
    | (x, y) :: (x', y') :: r, _ =>
      by_cases hx : x = 1 ∧ x' = 1
      · obtain ⟨rfl, rfl⟩ := hx
        have e : foldOp (k, n) ((1, y) :: (1, y') :: r) = (1, two k y' y) :: r := by
          unfold foldOp; simp only; rw [if_neg (by omega), if_pos hk.1]; simp [foldTwo]
        rw [e]
        exact l2One_two B v k n y' y r w hB h (by simp at hl; omega) hk (h32 (1, y') (by simp) rfl) (h32 (1, y) (by simp) rfl)
      · have e : foldOp (k, n) ((x, y) :: (x', y') :: r) = (k, n) :: (x, y) :: (x', y') :: r := by
          unfold foldOp; simp only; rw [if_neg (by omega), if_pos hk.1]; simp only [foldTwo]; rw [if_neg hx]
        rw [e]
        exact l2One_plain B v k n _ w hB h hl (.inr (.inr ⟨hk, _, _, _, rfl, by simp only; omega⟩))

/-- the op of a node -/
def opOf (names : List ByteArray) (x : Nd) : Int × Int := (x.1, if x.1 = 2 then findM names x.2.2 else x.2.1)
def codeStep (names : List ByteArray) (x : Nd) (st : List (Int × Int)) : Option (List (Int × Int)) :=
  if x.1 = 2 ∧ findM names x.2.2 < 0 then none else some (foldOp (opOf names x) st)
/-- the ops of the first k nodes, the last first; none, if a name is not there -/
def codeTo (names : List ByteArray) (l : List Nd) : Nat → Option (List (Int × Int))
  | 0 => some []
  | k + 1 => (codeTo names l k).bind (codeStep names (l.getD k (0, 0, noName)))
def codeM (names : List ByteArray) (l : List Nd) : Option (List (Int × Int)) := codeTo names l l.length

theorem codeTo_none {names : List ByteArray} {l : List Nd} {k n : Nat} (h : k ≤ n) (hk : codeTo names l k = none) : codeTo names l n = none := by
  induction n with
  | zero => have : k = 0 := by omega
            subst this; exact hk
  | succ n ih =>
    by_cases e : k = n + 1
    · subst e; exact hk
    · simp [codeTo, ih (by omega)]
theorem good_num {l : List Nd} (h : Summy l) {k : Nat} (hk : k < l.length) (h1 : l[k].1 = 1) : In32 l[k].2.1 := by
  obtain ⟨stk, hs⟩ := good_to h k (by omega)
  obtain ⟨stk', hs', _⟩ := good_at h hk hs
  simp only [showTo, hs, Option.bind_some] at hs'
  have e : l.getD k (0, 0, noName) = l[k] := by simp [hk]
  rw [e] at hs'
  unfold showStep at hs'
  rw [if_pos h1] at hs'
  split at hs'
  · rename_i hh; unfold In32; omega
  · cases hs'
/-- what stands behind the first k nodes -/
theorem code_len {names : List ByteArray} {l : List Nd} (hg : Summy l) : ∀ k, k ≤ l.length → ∀ {st : List (Int × Int)} {stk : TL}, codeTo names l k = some st → showTo l k = some stk → st.length ≤ k ∧ stk.length ≤ st.length ∧ Nums st := by
  intro k
  induction k with
  | zero => intro _ st stk h1 h2; simp [codeTo] at h1; simp [showTo] at h2; subst h1 h2; exact ⟨by simp, by simp, nums_nil⟩
  | succ k ih =>
    intro hk st stk h1 h2
    simp only [codeTo, Option.bind_eq_some_iff] at h1
    obtain ⟨st0, h0, h1⟩ := h1
    obtain ⟨stk0, hs0⟩ := good_to hg k (by omega)
    obtain ⟨i1, i2, i3⟩ := ih (by omega) h0 hs0
    obtain ⟨stk', hs', hc⟩ := good_at hg (show k < l.length by omega) hs0
    have : stk' = stk := by rw [h2] at hs'; injection hs' with e; exact e.symm
    subst this
    have e : l.getD k (0, 0, noName) = l[k] := by simp [show k < l.length by omega]
    rw [e] at h1
    unfold codeStep at h1
    split at h1
    · cases h1
    · injection h1 with h1
      subst h1
      have hl := len_fold l[k].1 (opOf names l[k]).2 st0 (by omega)
      have hn := nums_fold (k := l[k].1) (n := (opOf names l[k]).2) i3 (fun h1 => by
        have := good_num hg (show k < l.length by omega) h1
        unfold opOf; simp only; rw [if_neg (by omega)]; exact this)
      have eo : ((l[k].1, (opOf names l[k]).2) : Int × Int) = opOf names l[k] := rfl
      rw [eo] at hl hn
      refine ⟨by omega, by omega, hn⟩

theorem below_drew1 {B : Nat} {a w : World} (h : Below B a w) : Below B a w.drew := ⟨h.os, h.tape, h.output, h.size, h.block⟩
theorem own_same {w w' : World} {B size n : Nat} {e : TypeId} {v : Value} {xs : List Value} (h : w.ownsRow B e size v n xs) (hb : Below w.heap.size w w') : w'.ownsRow B e size v n xs := by
  have hlt := h.lt
  refine ⟨h.1, ?_⟩
  rcases h.2 with h2 | ⟨g, cap, cur, hv, h3, h4, h5⟩
  · exact .inl h2
  · exact .inr ⟨g, cap, cur, hv, h3, (hb.block g (hlt g (by rw [hv]; rfl)).2).trans h4, h5⟩

set_option maxHeartbeats 800000 in
set_option maxRecDepth 100000 in
theorem l2Of_any (B0 : Nat) (a : Option Addr) (n cap : Nat) (l : List Nd) (a' : Option Addr) (m cap' : Nat) (names : List ByteArray) (w : World) (hB0 : B0 ≤ w.heap.size) (hg : Summy l) (hz : IsNds B0 w a n l) (hs : IsStrs B0 w a' m names) (hm : m ≤ 1048576) (hls : ∀ y ∈ names, y.size ≤ 1048576) :
    Calls Tryz.prog 197 #[.slice a n cap, .slice a' m cap'] w fun e w' => (match codeM names l with | none => e = .returned (.tuple #[.slice none 0 0, .bool false]) | some st => ∃ v', e = .returned (.tuple #[v', .bool true]) ∧ OwnOp w.heap.size w' v' st) ∧ Below w.heap.size w w' := by
  have hlen := hz.1
  have hsl := hs.1
  have HZ : Hid (IsNds B0 w a n l) := hz
  have HS : Hid (IsStrs B0 w a' m names) := hs
  have HG : Hid (Summy l) := hg
  obtain ⟨_, _, _, hn24, hn60⟩ := good_show hg
  obtain ⟨D, hD⟩ : ∃ D, codeM names l = D := ⟨_, rfl⟩
  have HD : Hid (codeM names l = D) := hD
  rw [hD]
  clear hD hz hs hg
  go_enter Tryz.func197, Tryz.ntmps197
  go_wp2_with fail
  go_loopw [6, 7] (fun v i wr => ∃ (k : Nat) (st : List (Int × Int)), k ≤ n ∧ i = .int .i64 k ∧ Hid (codeTo names l k = some st) ∧ Hid (OwnOp w.heap.size wr v st) ∧ Below w.heap.size w wr) (fun _ i _ => n - (intOf i).toNat)
  case atStart =>
    exact ⟨0, [], Nat.zero_le _, rfl, rfl, World.ownsRow_made w #[] 0 (Nat.le_refl _) (Nat.zero_le _) rfl, (Below.refl _ _).alloc (Nat.le_refl _) _⟩
  case round =>
    obtain ⟨k, st, hk, rfl, hst, HO, hbel⟩ := hrel
    by_cases hlt : k < n
    · have hkl : k < l.length := by omega
      obtain ⟨stk, hstk⟩ := good_to HG.out k (by omega)
      obtain ⟨i1, i2, i3⟩ := code_len HG.out k (by omega) hst.out hstk
      obtain ⟨stk', hstk', hc⟩ := good_at HG.out hkl hstk
      rcases HZ.out.2 with h0 | ⟨b, off, rfl, hb, hcell⟩
      · omega
      have hbw : b < w.heap.size := by omega
      have q0 := (hbel.cell (p := ⟨b, off + k * 3, none⟩) hbw).trans (hcell k hkl).1
      have q1 := (hbel.cell (p := ⟨b, off + k * 3 + 1, none⟩) hbw).trans (hcell k hkl).2.1
      have q2 := (hbel.cell (p := ⟨b, off + k * 3 + 1 + 1, none⟩) hbw).trans (hcell k hkl).2.2
      have hbw2 : b < wr.heap.size := by have := hbel.size; omega
      have HN1 : Hid (codeTo names l (k + 1) = codeStep names l[k] st) := by
        show codeTo names l (k + 1) = _
        simp only [codeTo, hst.out, Option.bind_some]; simp [hkl]
      have hx60 : l[k].2.2.size ≤ 60 := hn60 _ (List.getElem_mem _)
      obtain ⟨⟨x0, x1, x2⟩, hx⟩ : ∃ x, l[k] = x := ⟨_, rfl⟩
      rw [hx] at q0 q1 q2 hc HN1 hx60
      simp only at q0 q1 q2 hc hx60
      have HC : Hid ((x0 = 1 ∨ x0 = 2) ∧ stk'.length = stk.length + 1 ∨ (x0 = 3 ∨ x0 = 4) ∧ 1 ≤ stk.length ∧ stk'.length = stk.length ∨ (5 ≤ x0 ∧ x0 ≤ 13) ∧ 2 ≤ stk.length ∧ stk'.length + 1 = stk.length) := hc
      have H3 : Hid (Nums st) := i3
      clear hcell hx hc hstk hstk' i3
      go_wp2_with fail
      go_region_held3 (fun w' => w'.cell? ⟨b, off + k * 3, none⟩ = some (.int .i64 x0) ∧ w'.cell? ⟨b, off + k * 3 + 1, none⟩ = some (.int .i64 x1)) (simp [go_sem, *]) (fail)
      have hws := hbel.size
      by_cases h2 : x0 = 2
      · subst h2
        obtain ⟨F, hF⟩ : ∃ F, findM names x2 = F := ⟨_, rfl⟩
        have HF : Hid (findM names x2 = F) := hF
        clear hF
        go_wp2_with fail
        refine (l1Find_any B0 a' m cap' names x2 _ hm (by omega) hls (by exact HS.out.below ((below_drew1 (hbel.alloc hws _)).mono hB0))).mono ?_
        rintro e w' ⟨rfl, hw'⟩
        rw [hw', HF.out]
        clear hw' w'
        by_cases hF : F < 0
        · have hD : D = none := by
            rw [← HD.out]
            exact codeTo_none (show k + 1 ≤ l.length by omega) (by rw [HN1.out]; unfold codeStep; rw [if_pos ⟨rfl, by simp only; rw [HF.out]; exact hF⟩])
          subst hD
          go_wp2_with fail
          go_ret2
          exact ⟨rfl, below_drew1 (hbel.alloc hws _)⟩
        · have HN2 : Hid (codeTo names l (k + 1) = some (foldOp (2, F) st)) := by
            show codeTo names l (k + 1) = _
            rw [HN1.out]; unfold codeStep opOf; simp only; rw [HF.out, if_neg (by omega)]; simp
          clear HN1
          go_wp2_with fail
          refine (l2One_any w.heap.size u6 2 F st _ (by simp; omega) (by exact own_same HO.out (below_drew1 ((Below.refl _ _).alloc (Nat.le_refl _) _))) (by omega) H3.out (.inl (.inr rfl))).mono ?_
          rintro e w2 ⟨v', rfl, ho', hb'⟩
          have HO' : Hid (OwnOp w.heap.size w2 v' (foldOp (2, F) st)) := ho'
          have HB' : Hid (Below w.heap.size w w2) := (below_drew1 (hbel.alloc hws _)).trans hb'
          clear ho' hb'
          go_wp2_with fail
          go_roundw
          case rel => exact ⟨k + 1, _, by omega, by go_num, HN2.out, HO'.out, HB'.out⟩
          case measure => simp [intOf]; omega
      · have e2 : (x0 == 2) = false := by simp [h2]
        have HN2 : Hid (codeTo names l (k + 1) = some (foldOp (x0, x1) st)) := by
          show codeTo names l (k + 1) = _
          rw [HN1.out]; unfold codeStep opOf; simp only; rw [if_neg (by omega), if_neg h2]
        have HK : Hid ((x0 = 1 ∨ x0 = 2) ∨ (x0 = 3 ∨ x0 = 4) ∧ 1 ≤ st.length ∨ (5 ≤ x0 ∧ x0 ≤ 13) ∧ 2 ≤ st.length) := by
          have := HC.out
          show (x0 = 1 ∨ x0 = 2) ∨ (x0 = 3 ∨ x0 = 4) ∧ 1 ≤ st.length ∨ (5 ≤ x0 ∧ x0 ≤ 13) ∧ 2 ≤ st.length
          omega
        clear HN1
        go_wp2_with fail
        refine (l2One_any w.heap.size u6 x0 x1 st _ (by simp; omega) (by exact own_same HO.out (below_drew1 ((Below.refl _ _).alloc (Nat.le_refl _) _))) (by omega) H3.out HK.out).mono ?_
        rintro e w2 ⟨v', rfl, ho', hb'⟩
        have HO' : Hid (OwnOp w.heap.size w2 v' (foldOp (x0, x1) st)) := ho'
        have HB' : Hid (Below w.heap.size w w2) := (below_drew1 (hbel.alloc hws _)).trans hb'
        clear ho' hb'
        go_wp2_with fail
        go_roundw
        case rel => exact ⟨k + 1, _, by omega, by go_num, HN2.out, HO'.out, HB'.out⟩
        case measure => simp [intOf]; omega
    · have hkn : k = l.length := by omega
      have hD : D = some st := by rw [← HD.out]; unfold codeM; rw [← hkn]; exact hst.out
      subst hD
      go_wp2_with fail
      go_ret2
      exact ⟨⟨u6, rfl, HO.out⟩, hbel⟩
end Go.Proofs.YtchemhjcknkbgaaGreatDoor
