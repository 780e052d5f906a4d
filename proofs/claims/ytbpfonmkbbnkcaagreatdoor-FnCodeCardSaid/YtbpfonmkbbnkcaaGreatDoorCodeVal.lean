/- What folded code comes to: what its sum comes to. Plain: no program. -/
import Derived.Test.YtbpfonmkbbnkcaaGreatDoorCodeSpec
import Derived.Test.YtbpfonmkbbnkcaaGreatDoorBunJ
import Derived.Test.YtbpfonmkbbnkcaaGreatDoorRunM
namespace Go.Proofs.YtbpfonmkbbnkcaaGreatDoor
open Go Go.RowKit Go.PlainAid
set_option linter.unusedSimpArgs false
set_option linter.unusedVariables false

theorem getD_app {zs ys : List (Int × Int)} {k : Nat} (h : k < zs.length) : (zs ++ ys).getD k (0, 0) = zs.getD k (0, 0) := by
  simp [List.getD_eq_getElem?_getD, List.getElem?_append_left h]
theorem deepTo_app {s : Int} {zs ys : List (Int × Int)} : ∀ k, k ≤ zs.length → deepTo s (zs ++ ys) k = deepTo s zs k := by
  intro k
  induction k with
  | zero => intro _; rfl
  | succ k ih => intro hk; simp only [deepTo]; rw [ih (by omega), getD_app (by omega)]
theorem runTo_app {vs : List Int} {zs ys : List (Int × Int)} : ∀ k, k ≤ zs.length → runTo vs (zs ++ ys) k = runTo vs zs k := by
  intro k
  induction k with
  | zero => intro _; rfl
  | succ k ih => intro hk; simp only [runTo]; rw [ih (by omega), getD_app (by omega)]
theorem deepTo_stand {s : Int} {zs : List (Int × Int)} {k : Nat} {d m : Int} (h : deepTo s zs k = some (d, m)) : d ≤ m := by
  cases k with
  | zero => simp [deepTo] at h; omega
  | succ k =>
    simp only [deepTo, Option.bind_eq_some_iff] at h
    obtain ⟨⟨d', m'⟩, _, h2⟩ := h
    unfold stepOp at h2
    split at h2
    · simp only [Option.some.injEq, Prod.mk.injEq] at h2
      omega
    · cases h2
def dOf (s : Int) (c : List (Int × Int)) : Option (Int × Int) := deepTo s c c.length
def rOf (vs : List Int) (c : List (Int × Int)) : List Int := runTo vs c c.length
theorem getD_last (c : List (Int × Int)) (op : Int × Int) : (c ++ [op]).getD c.length (0, 0) = op := by simp [List.getD_eq_getElem?_getD]
theorem dOf_snoc (s : Int) (c : List (Int × Int)) (op : Int × Int) : dOf s (c ++ [op]) = (dOf s c).bind (stepOp s op) := by
  unfold dOf
  rw [List.length_append]
  show (deepTo s (c ++ [op]) c.length).bind _ = _
  rw [deepTo_app _ (Nat.le_refl _), getD_last]
theorem rOf_snoc (vs : List Int) (c : List (Int × Int)) (op : Int × Int) : rOf vs (c ++ [op]) = runOp vs op (rOf vs c) := by
  unfold rOf
  rw [List.length_append]
  show runOp vs _ (runTo vs (c ++ [op]) c.length) = _
  rw [runTo_app _ (Nat.le_refl _), getD_last]
/-- the code, its last op first, leaves just this stack -/
def Leaves (s : Int) (vs : List Int) (st : List (Int × Int)) (stk : List Int) : Prop := (∃ m, dOf s st.reverse = some ((stk.length : Int), m) ∧ (stk.length : Int) ≤ m) ∧ rOf vs st.reverse = stk ∧ ∀ x ∈ stk, In32 x
theorem Leaves.push {s : Int} {vs : List Int} {st : List (Int × Int)} {stk : List Int} (h : Leaves s vs st stk) {op : Int × Int} (ho : okB op.1 op.2 s = true) (ht : tk op.1 ≤ stk.length) : Leaves s vs (op :: st) (runOp vs op stk) := by
  obtain ⟨⟨m, h1, h2⟩, h3, h4⟩ := h
  obtain ⟨l1, l2⟩ := runOp_len vs op stk ht h4
  refine ⟨⟨max m (stk.length + (1 - tk op.1)), ?_, by omega⟩, ?_, l2⟩
  · rw [List.reverse_cons, dOf_snoc, h1, Option.bind_some]
    unfold stepOp
    rw [if_pos ⟨ho, ht⟩, l1]
  · rw [List.reverse_cons, rOf_snoc, h3]
theorem Leaves.pop {s : Int} {vs : List Int} {x : Int × Int} {r : List (Int × Int)} {stk : List Int} (h : Leaves s vs (x :: r) stk) (hx : x.1 = 1) : In32 x.2 ∧ ∃ q, stk = x.2 :: q ∧ Leaves s vs r q := by
  obtain ⟨⟨m, h1, h2⟩, h3, h4⟩ := h
  rw [List.reverse_cons, dOf_snoc, Option.bind_eq_some_iff] at h1
  obtain ⟨⟨d, m'⟩, g1, g2⟩ := h1
  rw [List.reverse_cons, rOf_snoc] at h3
  unfold stepOp at g2
  split at g2
  · rename_i hh
    obtain ⟨o1, o2⟩ := hh
    have hi : In32 x.2 := by
      rcases okB_cases o1 with ⟨_, h⟩ | h | h | h
      · exact h
      all_goals omega
    have htk : tk x.1 = 0 := by unfold tk; rw [if_pos (.inl hx)]
    rw [htk] at g2
    simp only [Option.some.injEq, Prod.mk.injEq] at g2
    have e : stk = x.2 :: rOf vs r.reverse := by
      rw [← h3]; unfold runOp; rw [if_pos hx, wr32_in hi]
    refine ⟨hi, _, e, ⟨m', ?_, ?_⟩, rfl, fun y hy => h4 y (by rw [e]; exact List.mem_cons_of_mem _ hy)⟩
    · rw [g1]
      rw [e] at g2
      simp at g2
      have : d = ((rOf vs r.reverse).length : Int) := by omega
      rw [this]
    · have hd := deepTo_stand g1
      rw [e] at g2
      simp at g2
      omega
  · cases g2
theorem okB_num {n s : Int} (h : In32 n) : okB 1 n s = true := by
  unfold okB; rw [if_pos rfl]; exact decide_eq_true h
theorem Leaves.num {s : Int} {vs : List Int} {st : List (Int × Int)} {stk : List Int} (h : Leaves s vs st stk) {n : Int} (hn : In32 n) : Leaves s vs ((1, n) :: st) (n :: stk) := by
  have := h.push (op := (1, n)) (okB_num hn) (by simp [tk])
  unfold runOp at this
  rw [if_pos rfl, wr32_in hn] at this
  exact this
theorem Leaves.fold {s : Int} {vs : List Int} {st : List (Int × Int)} {stk : List Int} (h : Leaves s vs st stk) {k n : Int} (ho : okB k n s = true) (ht : tk k ≤ stk.length) : Leaves s vs (foldOp (k, n) st) (runOp vs (k, n) stk) := by
  have hp : Leaves s vs ((k, n) :: st) (runOp vs (k, n) stk) := h.push ho ht
  unfold foldOp
  split
  · rename_i h34
    simp only at h34
    unfold foldOne
    split
    · rename_i x r
      split
      · rename_i hx
        obtain ⟨hi, q, rfl, hq⟩ := h.pop hx
        have e : runOp vs (k, n) (x.2 :: q) = one k x.2 :: q := by
          unfold runOp
          simp only
          rw [if_neg (by omega), if_neg (by omega), if_pos h34]
          rfl
        rw [e]
        exact hq.num (in32_one _ _)
      · exact hp
    · exact hp
  · rename_i h34
    simp only at h34
    split
    · rename_i h5
      simp only at h5
      unfold foldTwo
      split
      · rename_i y x r
        split
        · rename_i hh
          obtain ⟨hi, q, rfl, hq⟩ := h.pop hh.1
          obtain ⟨hi2, q2, rfl, hq2⟩ := hq.pop hh.2
          have e : runOp vs (k, n) (y.2 :: x.2 :: q2) = two k x.2 y.2 :: q2 := by
            unfold runOp
            simp only
            rw [if_neg (by omega), if_neg (by omega), if_neg h34]
            rfl
          rw [e]
          exact hq2.num (in32_two hi2)
        · exact hp
      · exact hp
    · exact hp

theorem leaves_to {names : List ByteArray} {vals : List Int} {l : List Nd} {t : Tree} (hv : vals.length = names.length) (hs : sumM l = some t) : ∀ k, k ≤ l.length → ∀ {st : List (Int × Int)}, codeTo names l k = some st → Leaves names.length vals st (runNds (ofM names vals) l k) := by
  intro k
  induction k with
  | zero =>
    intro _ st h
    simp [codeTo] at h
    subst h
    exact ⟨⟨0, rfl, by simp [runNds]⟩, rfl, fun x hx => by simp [runNds] at hx⟩
  | succ k ih =>
    intro hk st h
    simp only [codeTo, Option.bind_eq_some_iff] at h
    obtain ⟨st0, h0, h1⟩ := h
    have ih1 := ih (by omega) h0
    obtain ⟨x, hx⟩ : ∃ x, l.getD k (0, 0, noName) = x := ⟨_, rfl⟩
    have hok := (sumM_some hs).2.2.2 k (by omega)
    have hfind := node_finds (f := ofM names vals) hs (show k < l.length by omega) hx
    rw [hx] at h1 hok
    unfold codeStep at h1
    split at h1
    · cases h1
    rename_i hno
    cases h1
    simp only [runNds]
    rw [hx]
    obtain ⟨xk, xn, xs⟩ := x
    simp only at hno hfind
    obtain ⟨o1, o2, o3⟩ := hok
    simp only at o1 o2 o3
    unfold opOf runNd
    simp only
    rcases hfind with ⟨e, n0, n1⟩ | e | ⟨e, z, r, hz⟩ | ⟨e, z, z', r, hz⟩
    · subst e
      rw [if_pos rfl, if_neg (by decide)]
      have hi : In32 xn := ⟨by omega, by omega⟩
      have := ih1.fold (k := 1) (n := xn) (okB_num hi) (by simp [tk])
      unfold runOp at this
      rw [if_pos rfl, wr32_in hi] at this
      exact this
    · subst e
      rw [if_pos rfl, if_neg (by decide), if_pos rfl]
      have hf : ¬ findM names xs < 0 := fun h => hno ⟨rfl, h⟩
      have hl := (findM_lt names xs).2
      have := ih1.fold (k := 2) (n := findM names xs) (by unfold okB; rw [if_neg (by decide), if_pos rfl]; exact decide_eq_true ⟨by omega, hl⟩) (by simp [tk])
      unfold runOp at this
      rw [if_neg (by simp), if_pos rfl] at this
      unfold ofM
      rw [if_neg (by rw [hv]; omega)]
      exact this
    · have e0 := (o3 (by omega) (by omega)).1
      subst e0
      rw [if_neg (by omega), if_neg (by omega), if_pos e, if_neg (by omega)]
      have := ih1.fold (k := xk) (n := 0) (by unfold okB; rw [if_neg (by omega), if_neg (by omega), if_pos e]; rfl) (by unfold tk; rw [if_neg (by omega), if_pos e, hz]; simp; omega)
      unfold runOp at this
      simp only at this
      rw [if_neg (by omega), if_neg (by omega), if_pos e] at this
      exact this
    · have e0 := (o3 (by omega) (by omega)).1
      subst e0
      rw [if_neg (by omega), if_neg (by omega), if_neg (by omega), if_neg (by omega)]
      have := ih1.fold (k := xk) (n := 0) (by unfold okB; rw [if_neg (by omega), if_neg (by omega), if_neg (by omega)]; exact decide_eq_true ⟨e, rfl⟩) (by unfold tk; rw [if_neg (by omega), if_neg (by omega), hz]; simp; omega)
      unfold runOp at this
      simp only at this
      rw [if_neg (by omega), if_neg (by omega), if_neg (by omega)] at this
      exact this

/-- the code of a sum: never more stands than it has ops, and it comes to what the sum comes to -/
theorem code_val {names : List ByteArray} {vals : List Int} {l : List Nd} {t : Tree} {st : List (Int × Int)} (hv : vals.length = names.length) (h16 : names.length ≤ 16) (hs : sumM l = some t) (hc : codeM names l = some st) (hst : st.length ≤ l.length) :
    1 ≤ deepOf names.length st.reverse ∧ deepOf names.length st.reverse ≤ st.length ∧ codeVal vals st.reverse = valM (ofM names vals) l := by
  obtain ⟨⟨m, h1, h2⟩, h3, _⟩ := leaves_to hv hs l.length (Nat.le_refl _) hc
  have h24 := (sumM_some hs).1
  rw [runNds_sum hs] at h1 h2 h3
  have hd : deepOf names.length st.reverse = m := by
    unfold deepOf
    unfold dOf at h1
    rw [if_pos ⟨by omega, by omega, by simp; omega⟩, h1]
    rfl
  have hm := (deepTo_range h1).2.2.2
  simp at h2 hm
  refine ⟨by omega, by omega, ?_⟩
  unfold codeVal
  rw [hv, hd, if_neg (by omega)]
  unfold rOf at h3
  rw [h3]
  unfold valM
  rw [hs]
  rfl
end Go.Proofs.YtbpfonmkbbnkcaaGreatDoor
