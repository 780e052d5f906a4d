/- Drawn nodes: what they fit. Plain. -/
import Derived.Test.YtbpfonmkbbnkcaaGreatDoorBunE
import Derived.Test.YtbpfonmkbbnkcaaGreatDoorGoodNds
namespace Go.Proofs.YtbpfonmkbbnkcaaGreatDoor
open Go Go.RowKit Go.PlainAid
set_option linter.unusedSimpArgs false
set_option linter.unusedVariables false

theorem NoZ.extract {s : ByteArray} (h : NoZ s) (i j : Nat) : NoZ (s.extract i j) := by
  intro b hb
  apply h b
  obtain ⟨k, hk, rfl⟩ := List.getElem_of_mem hb
  have hk' : k < (s.extract i j).size := by
    show k < (s.extract i j).data.size
    rw [← Array.length_toList]; exact hk
  have e : (s.extract i j).data.toList[k] = (s.extract i j)[k] := by rw [Array.getElem_toList]; rfl
  have hi : i + k < s.size := by rw [ByteArray.size_extract] at hk'; omega
  rw [e, ByteArray.getElem_extract]
  show s.data[i + k]'hi ∈ s.data.toList
  exact Array.getElem_mem_toList hi
theorem noZ_none : NoZ noName := by decide
def RecZ (rec : Int → Nat → Nat → PR) : Prop := ∀ lev a d l a', rec lev a d = some (l, a') → ∀ x ∈ l, NoZ x.2.2
theorem z_prim {s : ByteArray} (hs : NoZ s) {rec : Int → Nat → Nat → PR} (hr : RecZ rec) {a d : Nat} {l : List Nd} {a' : Nat} (h : primP rec s a d = some (l, a')) : ∀ x ∈ l, NoZ x.2.2 := by
  unfold primP at h
  split at h
  · split at h
    · cases h
    · split at h
      · cases h
      · rename_i l' b he
        split at h
        · cases h; exact hr _ _ _ _ _ he
        · cases h
  · split at h
    · split at h
      · cases h
      · cases h
        intro x hx
        simp at hx
        subst hx
        exact noZ_none
    · split at h
      · cases h
        intro x hx
        simp at hx
        subst hx
        exact hs.extract _ _
      · cases h
theorem z_unary {s : ByteArray} (hs : NoZ s) {rec : Int → Nat → Nat → PR} (hr : RecZ rec) {a d : Nat} {l : List Nd} {a' : Nat} (h : unaryP rec s a d = some (l, a')) : ∀ x ∈ l, NoZ x.2.2 := by
  unfold unaryP at h
  split at h
  · cases h
  · rename_i l' b he
    cases h
    intro x hx
    rcases List.mem_append.1 hx with hx | hx
    · exact z_prim hs hr he x hx
    · obtain ⟨k, _, rfl⟩ := List.mem_map.1 hx
      exact noZ_none
theorem z_loop {s : ByteArray} {rec : Int → Nat → Nat → PR} (hr : RecZ rec) (level : Int) (d n : Nat) : ∀ {l : List Nd} {a : Nat} {l' : List Nd} {a' : Nat}, (∀ x ∈ l, NoZ x.2.2) → loopP rec s level d n l a = some (l', a') → ∀ x ∈ l', NoZ x.2.2 := by
  induction n with
  | zero => intro l a l' a' ho h; cases h; exact ho
  | succ n ih =>
    intro l a l' a' ho h
    unfold loopP at h
    split at h
    · cases h; exact ho
    · split at h
      · cases h
      · rename_i r b he
        refine ih ?_ h
        intro x hx
        rcases List.mem_append.1 hx with hx | hx
        · rcases List.mem_append.1 hx with hx | hx
          · exact ho x hx
          · exact hr _ _ _ _ _ he x hx
        · simp at hx
          subst hx
          exact noZ_none
theorem z_sum {s : ByteArray} (hs : NoZ s) (f : Nat) : RecZ (sumP s f) := by
  induction f with
  | zero => intro lev a d l a' h; cases h; simp
  | succ f ih =>
    intro lev a d l a' h
    unfold sumP at h
    split at h
    · exact z_unary hs ih h
    · split at h
      · cases h
      · rename_i l0 b he
        exact z_loop ih _ _ _ (ih _ _ _ _ _ he) h
theorem getM_noZ {s : ByteArray} (hs : NoZ s) {l : List Nd} (h : getM s = some l) : ∀ x ∈ l, NoZ x.2.2 := by
  rw [getM_free] at h
  split at h
  · cases h
  · split at h
    · cases h
    · rename_i l' a he
      split at h
      · cases h
      · split at h
        · cases h
        · cases h; exact z_sum hs _ _ _ _ _ _ he

/-- nodes as they are drawn -/
def FitNd (x : Nd) : Prop := x.2.2.size ≤ 60 ∧ (-9223372036854775808 ≤ x.2.1 ∧ x.2.1 ≤ 9223372036854775807) ∧ NoZ x.2.2
def NdFit (l : List Nd) : Prop := l.length ≤ 25 ∧ ∀ x ∈ l, FitNd x
theorem exprM_get {s : ByteArray} {l : List Nd} (h : exprM s = some l) : getM s = some l := by
  unfold exprM at h
  split at h
  · rename_i l' hg
    split at h
    · cases h
    · cases h; exact hg
  · cases h
theorem good_fit {l : List Nd} (h : Good l) : 1 ≤ l.length ∧ l.length ≤ 24 ∧ NdFit l := by
  have h1 := good_pos h.summy
  obtain ⟨s, hs, hz⟩ := h
  have hg := exprM_get hs
  have h24 := getM_len hg
  exact ⟨h1, h24, by omega, fun x hx => ⟨getM_names hg x hx, getM_64 hg x hx, getM_noZ hz hg x hx⟩⟩
theorem NdFit.set {l : List Nd} (h : NdFit l) (k : Nat) {y : Nd} (hy : FitNd y) : NdFit (l.set k y) := by
  refine ⟨by simpa using h.1, fun x hx => ?_⟩
  rcases List.mem_or_eq_of_mem_set hx with hx | rfl
  · exact h.2 x hx
  · exact hy
theorem NdFit.drop {l : List Nd} (h : NdFit l) (k : Nat) : NdFit (l.drop k) := ⟨by have := h.1; simp; omega, fun x hx => h.2 x (List.mem_of_mem_drop hx)⟩
theorem NdFit.snoc {l : List Nd} (h : NdFit l) (hl : l.length ≤ 24) {y : Nd} (hy : FitNd y) : NdFit (l ++ [y]) := by
  refine ⟨by simp; omega, fun x hx => ?_⟩
  rcases List.mem_append.1 hx with hx | hx
  · exact h.2 x hx
  · simp at hx; subst hx; exact hy
theorem NdFit.nums {l : List Nd} (h : NdFit l) : Nums64 l := fun x hx => (h.2 x hx).2.1
theorem NdFit.names {l : List Nd} (h : NdFit l) : ∀ x ∈ l, x.2.2.size ≤ 1048576 := fun x hx => Nat.le_trans (h.2 x hx).1 (by decide)

theorem nd_set0 (l : List Nd) : ∀ (m : Nat) (a : Int), (h : m < l.length) → (ndCells l).set (m * 3) (.int .i64 a) = ndCells (l.set m (a, l[m].2.1, l[m].2.2)) := by
  induction l with
  | nil => intro m x h; simp at h
  | cons y r ih =>
    intro m x h
    have e : ∀ (z : Nd) (q : List Nd), ndCells (z :: q) = .int .i64 z.1 :: .int .i64 z.2.1 :: .string z.2.2 :: ndCells q := fun z q => by simp [ndCells]
    cases m with
    | zero => show (ndCells (y :: r)).set 0 _ = ndCells ((x, y.2.1, y.2.2) :: r); rw [e, e]; rfl
    | succ m =>
      have h' : m < r.length := by simpa using h
      show (ndCells (y :: r)).set ((m + 1) * 3) _ = ndCells (y :: r.set m (x, r[m].2.1, r[m].2.2))
      rw [e, e, show (m + 1) * 3 = m * 3 + 1 + 1 + 1 from by omega]
      simp only [List.set_cons_succ]
      rw [ih m x h']
theorem nd_set1 (l : List Nd) : ∀ (m : Nat) (a : Int), (h : m < l.length) → (ndCells l).set (m * 3 + 1) (.int .i64 a) = ndCells (l.set m (l[m].1, a, l[m].2.2)) := by
  induction l with
  | nil => intro m x h; simp at h
  | cons y r ih =>
    intro m x h
    have e : ∀ (z : Nd) (q : List Nd), ndCells (z :: q) = .int .i64 z.1 :: .int .i64 z.2.1 :: .string z.2.2 :: ndCells q := fun z q => by simp [ndCells]
    cases m with
    | zero => show (ndCells (y :: r)).set 1 _ = ndCells ((y.1, x, y.2.2) :: r); rw [e, e]; rfl
    | succ m =>
      have h' : m < r.length := by simpa using h
      show (ndCells (y :: r)).set ((m + 1) * 3 + 1) _ = ndCells (y :: r.set m (r[m].1, x, r[m].2.2))
      rw [e, e, show (m + 1) * 3 = m * 3 + 1 + 1 + 1 from by omega]
      simp only [List.set_cons_succ]
      rw [ih m x h']
theorem nd_set2 (l : List Nd) : ∀ (m : Nat) (a : ByteArray), (h : m < l.length) → (ndCells l).set (m * 3 + 1 + 1) (.string a) = ndCells (l.set m (l[m].1, l[m].2.1, a)) := by
  induction l with
  | nil => intro m x h; simp at h
  | cons y r ih =>
    intro m x h
    have e : ∀ (z : Nd) (q : List Nd), ndCells (z :: q) = .int .i64 z.1 :: .int .i64 z.2.1 :: .string z.2.2 :: ndCells q := fun z q => by simp [ndCells]
    cases m with
    | zero => show (ndCells (y :: r)).set 2 _ = ndCells ((y.1, y.2.1, x) :: r); rw [e, e]; rfl
    | succ m =>
      have h' : m < r.length := by simpa using h
      show (ndCells (y :: r)).set ((m + 1) * 3 + 1 + 1) _ = ndCells (y :: r.set m (r[m].1, r[m].2.1, x))
      rw [e, e, show (m + 1) * 3 = m * 3 + 1 + 1 + 1 from by omega]
      simp only [List.set_cons_succ]
      rw [ih m x h']
end Go.Proofs.YtbpfonmkbbnkcaaGreatDoor
