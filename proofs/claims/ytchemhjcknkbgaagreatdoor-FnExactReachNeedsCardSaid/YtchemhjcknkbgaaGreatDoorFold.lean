/- The model's l2One: an op behind others; a sign of numbers alone is done at once. -/
import Derived.Test.YtchemhjcknkbgaaGreatDoorBunY10
import Derived.Deep.AppendLies
namespace Go.Proofs.YtchemhjcknkbgaaGreatDoor
open Go Go.RowKit Go.PlainAid
set_option linter.unusedSimpArgs false
set_option linter.unusedVariables false

/-- the flat cells of ops, the last op first in the list -/
def opRow (st : List (Int × Int)) : List Value := st.reverse.flatMap fun x => [.int .i64 x.1, .int .i64 x.2]
theorem opRow_cons (x : Int × Int) (st : List (Int × Int)) : opRow (x :: st) = opRow st ++ [.int .i64 x.1, .int .i64 x.2] := by simp [opRow]
theorem opRow_len (st : List (Int × Int)) : (opRow st).length = st.length * 2 := by
  induction st with
  | nil => rfl
  | cons x st ih => rw [opRow_cons, List.length_append, ih]; simp; omega
theorem opRow_one (st : List (Int × Int)) : ∀ u ∈ opRow st, u.oneCell' = true := by
  induction st with
  | nil => intro u hu; simp [opRow] at hu
  | cons x st ih =>
    intro u hu
    rw [opRow_cons, List.mem_append] at hu
    rcases hu with hu | hu
    · exact ih u hu
    · simp at hu; rcases hu with rfl | rfl <;> rfl
/-- the slice v owns the ops -/
def OwnOp (B : Nat) (w : World) (v : Value) (st : List (Int × Int)) : Prop := w.ownsRow B 259 2 v st.length (opRow st)

def foldOne (k : Int) (op : Int × Int) : List (Int × Int) → List (Int × Int)
  | x :: r => if x.1 = 1 then (1, one k x.2) :: r else op :: x :: r
  | [] => [op]
def foldTwo (k : Int) (op : Int × Int) : List (Int × Int) → List (Int × Int)
  | y :: x :: r => if y.1 = 1 ∧ x.1 = 1 then (1, two k x.2 y.2) :: r else op :: y :: x :: r
  | st => op :: st
/-- an op behind others; a sign of numbers alone is done at once -/
def foldOp (op : Int × Int) (st : List (Int × Int)) : List (Int × Int) :=
  if op.1 = 3 ∨ op.1 = 4 then foldOne op.1 op st else if 5 ≤ op.1 then foldTwo op.1 op st else op :: st

theorem own_news {w : World} {B size g cap n : Nat} {e : TypeId} {xs : List Value} (h : w.ownsRow B e size (.slice (some ⟨g, 0, none⟩) n cap) n xs) : ∀ j u, xs[j]? = some u → w.cell? ((⟨g, 0, none⟩ : Addr).add j) = some u := by
  intro j u hu
  have hj := (List.getElem?_eq_some_iff.1 hu).1
  have e : (⟨g, 0, none⟩ : Addr).add j = ⟨g, j, none⟩ := by simp [Addr.add]; omega
  rw [e, h.cellAt j (by rw [h.1] at hj; exact hj)]
  exact hu
theorem news_pre {w : World} {a : Addr} {xs ys : List Value} (h : ∀ j u, (xs ++ ys)[j]? = some u → w.cell? (a.add j) = some u) : ∀ j u, xs[j]? = some u → w.cell? (a.add j) = some u := by
  intro j u hu
  have hj := (List.getElem?_eq_some_iff.1 hu).1
  exact h j u (by rw [List.getElem?_append_left hj]; exact hu)
theorem two_new (w : World) (x y : Value) (t : TypeId) (N : Nat) (hN : N = w.heap.size) : ∀ j u, [x, y][j]? = some u → (w.alloc (.cells #[x, y] t)).cell? ((⟨N, 0, none⟩ : Addr).add j) = some u := by
  subst hN
  intro j u hj
  match j, hj with
  | 0, hj => simp at hj; subst hj; simp [Addr.add]
  | 1, hj => simp at hj; subst hj; simp [Addr.add]
theorem made_own (w : World) (B N : Nat) (t : TypeId) (hB : B ≤ w.heap.size) (hN : N = w.heap.size) : (w.alloc (.cells #[] t)).ownsRow B t 2 (.slice (some ⟨N, 0, none⟩) 0 0) 0 [] := by
  subst hN
  exact World.ownsRow_made w #[] 0 hB (Nat.zero_le _) rfl
/-- the last op's cells -/
theorem OwnOp.top {B : Nat} {w : World} {g n cap : Nat} {z : Int × Int} {r : List (Int × Int)} (h : OwnOp B w (.slice (some ⟨g, 0, none⟩) n cap) (z :: r)) : w.cell? ⟨g, r.length * 2, none⟩ = some (.int .i64 z.1) ∧ w.cell? ⟨g, r.length * 2 + 1, none⟩ = some (.int .i64 z.2) := by
  unfold OwnOp at h
  have hn : n = r.length + 1 := by
    rcases h.2 with ⟨h1, _⟩ | ⟨_, _, _, h1, _⟩
    · simp at h1
    · simp at h1; exact h1.2.1
  subst hn
  rw [opRow_cons] at h
  refine ⟨?_, ?_⟩
  · rw [h.cellAt (r.length * 2) (by omega)]; simp [opRow_len]
  · rw [h.cellAt (r.length * 2 + 1) (by omega)]; simp [opRow_len]
theorem OwnOp.next {B : Nat} {w : World} {g n cap : Nat} {z z' : Int × Int} {r : List (Int × Int)} (h : OwnOp B w (.slice (some ⟨g, 0, none⟩) n cap) (z :: z' :: r)) : w.cell? ⟨g, r.length * 2, none⟩ = some (.int .i64 z'.1) ∧ w.cell? ⟨g, r.length * 2 + 1, none⟩ = some (.int .i64 z'.2) := by
  unfold OwnOp at h
  have hn : n = r.length + 1 + 1 := by
    rcases h.2 with ⟨h1, _⟩ | ⟨_, _, _, h1, _⟩
    · simp at h1
    · simp at h1; exact h1.2.1
  subst hn
  rw [opRow_cons, opRow_cons] at h
  refine ⟨?_, ?_⟩
  · rw [h.cellAt (r.length * 2) (by omega)]; simp [opRow_len]
  · rw [h.cellAt (r.length * 2 + 1) (by omega)]; simp [opRow_len]
theorem OwnOp.form {B : Nat} {w : World} {v : Value} {st : List (Int × Int)} (h : OwnOp B w v st) : ∃ a cap, v = .slice a st.length cap ∧ st.length ≤ cap := by
  rcases h.2 with ⟨h1, h2⟩ | ⟨g, cap, cur, h1, _, _, h3, _⟩
  · exact ⟨none, 0, by rw [h1, h2], by omega⟩
  · exact ⟨_, cap, h1, h3⟩
theorem OwnOp.at {B : Nat} {w : World} {v : Value} {z : Int × Int} {r : List (Int × Int)} (h : OwnOp B w v (z :: r)) : ∃ g cap, v = .slice (some ⟨g, 0, none⟩) (r.length + 1) cap ∧ B ≤ g ∧ g < w.heap.size ∧ r.length + 1 ≤ cap := by
  have h0 := h
  rcases h.2 with ⟨h1, h2⟩ | ⟨g, cap, cur, h1, h4, h5, h3, _⟩
  · simp at h2
  · refine ⟨g, cap, by simpa using h1, h4, ?_, by simpa using h3⟩
    rcases Nat.lt_or_ge g w.heap.size with hlt | hge
    · exact hlt
    · rw [Array.getElem?_eq_none hge] at h5; cases h5

/-- no sign of numbers alone: the op comes behind -/
def Plain (k : Int) (st : List (Int × Int)) : Prop := (k = 1 ∨ k = 2) ∨ ((k = 3 ∨ k = 4) ∧ ∃ z r, st = z :: r ∧ z.1 ≠ 1) ∨ ((5 ≤ k ∧ k ≤ 13) ∧ ∃ z z' r, st = z :: z' :: r ∧ (z.1 ≠ 1 ∨ z'.1 ≠ 1))

set_option maxHeartbeats 800000 in
set_option maxRecDepth 100000 in
theorem l2One_plain (B : Nat) (v : Value) (k n : Int) (st : List (Int × Int)) (w : World) (hB : B ≤ w.heap.size) (h : OwnOp B w v st) (hl : st.length ≤ 1000) (hk : Plain k st) :
    Calls Tryz.prog 225 #[v, .agg #[.int .i64 k, .int .i64 n]] w fun e w' => ∃ v', e = .returned v' ∧ OwnOp B w' v' ((k, n) :: st) ∧ Below B w w' := by
  obtain ⟨i0, hi, hz0, hz1, hz2⟩ := info_parts infoOp
  have HO : Hid (OwnOp B w v st) := h
  rcases hk with hk | ⟨hk, z, r, rfl, hz⟩ | ⟨hk, z, z', r, rfl, hz⟩
  · obtain ⟨a, cap, rfl, hcap⟩ := h.form
    obtain ⟨m, hm⟩ : ∃ m, st.length = m := ⟨_, rfl⟩
    have HM : Hid (st.length = m) := hm
    have HO2 : Hid (w.ownsRow B 259 2 (.slice a m cap) m (opRow st)) := by rw [← hm]; exact h
    rw [hm] at hcap hl ⊢
    have e3 : (k == 3) = false := by simp; omega
    have e4 : (k == 4) = false := by simp; omega
    have e5 : ¬ 5 ≤ k := by omega
    clear hk hm h
    go_enter Tryz.func225, Tryz.ntmps225
    go_wp2_with (at_builtin; (refine wpList_append_own _ rfl (.tmp 102) (.tmp 104) 200 rfl B 259 i0 (.agg #[.int .i64 0, .int .i64 0]) 2 16 Tryz.underlying200 hi hz0 hz1 hz2 rfl (by decide) _ m (opRow st) rfl (by exact ((HO2.out.alloc _).alloc _)) ⟨w.heap.size + 1, 0, none⟩ 1 1 [.int .i64 k, .int .i64 n] rfl rfl (by exact two_new _ _ _ _ _ (by simp)) (by intro u hu; simp at hu; rcases hu with rfl | rfl <;> rfl) (by unfold maxLen; omega) (by omega) (by simp; omega) ?_))
    intro v' w1 hown' hgrow _
    have hb1 : Below B w w1 := ((((Below.refl B w).alloc hB _).alloc (by simp; omega) _)).grown hgrow (by simp; omega) (fun q hq => (World.ownsRow.lt HO2.out q hq).1)
    go_wp2_with fail
    go_ret
    exact ⟨v', rfl, by unfold OwnOp; rw [opRow_cons, List.length_cons, HM.out]; exact hown', hb1⟩
  · obtain ⟨g, cap, rfl, hg1, hg2, hcap⟩ := h.at
    obtain ⟨c0, c1⟩ := h.top
    obtain ⟨m, hm⟩ : ∃ m, r.length = m := ⟨_, rfl⟩
    have HM : Hid (r.length = m) := hm
    have HO2 : Hid (w.ownsRow B 259 2 (.slice (some ⟨g, 0, none⟩) (m + 1) cap) (m + 1) (opRow (z :: r))) := by rw [← hm]; exact h
    rw [List.length_cons] at hl
    rw [hm] at hcap hl c0 c1 ⊢
    obtain ⟨x, y⟩ := z
    simp only at hz c0 c1
    have hz' : (x == 1) = false := by simp [hz]
    have e5 : ¬ 5 ≤ k := by omega
    have e34 : (k == 3 || k == 4) = true := by simp; omega
    clear hm h hz
    rcases hk with rfl | rfl
    all_goals
      clear e34
      go_enter Tryz.func225, Tryz.ntmps225
      go_wp2_with (at_builtin; (refine wpList_append_own _ rfl (.tmp 102) (.tmp 104) 200 rfl B 259 i0 (.agg #[.int .i64 0, .int .i64 0]) 2 16 Tryz.underlying200 hi hz0 hz1 hz2 rfl (by decide) _ (m + 1) (opRow ((x, y) :: r)) rfl (by exact ((HO2.out.alloc _).alloc _)) ⟨w.heap.size + 1, 0, none⟩ 1 1 [.int .i64 _, .int .i64 n] rfl rfl (by exact two_new _ _ _ _ _ (by simp)) (by intro u hu; simp at hu; rcases hu with rfl | rfl <;> rfl) (by unfold maxLen; omega) (by omega) (by simp; omega) ?_))
      intro v' w1 hown' hgrow _
      have hb1 : Below B w w1 := ((((Below.refl B w).alloc hB _).alloc (by simp; omega) _)).grown hgrow (by simp; omega) (fun q hq => (World.ownsRow.lt HO2.out q hq).1)
      go_wp2_with fail
      go_ret
      exact ⟨v', rfl, by unfold OwnOp; rw [opRow_cons, List.length_cons, List.length_cons, HM.out]; exact hown', hb1⟩
  · obtain ⟨g, cap, rfl, hg1, hg2, hcap⟩ := h.at
    obtain ⟨c0, c1⟩ := h.top
    obtain ⟨d0, d1⟩ := h.next
    obtain ⟨m, hm⟩ : ∃ m, r.length = m := ⟨_, rfl⟩
    have HM : Hid (r.length = m) := hm
    have HO2 : Hid (w.ownsRow B 259 2 (.slice (some ⟨g, 0, none⟩) (m + 1 + 1) cap) (m + 1 + 1) (opRow (z :: z' :: r))) := by rw [← hm]; exact h
    rw [List.length_cons] at hl hcap c0 c1 ⊢
    rw [List.length_cons] at hl
    rw [hm] at hcap hl c0 c1 d0 d1 ⊢
    obtain ⟨x, y⟩ := z
    obtain ⟨x', y'⟩ := z'
    simp only at hz c0 c1 d0 d1
    have e3 : (k == 3) = false := by simp; omega
    have e4 : (k == 4) = false := by simp; omega
    have e5 : 5 ≤ k := by omega
    clear hm h hk
    by_cases hx : x = 1
    · have hz' : (x' == 1) = false := by simp; rcases hz with h | h; exact absurd hx h; exact h
      subst hx
      clear hz
      go_enter Tryz.func225, Tryz.ntmps225
      go_wp2_with (at_builtin; (refine wpList_append_own _ rfl (.tmp 102) (.tmp 104) 200 rfl B 259 i0 (.agg #[.int .i64 0, .int .i64 0]) 2 16 Tryz.underlying200 hi hz0 hz1 hz2 rfl (by decide) _ (m + 1 + 1) (opRow ((1, y) :: (x', y') :: r)) rfl (by exact ((HO2.out.alloc _).alloc _)) ⟨w.heap.size + 1, 0, none⟩ 1 1 [.int .i64 k, .int .i64 n] rfl rfl (by exact two_new _ _ _ _ _ (by simp)) (by intro u hu; simp at hu; rcases hu with rfl | rfl <;> rfl) (by unfold maxLen; omega) (by omega) (by simp; omega) ?_))
      intro v' w1 hown' hgrow _
      have hb1 : Below B w w1 := ((((Below.refl B w).alloc hB _).alloc (by simp; omega) _)).grown hgrow (by simp; omega) (fun q hq => (World.ownsRow.lt HO2.out q hq).1)
      go_wp2_with fail
      go_ret
      exact ⟨v', rfl, by unfold OwnOp; rw [opRow_cons, List.length_cons, List.length_cons, List.length_cons, HM.out]; exact hown', hb1⟩
    · have hx' : (x == 1) = false := by simp [hx]
      clear hz hx
      go_enter Tryz.func225, Tryz.ntmps225
      go_wp2_with (at_builtin; (refine wpList_append_own _ rfl (.tmp 102) (.tmp 104) 200 rfl B 259 i0 (.agg #[.int .i64 0, .int .i64 0]) 2 16 Tryz.underlying200 hi hz0 hz1 hz2 rfl (by decide) _ (m + 1 + 1) (opRow ((x, y) :: (x', y') :: r)) rfl (by exact ((HO2.out.alloc _).alloc _)) ⟨w.heap.size + 1, 0, none⟩ 1 1 [.int .i64 k, .int .i64 n] rfl rfl (by exact two_new _ _ _ _ _ (by simp)) (by intro u hu; simp at hu; rcases hu with rfl | rfl <;> rfl) (by unfold maxLen; omega) (by omega) (by simp; omega) ?_))
      intro v' w1 hown' hgrow _
      have hb1 : Below B w w1 := ((((Below.refl B w).alloc hB _).alloc (by simp; omega) _)).grown hgrow (by simp; omega) (fun q hq => (World.ownsRow.lt HO2.out q hq).1)
      go_wp2_with fail
      go_ret
      exact ⟨v', rfl, by unfold OwnOp; rw [opRow_cons, List.length_cons, List.length_cons, List.length_cons, HM.out]; exact hown', hb1⟩

/-- what is appended first, of the ops but the last ones; then the number -/
def appCells (r : List (Int × Int)) : List Value := opRow r

set_option maxHeartbeats 800000 in
set_option maxRecDepth 100000 in
theorem l2One_one (B : Nat) (v : Value) (k n y : Int) (r : List (Int × Int)) (w : World) (hB : B ≤ w.heap.size) (h : OwnOp B w v ((1, y) :: r)) (hl : r.length ≤ 1000) (hk : k = 3 ∨ k = 4) (h32 : In32 y) :
    Calls Tryz.prog 225 #[v, .agg #[.int .i64 k, .int .i64 n]] w fun e w' => ∃ v', e = .returned v' ∧ OwnOp B w' v' ((1, one k y) :: r) ∧ Below B w w' := by
  obtain ⟨i0, hi, hz0, hz1, hz2⟩ := info_parts infoOp
  obtain ⟨g, cap, rfl, hg1, hg2, hcap⟩ := h.at
  obtain ⟨c0, c1⟩ := h.top
  obtain ⟨m, hm⟩ : ∃ m, r.length = m := ⟨_, rfl⟩
  have HM : Hid (r.length = m) := hm
  have HO2 : Hid (w.ownsRow B 259 2 (.slice (some ⟨g, 0, none⟩) (m + 1) cap) (m + 1) (opRow r ++ [.int .i64 1, .int .i64 y])) := by rw [← hm, ← opRow_cons (1, y)]; exact h
  have HL : Hid ((opRow r).length = m * 2) := by show List.length _ = _; rw [opRow_len, hm]
  rw [hm] at hcap hl c0 c1 ⊢
  simp only at c0 c1
  unfold In32 at h32
  obtain ⟨h32a, h32b⟩ := h32
  clear hm h
  rcases hk with rfl | rfl
  · have ho : one 3 y = wr32 (-y) := rfl
    rw [ho]
    · go_enter Tryz.func225, Tryz.ntmps225
      go_wp2_with (first | (go_at_call 94; refine (l1Wrap_any _ _).mono ?_; rintro e w' ⟨rfl, hw'⟩; rw [hw']; clear hw' w') | (at_builtin; (refine wpList_append_own _ rfl (.tmp 46) (.tmp 50) 200 rfl B 259 i0 (.agg #[.int .i64 0, .int .i64 0]) 2 16 Tryz.underlying200 hi hz0 hz1 hz2 rfl (by decide) _ 0 [] rfl (by refine made_own _ _ _ _ ?_ ?_ <;> (simp <;> omega)) ⟨g, 0, none⟩ m _ (opRow r) rfl HL.out (by exact news_pre (own_news ((HO2.out.alloc _).alloc _))) (opRow_one r) (by unfold maxLen; omega) (by omega) (by first | omega | (simp; omega)) ?_)))
      intro v1 w1 hown1 hgrow1 _
      have hb1 : Below B w w1 := ((((Below.refl B w).alloc hB _).alloc (by first | omega | (simp; omega)) _)).grown hgrow1 (by first | omega | (simp; omega)) (fun q hq => by simp [Value.ownBlock] at hq; omega)
      have hs1 : B ≤ w1.heap.size := Nat.le_trans hB hb1.size
      have HO3 : Hid (w1.ownsRow B 259 2 v1 m (opRow r)) := by show World.ownsRow _ _ _ _ _ _ _; simpa using hown1
      have HG : Hid (Below B w w1) := hb1
      clear hown1 hgrow1 hb1
      go_wp2_with (at_builtin; (refine wpList_append_own _ rfl (.tmp 51) (.tmp 54) 200 rfl B 259 i0 (.agg #[.int .i64 0, .int .i64 0]) 2 16 Tryz.underlying200 hi hz0 hz1 hz2 rfl (by decide) _ m (opRow r) rfl (by exact (HO3.out.alloc _)) ⟨w1.heap.size, 0, none⟩ 1 1 [.int .i64 1, .int .i64 (wr32 (-y))] rfl rfl (by exact two_new _ _ _ _ _ (by simp)) (by intro u hu; simp at hu; rcases hu with rfl | rfl <;> rfl) (by unfold maxLen; omega) (by omega) (by first | omega | (simp; omega)) ?_))
      intro v2 w2 hown2 hgrow2 _
      have hb2 : Below B w w2 := (HG.out.alloc hs1 _).grown hgrow2 (by first | omega | (simp; omega)) (fun q hq => (World.ownsRow.lt HO3.out q hq).1)
      go_wp2_with fail
      go_ret
      exact ⟨v2, rfl, by unfold OwnOp; rw [opRow_cons, List.length_cons, HM.out]; exact hown2, hb2⟩
  · have ho : one 4 y = bit (y == 0) := rfl
    rw [ho]
    · go_enter Tryz.func225, Tryz.ntmps225
      go_wp2_with (first | (go_at_call 94; refine (l1Wrap_any _ _).mono ?_; rintro e w' ⟨rfl, hw'⟩; rw [hw']; clear hw' w') | (go_at_call 213; refine (l1Bit_any _ _).mono ?_; rintro e w' ⟨rfl, hw'⟩; rw [hw']; clear hw' w') | (at_builtin; (refine wpList_append_own _ rfl (.tmp 46) (.tmp 50) 200 rfl B 259 i0 (.agg #[.int .i64 0, .int .i64 0]) 2 16 Tryz.underlying200 hi hz0 hz1 hz2 rfl (by decide) _ 0 [] rfl (by refine made_own _ _ _ _ ?_ ?_ <;> (simp <;> omega)) ⟨g, 0, none⟩ m _ (opRow r) rfl HL.out (by exact news_pre (own_news ((HO2.out.alloc _).alloc _))) (opRow_one r) (by unfold maxLen; omega) (by omega) (by first | omega | (simp; omega)) ?_)))
      intro v1 w1 hown1 hgrow1 _
      have hb1 : Below B w w1 := ((((Below.refl B w).alloc hB _).alloc (by first | omega | (simp; omega)) _)).grown hgrow1 (by first | omega | (simp; omega)) (fun q hq => by simp [Value.ownBlock] at hq; omega)
      have hs1 : B ≤ w1.heap.size := Nat.le_trans hB hb1.size
      have HO3 : Hid (w1.ownsRow B 259 2 v1 m (opRow r)) := by show World.ownsRow _ _ _ _ _ _ _; simpa using hown1
      have HG : Hid (Below B w w1) := hb1
      clear hown1 hgrow1 hb1
      go_wp2_with (at_builtin; (refine wpList_append_own _ rfl (.tmp 51) (.tmp 54) 200 rfl B 259 i0 (.agg #[.int .i64 0, .int .i64 0]) 2 16 Tryz.underlying200 hi hz0 hz1 hz2 rfl (by decide) _ m (opRow r) rfl (by exact (HO3.out.alloc _)) ⟨w1.heap.size, 0, none⟩ 1 1 [.int .i64 1, .int .i64 (bit (y == 0))] rfl rfl (by exact two_new _ _ _ _ _ (by simp)) (by intro u hu; simp at hu; rcases hu with rfl | rfl <;> rfl) (by unfold maxLen; omega) (by omega) (by first | omega | (simp; omega)) ?_))
      intro v2 w2 hown2 hgrow2 _
      have hb2 : Below B w w2 := (HG.out.alloc hs1 _).grown hgrow2 (by first | omega | (simp; omega)) (fun q hq => (World.ownsRow.lt HO3.out q hq).1)
      go_wp2_with fail
      go_ret
      exact ⟨v2, rfl, by unfold OwnOp; rw [opRow_cons, List.length_cons, HM.out]; exact hown2, hb2⟩

set_option maxHeartbeats 800000 in
set_option maxRecDepth 100000 in
theorem l2One_two (B : Nat) (v : Value) (k n x y : Int) (r : List (Int × Int)) (w : World) (hB : B ≤ w.heap.size) (h : OwnOp B w v ((1, y) :: (1, x) :: r)) (hl : r.length ≤ 1000) (hk : 5 ≤ k ∧ k ≤ 13) (hx : In32 x) (hy : In32 y) :
    Calls Tryz.prog 225 #[v, .agg #[.int .i64 k, .int .i64 n]] w fun e w' => ∃ v', e = .returned v' ∧ OwnOp B w' v' ((1, two k x y) :: r) ∧ Below B w w' := by
  obtain ⟨i0, hi, hz0, hz1, hz2⟩ := info_parts infoOp
  obtain ⟨g, cap, rfl, hg1, hg2, hcap⟩ := h.at
  obtain ⟨c0, c1⟩ := h.top
  obtain ⟨d0, d1⟩ := h.next
  obtain ⟨m, hm⟩ : ∃ m, r.length = m := ⟨_, rfl⟩
  have HM : Hid (r.length = m) := hm
  have HO2 : Hid (w.ownsRow B 259 2 (.slice (some ⟨g, 0, none⟩) (m + 1 + 1) cap) (m + 1 + 1) (opRow r ++ ([.int .i64 1, .int .i64 x] ++ [.int .i64 1, .int .i64 y]))) := by rw [← hm, ← List.append_assoc, ← opRow_cons (1, x), ← opRow_cons (1, y)]; exact h
  have HL : Hid ((opRow r).length = m * 2) := by show List.length _ = _; rw [opRow_len, hm]
  rw [List.length_cons] at hcap c0 c1 ⊢
  rw [hm] at hcap hl c0 c1 d0 d1 ⊢
  simp only at c0 c1 d0 d1
  have HX : Hid (In32 x) := hx
  have HY : Hid (In32 y) := hy
  have e3 : (k == 3) = false := by simp; omega
  have e4 : (k == 4) = false := by simp; omega
  obtain ⟨e5, e13⟩ := hk
  obtain ⟨T, hT⟩ : ∃ T, two k x y = T := ⟨_, rfl⟩
  have HT : Hid (two k x y = T) := hT
  rw [hT]
  clear hm h hx hy hT
  go_enter Tryz.func225, Tryz.ntmps225
  go_wp2_with fail
  go_quiet ((go_at_call 214; exact Calls.quiet_of_same (l1Two_any _ _ _ _ ⟨e5, e13⟩ HX.out HY.out)))
  rw [HT.out]
  go_wp2_with (at_builtin; (refine wpList_append_own _ rfl (.tmp 92) (.tmp 96) 200 rfl B 259 i0 (.agg #[.int .i64 0, .int .i64 0]) 2 16 Tryz.underlying200 hi hz0 hz1 hz2 rfl (by decide) _ 0 [] rfl (by refine made_own _ _ _ _ ?_ ?_ <;> (simp <;> omega)) ⟨g, 0, none⟩ m _ (opRow r) rfl HL.out (by exact news_pre (own_news ((HO2.out.alloc _).alloc _))) (opRow_one r) (by unfold maxLen; omega) (by omega) (by first | omega | (simp; omega)) ?_))
  · skip
    · skip
      intro v1 w1 hown1 hgrow1 _
      have hb1 : Below B w w1 := ((drewN ((Below.refl B w).alloc hB _) _).alloc (by first | omega | (simp; omega)) _).grown hgrow1 (by first | omega | (simp; omega)) (fun q hq => by simp [Value.ownBlock] at hq; omega)
      have hs1 : B ≤ w1.heap.size := Nat.le_trans hB hb1.size
      have HO3 : Hid (w1.ownsRow B 259 2 v1 m (opRow r)) := by show World.ownsRow _ _ _ _ _ _ _; simpa using hown1
      have HG : Hid (Below B w w1) := hb1
      clear hown1 hgrow1 hb1
      go_wp2_with (at_builtin; (refine wpList_append_own _ rfl (.tmp 97) (.tmp 100) 200 rfl B 259 i0 (.agg #[.int .i64 0, .int .i64 0]) 2 16 Tryz.underlying200 hi hz0 hz1 hz2 rfl (by decide) _ m (opRow r) rfl (by exact (HO3.out.alloc _)) ⟨w1.heap.size, 0, none⟩ 1 1 [.int .i64 1, .int .i64 T] rfl rfl (by exact two_new _ _ _ _ _ (by simp)) (by intro u hu; simp at hu; rcases hu with rfl | rfl <;> rfl) (by unfold maxLen; omega) (by omega) (by first | omega | (simp; omega)) ?_))
      intro v2 w2 hown2 hgrow2 _
      have hb2 : Below B w w2 := (HG.out.alloc hs1 _).grown hgrow2 (by first | omega | (simp; omega)) (fun q hq => (World.ownsRow.lt HO3.out q hq).1)
      go_wp2_with fail
      go_ret
      exact ⟨v2, rfl, by unfold OwnOp; rw [opRow_cons, List.length_cons, HM.out]; exact hown2, hb2⟩

end Go.Proofs.YtchemhjcknkbgaaGreatDoor
