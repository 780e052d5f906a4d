/- Fires as they lie in memory: two numbers each. -/
import Derived.Test.YtlpdilmdhfemdaaDueM
import Derived.Test.YtlpdilmdhfemdaaOwnRow
namespace Go.Proofs.Ytlpdilmdhfemdaa
open Go Go.RowKit Go.PlainAid
set_option linter.unusedSimpArgs false
set_option linter.unusedVariables false

abbrev Fr := Int × Int
def fireCells : List Fr → List Value
  | [] => []
  | x :: l => .int .i64 x.1 :: .int .i64 x.2 :: fireCells l
theorem fireCells_len : ∀ l : List Fr, (fireCells l).length = l.length * 2
  | [] => rfl
  | x :: l => by simp [fireCells, fireCells_len l]; omega
theorem fireCells_app : ∀ l r : List Fr, fireCells (l ++ r) = fireCells l ++ fireCells r
  | [], r => rfl
  | x :: l, r => by simp [fireCells, fireCells_app l r]
theorem fireCells_at : ∀ (l : List Fr) (i : Nat), (h : i < l.length) → (fireCells l)[i * 2]? = some (.int .i64 (l[i]).1) ∧ (fireCells l)[i * 2 + 1]? = some (.int .i64 (l[i]).2)
  | x :: l, 0, _ => ⟨rfl, rfl⟩
  | x :: l, i + 1, h => by
    have := fireCells_at l i (by simpa using h)
    rw [show (i + 1) * 2 = i * 2 + 1 + 1 by omega]
    exact this
/-- a row of one's own that holds these -/
def OwnF (B : Nat) (w : World) (v : Value) (l : List Fr) : Prop := w.ownsRow B 32 2 v l.length (fireCells l)
theorem OwnF.keep {B : Nat} {v : Value} {l : List Fr} {w w' : World} (h : OwnF B w v l) (hb : Below w.heap.size w w') : OwnF B w' v l := own_of_block h (fun q hq => hb.block q (World.ownsRow.lt h q hq).2)
theorem OwnF.nil (B : Nat) (w : World) : OwnF B w (.slice none 0 0) [] := ⟨rfl, .inl ⟨rfl, rfl⟩⟩
/-- these lie here, in a block from B on that may be written -/
structure FreeF (B : Nat) (w : World) (a : Option Addr) (n : Nat) (l : List Fr) : Prop where
  len : l.length = n
  there : n = 0 ∨ ∃ b, a = some ⟨b, 0, none⟩ ∧ B ≤ b ∧ b < w.heap.size ∧ (∀ j, w.frozen? ⟨b, j, none⟩ = false) ∧ ∀ i, (h : i < l.length) → w.cell? ⟨b, i * 2, none⟩ = some (.int .i64 (l[i]).1) ∧ w.cell? ⟨b, i * 2 + 1, none⟩ = some (.int .i64 (l[i]).2)
theorem OwnF.free {B : Nat} {w : World} {v : Value} {l : List Fr} (h : OwnF B w v l) : ∃ a c, v = .slice a l.length c ∧ l.length ≤ maxLen ∧ FreeF B w a l.length l := by
  have h' := h
  obtain ⟨_, h2⟩ := h
  rcases h2 with ⟨rfl, h0⟩ | ⟨g, cap, cur, rfl, hb, hg, hc, hm, _⟩
  · rw [h0]
    exact ⟨none, 0, rfl, by unfold maxLen; omega, ⟨h0, .inl rfl⟩⟩
  · refine ⟨_, cap, rfl, by omega, ⟨rfl, .inr ⟨g, rfl, hb, (Array.getElem?_eq_some_iff.1 hg).1, fun j => World.ownsRow.frozenAt h' j, fun i hi => ?_⟩⟩⟩
    have h3 := World.ownsRow.cellAt h' (i * 2) (by omega)
    have h4 := World.ownsRow.cellAt h' (i * 2 + 1) (by omega)
    exact ⟨h3.trans (fireCells_at l i hi).1, h4.trans (fireCells_at l i hi).2⟩
theorem FreeF.of_block {B : Nat} {w w' : World} {a : Option Addr} {n : Nat} {l : List Fr} (h : FreeF B w a n l) (hs : w.heap.size ≤ w'.heap.size) (hb : ∀ b, a = some ⟨b, 0, none⟩ → n ≠ 0 → B ≤ b → b < w.heap.size → w'.heap[b]? = w.heap[b]?) : FreeF B w' a n l := by
  refine ⟨h.len, ?_⟩
  by_cases hn : n = 0
  · exact .inl hn
  rcases h.there with h0 | ⟨b, rfl, h1, h2, h3, h4⟩
  · exact absurd h0 hn
  · have hk := hb b rfl hn h1 h2
    exact .inr ⟨b, rfl, h1, Nat.lt_of_lt_of_le h2 hs, fun j => (World.frozen?_of_block hk).trans (h3 j), fun i hi => ⟨(World.cell?_of_block hk).trans (h4 i hi).1, (World.cell?_of_block hk).trans (h4 i hi).2⟩⟩
theorem FreeF.keep {B : Nat} {w w' : World} {a : Option Addr} {n : Nat} {l : List Fr} (h : FreeF B w a n l) (hb : Below w.heap.size w w') : FreeF B w' a n l := h.of_block hb.size (fun b _ _ _ hl => hb.block b hl)

theorem dueM_snoc (l : List Bt) : ∀ (m : Nat) (t : Int), dueM l t (m + 1) = dueM l t m ++ dueAt l (t + m)
  | 0, t => by simp [dueM]
  | m + 1, t => by
    rw [dueM, dueM_snoc l m (t + 1), show t + 1 + (m : Int) = t + ((m + 1 : Nat) : Int) by omega]
    show _ = (dueAt l t ++ dueM l (t + 1) m) ++ _
    rw [List.append_assoc]
theorem dueAt_snoc (l : List Bt) (t : Int) (i : Nat) (h : i < l.length) : dueAt (l.take (i + 1)) t = dueAt (l.take i) t ++ (if atB l[i] t = true then [(t, l[i].1)] else []) := by
  rw [List.take_succ_eq_append_getElem h]
  unfold dueAt
  rw [List.filter_append, List.map_append]
  by_cases hx : atB l[i] t = true
  · rw [if_pos hx, List.filter_cons, if_pos hx]; rfl
  · rw [if_neg hx, List.filter_cons, if_neg hx]; rfl
end Go.Proofs.Ytlpdilmdhfemdaa
