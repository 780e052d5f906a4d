/- The model's l1Show as a function, and its two stacks in memory. -/
import Derived.Test.YtcajjngjojegfaaGreatDoorParBound
namespace Go.Proofs.YtcajjngjojegfaaGreatDoor
open Go.RowKit Go.PlainAid
set_option linter.unusedSimpArgs false
set_option linter.unusedVariables false

abbrev TL := List (ByteArray × Int)
def aheadSg (k : Int) : ByteArray := if k = 4 then bang else minus
def aheadStk (k : Int) : TL → Option TL
  | (t, l) :: r => some ((aheadSg k ++ boundM t l 6, 6) :: r)
  | [] => none
def pairStk (k : Int) : TL → Option TL
  | (t2, l2) :: (t1, l1) :: r => some ((boundM t1 l1 (lvl k) ++ sg k.toNat ++ boundM t2 l2 (lvl k + 1), lvl k) :: r)
  | _ => none
/-- one node more: texts and how tightly they bind, the last first -/
def showStep (x : Nd) (stk : TL) : Option TL :=
  if x.1 = 1 then (if (0 ≤ x.2.1 ∧ x.2.1 ≤ 999999) ∧ x.2.2.toList.isEmpty = true then some ((decF 5 x.2.1, 7) :: stk) else none)
  else if x.1 = 2 then (if nmB x.2.2 = true ∧ x.2.1 = 0 then some ((x.2.2, 7) :: stk) else none)
  else if x.1 = 3 ∨ x.1 = 4 then (if x.2.1 = 0 ∧ x.2.2.toList.isEmpty = true then aheadStk x.1 stk else none)
  else if 5 ≤ x.1 ∧ x.1 ≤ 13 then (if x.2.1 = 0 ∧ x.2.2.toList.isEmpty = true then pairStk x.1 stk else none)
  else none
def showTo (l : List Nd) : Nat → Option TL
  | 0 => some []
  | k + 1 => (showTo l k).bind (showStep (l.getD k (0, 0, noName)))
/-- how nodes are written -/
def showM (l : List Nd) : Option ByteArray := match showTo l l.length with | some [(t, _)] => some t | _ => none

theorem showTo_none {l : List Nd} {k n : Nat} (h : k ≤ n) (hk : showTo l k = none) : showTo l n = none := by
  induction n with
  | zero => have : k = 0 := by omega
            subst this; exact hk
  | succ n ih =>
    by_cases e : k = n + 1
    · subst e; exact hk
    · simp [showTo, ih (by omega)]
theorem showM_no {l : List Nd} {k : Nat} {stk : TL} (h : showTo l k = some stk) (hk : k < l.length) (hs : showStep (l.getD k (0, 0, noName)) stk = none) : showM l = none := by
  have h1 : showTo l (k + 1) = none := by simp only [showTo, h]; exact hs
  unfold showM
  rw [showTo_none (n := l.length) (by omega) h1]

def total : TL → Nat
  | [] => 0
  | x :: r => x.1.size + total r
theorem total_step {x : Nd} {stk stk' : TL} (h : showStep x stk = some stk') : total stk' ≤ total stk + 6 ∧ stk'.length ≤ stk.length + 1 := by
  unfold showStep at h
  split at h
  · split at h
    · cases h
      have := decF_size 5 x.2.1
      simp [total]; omega
    · cases h
  split at h
  · split at h
    · rename_i hn
      cases h
      have : x.2.2.size ≤ 6 := by
        have := hn.1; unfold nmB at this; simp at this; omega
      simp [total]; omega
    · cases h
  split at h
  · split at h
    · unfold aheadStk at h
      split at h
      · rename_i t l r
        cases h
        have h1 := bound_size t l 6
        have h2 : (aheadSg x.1).size = 1 := by unfold aheadSg; split <;> rfl
        simp only [total, ByteArray.size_append, List.length_cons]; omega
      · cases h
    · cases h
  split at h
  · split at h
    · unfold pairStk at h
      split at h
      · rename_i t2 l2 t1 l1 r
        cases h
        have h1 := bound_size t1 l1 (lvl x.1)
        have h2 := bound_size t2 l2 (lvl x.1 + 1)
        have h3 := sg_size x.1.toNat
        simp only [total, ByteArray.size_append, List.length_cons]; omega
      · cases h
    · cases h
  · cases h
theorem total_to {l : List Nd} : ∀ {k : Nat} {stk : TL}, showTo l k = some stk → total stk ≤ 6 * k ∧ stk.length ≤ k
  | 0, stk, h => by simp [showTo] at h; subst h; simp [total]
  | k + 1, stk, h => by
    simp only [showTo, Option.bind_eq_some_iff] at h
    obtain ⟨s0, h1, h2⟩ := h
    have := total_to h1
    have := total_step h2
    omega

def strsOf (stk : TL) : List Value := stk.reverse.map fun x => Value.string x.1
def lvsOf (stk : TL) : List Value := stk.reverse.map fun x => Value.int .i64 x.2
/-- the two stacks: rows gt and gl -/
structure Two (B : Nat) (w : World) (gt ct gl cl : Nat) (stk : TL) : Prop where
  t : w.ownsRow B 9 1 (.slice (some ⟨gt, 0, none⟩) stk.length ct) stk.length (strsOf stk)
  l : w.ownsRow B 3 1 (.slice (some ⟨gl, 0, none⟩) stk.length cl) stk.length (lvsOf stk)
  ne : gt ≠ gl
theorem Two.lt {B : Nat} {w : World} {gt ct gl cl : Nat} {stk : TL} (h : Two B w gt ct gl cl stk) : (B ≤ gt ∧ gt < w.heap.size) ∧ (B ≤ gl ∧ gl < w.heap.size) := ⟨h.t.lt gt rfl, h.l.lt gl rfl⟩
theorem Two.old {B : Nat} {w w' : World} {gt ct gl cl : Nat} {stk : TL} (h : Two B w gt ct gl cl stk) (hb : Below w.heap.size w w') : Two B w' gt ct gl cl stk := by
  have hl := h.lt
  exact ⟨own_of_block h.t (fun g hg => by
      have : g = gt := by simpa [Value.ownBlock] using hg.symm
      subst this; exact hb.block g hl.1.2), own_of_block h.l (fun g hg => by
      have : g = gl := by simpa [Value.ownBlock] using hg.symm
      subst this; exact hb.block g hl.2.2), h.ne⟩
theorem Two.drew {B : Nat} {w : World} {gt ct gl cl : Nat} {stk : TL} (h : Two B w gt ct gl cl stk) : Two B w.drew gt ct gl cl stk := ⟨h.t, h.l, h.ne⟩
theorem strsOf_cons (x : ByteArray × Int) (stk : TL) : strsOf (x :: stk) = strsOf stk ++ [.string x.1] := by simp [strsOf]
theorem lvsOf_cons (x : ByteArray × Int) (stk : TL) : lvsOf (x :: stk) = lvsOf stk ++ [.int .i64 x.2] := by simp [lvsOf]
theorem Two.top {B : Nat} {w : World} {gt ct gl cl : Nat} {x : ByteArray × Int} {r : TL} (h : Two B w gt ct gl cl (x :: r)) :
    w.cell? ⟨gt, r.length, none⟩ = some (.string x.1) ∧ w.cell? ⟨gl, r.length, none⟩ = some (.int .i64 x.2) ∧ w.frozen? ⟨gt, r.length, none⟩ = false ∧ w.frozen? ⟨gl, r.length, none⟩ = false := by
  obtain ⟨ht, hl, _⟩ := h
  rw [strsOf_cons] at ht
  rw [lvsOf_cons] at hl
  refine ⟨?_, ?_, ht.frozenAt _, hl.frozenAt _⟩
  · rw [ht.cellAt r.length (by simp)]; simp [strsOf]
  · rw [hl.cellAt r.length (by simp)]; simp [lvsOf]
theorem Two.pop {B : Nat} {w : World} {gt ct gl cl : Nat} {x : ByteArray × Int} {r : TL} (h : Two B w gt ct gl cl (x :: r)) : Two B w gt ct gl cl r := by
  obtain ⟨ht, hl, hn⟩ := h
  rw [strsOf_cons] at ht
  rw [lvsOf_cons] at hl
  exact ⟨ownsRow_pop (by simp [strsOf]) ht, ownsRow_pop (by simp [lvsOf]) hl, hn⟩
/-- the top is written anew -/
theorem Two.put {B : Nat} {w : World} {gt ct gl cl : Nat} {x : ByteArray × Int} {r : TL} (h : Two B w gt ct gl cl (x :: r)) (y : ByteArray) (n : Int) :
    Two B ((w.setCell ⟨gt, r.length, none⟩ (.string y)).setCell ⟨gl, r.length, none⟩ (.int .i64 n)) gt ct gl cl ((y, n) :: r) := by
  obtain ⟨ht, hl, hn⟩ := h
  have h1 := (ht.stored r.length (.string y)).1
  have e1 : (strsOf (x :: r)).set r.length (.string y) = strsOf ((y, n) :: r) := by
    rw [strsOf_cons, strsOf_cons, List.set_append_right _ _ (by simp [strsOf])]; simp [strsOf]
  rw [e1] at h1
  have h2 : (w.setCell ⟨gt, r.length, none⟩ (.string y)).ownsRow B 3 1 (.slice (some ⟨gl, 0, none⟩) (x :: r).length cl) (x :: r).length (lvsOf (x :: r)) :=
    own_of_block hl (fun g hg => by
      have : g = gl := by simpa [Value.ownBlock] using hg.symm
      subst this; exact Below.heap_setCell _ _ _ _ (fun e => hn e.symm))
  have h3 := (h2.stored r.length (.int .i64 n)).1
  have e2 : (lvsOf (x :: r)).set r.length (.int .i64 n) = lvsOf ((y, n) :: r) := by
    rw [lvsOf_cons, lvsOf_cons, List.set_append_right _ _ (by simp [lvsOf])]; simp [lvsOf]
  rw [e2] at h3
  refine ⟨?_, h3, hn⟩
  exact own_of_block h1 (fun g hg => by
      have : g = gt := by simpa [Value.ownBlock] using hg.symm
      subst this; exact Below.heap_setCell _ _ _ _ hn)
end Go.Proofs.YtcajjngjojegfaaGreatDoor
