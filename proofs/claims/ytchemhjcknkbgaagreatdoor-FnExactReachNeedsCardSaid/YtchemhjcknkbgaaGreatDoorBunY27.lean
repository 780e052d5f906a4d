/- Blocks as plain data, what the model and the program ask of their names, and that both ask the same. Plain: no program. -/
import Derived.Test.YtchemhjcknkbgaaGreatDoorCodeSpec
import Derived.Test.YtchemhjcknkbgaaGreatDoorBunY26
import Derived.Test.YtchemhjcknkbgaaGreatDoorBunY1
import Derived.Deep.Slices
import Derived.WideShapes
import Derived.ChangeAt
import Derived.Test.YtchemhjcknkbgaaGreatDoorBunY23
import Derived.Test.YtchemhjcknkbgaaGreatDoorBunY2
namespace Go.Proofs.YtchemhjcknkbgaaGreatDoor
open Go Go.RowKit Go.PlainAid
set_option linter.unusedSimpArgs false
set_option linter.unusedVariables false

structure Pt where
  name : ByteArray
  vals : List ByteArray
structure Vr where
  name : ByteArray
  num : Int
structure Mo where
  event : ByteArray
  cond : ByteArray
  to : ByteArray
structure Ac where
  kind : Int
  name : ByteArray
  sum : ByteArray
structure St where
  name : ByteArray
  moves : List Mo
  acts : List Ac
structure Bk where
  name : ByteArray
  ins : List Pt
  outs : List Pt
  vars : List Vr
  states : List St

theorem findM_neg {l : List ByteArray} {x : ByteArray} : findM l x < 0 ↔ x ∉ l := by
  induction l with
  | nil => simp [findM]
  | cons y r ih =>
    simp only [findM]
    by_cases e : y = x
    · rw [if_pos e]; subst e; simp
    · rw [if_neg e]
      have e' : x ≠ y := fun h => e h.symm
      by_cases h : findM r x < 0
      · rw [if_pos h]; simp [e', ih.1 h]
      · rw [if_neg h]
        have := findM_lt r x
        constructor
        · intro hh; omega
        · intro hh; exact absurd (ih.2 (fun hm => hh (List.mem_cons_of_mem _ hm))) h
def addS (o : List ByteArray) (x : ByteArray) : List ByteArray := if findM o x < 0 then o ++ [x] else o
def addM (o more : List ByteArray) : List ByteArray := more.foldl addS o
def valsM (ps : List Pt) : List ByteArray := ps.foldl (fun o p => addM o p.vals) []
def varsM (b : Bk) : List ByteArray := b.vars.map Vr.name
def namesM (b : Bk) : List ByteArray := addM (addM (valsM b.ins) (valsM b.outs)) (varsM b)
def concatM (b : Bk) : List ByteArray := valsM b.ins ++ (valsM b.outs ++ varsM b)
theorem foldl_take {α β : Type} (f : β → α → β) (o : β) (l : List α) {k : Nat} (h : k < l.length) : (l.take (k + 1)).foldl f o = f ((l.take k).foldl f o) l[k] := by
  rw [List.take_succ_eq_append_getElem h, List.foldl_append]; rfl
theorem mem_addS {o : List ByteArray} {x y : ByteArray} : y ∈ addS o x ↔ y ∈ o ∨ y = x := by
  unfold addS
  split
  · simp
  · rename_i h
    constructor
    · exact .inl
    · rintro (h1 | rfl)
      · exact h1
      · exact Classical.byContradiction fun hn => h (findM_neg.2 hn)
theorem mem_addM {o more : List ByteArray} {y : ByteArray} : y ∈ addM o more ↔ y ∈ o ∨ y ∈ more := by
  unfold addM
  induction more generalizing o with
  | nil => simp
  | cons x r ih => rw [List.foldl_cons, ih, mem_addS]; simp [or_assoc]
theorem nodup_addS {o : List ByteArray} (h : o.Nodup) (x : ByteArray) : (addS o x).Nodup := by
  unfold addS
  split
  · rename_i hn
    rw [List.nodup_append]
    refine ⟨h, by simp, fun a ha b hb => ?_⟩
    simp at hb; subst hb
    intro e; subst e
    exact findM_neg.1 hn ha
  · exact h
theorem nodup_addM {o more : List ByteArray} (h : o.Nodup) : (addM o more).Nodup := by
  unfold addM
  induction more generalizing o with
  | nil => exact h
  | cons x r ih => rw [List.foldl_cons]; exact ih (nodup_addS h x)
theorem addM_app {o more : List ByteArray} (hm : more.Nodup) (h : ∀ x ∈ o, x ∉ more) : addM o more = o ++ more := by
  unfold addM
  induction more generalizing o with
  | nil => simp
  | cons x r ih =>
    have hx : x ∉ o := fun hx => h x hx (by simp)
    rw [List.foldl_cons]
    have e : addS o x = o ++ [x] := by unfold addS; rw [if_pos (findM_neg.2 hx)]
    rw [e, ih (List.nodup_cons.1 hm).2 ?_]
    · simp
    · intro y hy hr
      rcases List.mem_append.1 hy with hy | hy
      · exact h y hy (List.mem_cons_of_mem _ hr)
      · simp at hy; subst hy; exact (List.nodup_cons.1 hm).1 hr
theorem valsM_nodup (ps : List Pt) : (valsM ps).Nodup := by
  unfold valsM
  have key : ∀ (l : List Pt) (o : List ByteArray), o.Nodup → (l.foldl (fun o p => addM o p.vals) o).Nodup := by
    intro l
    induction l with
    | nil => intro o h; exact h
    | cons p r ih => intro o h; exact ih _ (nodup_addM h)
  exact key ps [] List.nodup_nil
theorem mem_valsM {ps : List Pt} {x : ByteArray} : x ∈ valsM ps ↔ ∃ p ∈ ps, x ∈ p.vals := by
  unfold valsM
  have key : ∀ (l : List Pt) (o : List ByteArray), x ∈ l.foldl (fun o p => addM o p.vals) o ↔ x ∈ o ∨ ∃ p ∈ l, x ∈ p.vals := by
    intro l
    induction l with
    | nil => intro o; simp
    | cons p r ih => intro o; rw [List.foldl_cons, ih, mem_addM]; simp [or_assoc]
  rw [key]; simp

/-- all of a list are names, none of them twice -/
def AreNames (l : List ByteArray) : Prop := (∀ x ∈ l, nmB x = true) ∧ l.Nodup
instance (l : List ByteArray) : Decidable (AreNames l) := by unfold AreNames; infer_instance
def PortOk (p : Pt) : Prop := p.vals.length ≤ 3 ∧ AreNames p.vals
instance (p : Pt) : Decidable (PortOk p) := by unfold PortOk; infer_instance
def PortsOk (ps : List Pt) : Prop := ps.length ≤ 3 ∧ AreNames (ps.map Pt.name) ∧ ∀ p ∈ ps, PortOk p
instance (ps : List Pt) : Decidable (PortsOk ps) := by unfold PortsOk; infer_instance
def VarOk (v : Vr) : Prop := -999999 ≤ v.num ∧ v.num ≤ 999999
instance (v : Vr) : Decidable (VarOk v) := by unfold VarOk; infer_instance
def VarsOk (vs : List Vr) : Prop := vs.length ≤ 4 ∧ AreNames (vs.map Vr.name) ∧ ∀ v ∈ vs, VarOk v
instance (vs : List Vr) : Decidable (VarsOk vs) := by unfold VarsOk; infer_instance
def Apart (a b : List ByteArray) : Prop := ∀ x ∈ a, x ∉ b
instance (a b : List ByteArray) : Decidable (Apart a b) := decidable_of_iff (∀ x ∈ a, findM b x < 0) (by unfold Apart; simp only [findM_neg])
def SizesOk (b : Bk) : Prop := nmB b.name = true ∧ PortsOk b.ins ∧ PortsOk b.outs ∧ VarsOk b.vars ∧ b.states.length ≤ 5 ∧ AreNames (b.states.map St.name)
instance (b : Bk) : Decidable (SizesOk b) := by unfold SizesOk; infer_instance
/-- what the model asks of names -/
def NamesOk (b : Bk) : Prop := SizesOk b ∧ (Apart (valsM b.ins) (valsM b.outs) ∧ Apart (valsM b.ins) (varsM b) ∧ Apart (valsM b.outs) (varsM b)) ∧ (namesM b).length ≤ 16
instance (b : Bk) : Decidable (NamesOk b) := by unfold NamesOk; infer_instance
/-- what the program asks of names -/
def NamesOkI (b : Bk) : Prop := SizesOk b ∧ (concatM b).length ≤ 16 ∧ AreNames (concatM b)
theorem names_eq {b : Bk} (h : NamesOk b) : namesM b = concatM b := by
  obtain ⟨⟨_, _, _, hv, _⟩, ⟨h1, h2, h3⟩, _⟩ := h
  unfold namesM concatM
  rw [addM_app (valsM_nodup _) h1, addM_app (show (varsM b).Nodup from hv.2.1.2), List.append_assoc]
  intro x hx
  rcases List.mem_append.1 hx with hx | hx
  · exact h2 x hx
  · exact h3 x hx
theorem namesOk_iff (b : Bk) : NamesOkI b ↔ NamesOk b := by
  constructor
  · rintro ⟨hs, hl, hn⟩
    obtain ⟨_, h2⟩ := hn
    unfold concatM at h2
    rw [List.nodup_append] at h2
    obtain ⟨_, h3, h4⟩ := h2
    rw [List.nodup_append] at h3
    have hap : Apart (valsM b.ins) (valsM b.outs) ∧ Apart (valsM b.ins) (varsM b) ∧ Apart (valsM b.outs) (varsM b) :=
      ⟨fun x hx hy => h4 x hx x (List.mem_append_left _ hy) rfl, fun x hx hy => h4 x hx x (List.mem_append_right _ hy) rfl, fun x hx hy => h3.2.2 x hx x hy rfl⟩
    refine ⟨hs, hap, ?_⟩
    have e : namesM b = concatM b := by
      unfold namesM concatM
      rw [addM_app (valsM_nodup _) hap.1, addM_app (show (varsM b).Nodup from hs.2.2.2.1.2.1.2), List.append_assoc]
      intro x hx
      rcases List.mem_append.1 hx with hx | hx
      · exact hap.2.1 x hx
      · exact hap.2.2 x hx
    rw [e]; exact hl
  · intro h
    have e := names_eq h
    obtain ⟨hs, hap, hl⟩ := h
    refine ⟨hs, by rw [← e]; exact hl, ?_, ?_⟩
    · obtain ⟨_, hi, ho, hv, _⟩ := hs
      intro x hx
      unfold concatM at hx
      rcases List.mem_append.1 hx with hx | hx
      · obtain ⟨p, hp, hx⟩ := mem_valsM.1 hx
        exact (hi.2.2 p hp).2.1 x hx
      · rcases List.mem_append.1 hx with hx | hx
        · obtain ⟨p, hp, hx⟩ := mem_valsM.1 hx
          exact (ho.2.2 p hp).2.1 x hx
        · exact hv.2.1.1 x hx
    · rw [← e]
      unfold namesM
      exact nodup_addM (nodup_addM (valsM_nodup _))
instance (b : Bk) : Decidable (NamesOkI b) := decidable_of_iff _ (namesOk_iff b).symm
end Go.Proofs.YtchemhjcknkbgaaGreatDoor

/- What is wrong with a block, as a number: plain, and by the program's ways. No program. -/
namespace Go.Proofs.YtchemhjcknkbgaaGreatDoor
open Go Go.RowKit Go.PlainAid
set_option linter.unusedSimpArgs false
set_option linter.unusedVariables false

def empB (s : ByteArray) : Bool := s.toList.isEmpty
/-- a text is a sum as it is written, of these names alone -/
def sumOk (names : List ByteArray) (s : ByteArray) : Bool := match getM s with | none => false | some l => decide (putM l = s) && (codeM names l).isSome
def sumOkI (names : List ByteArray) (s : ByteArray) : Bool := match getM s with | none => false | some l => decide (putM l = s) && !(l.any fun x => decide (x.1 = 2) && decide (findM names x.2.2 < 0))
theorem codeTo_all {names : List ByteArray} {l : List Nd} : ∀ k, k ≤ l.length → (codeTo names l k).isSome = !((l.take k).any fun x => decide (x.1 = 2) && decide (findM names x.2.2 < 0))
  | 0, _ => by simp [codeTo]
  | k + 1, hk => by
    have ih := codeTo_all (names := names) (l := l) k (by omega)
    have hg : l.getD k (0, 0, noName) = l[k] := by simp [show k < l.length by omega]
    rw [List.take_succ_eq_append_getElem (by omega), List.any_append]
    simp only [codeTo, List.any_cons, List.any_nil, Bool.or_false]
    rw [hg]
    cases hc : codeTo names l k with
    | none =>
      rw [hc] at ih
      simp only [Option.isSome_none, Option.bind_none] at ih ⊢
      have : ((l.take k).any fun x => decide (x.1 = 2) && decide (findM names x.2.2 < 0)) = true := by
        simpa using ih.symm
      rw [this]; rfl
    | some st =>
      rw [hc] at ih
      have h2 : ((l.take k).any fun x => decide (x.1 = 2) && decide (findM names x.2.2 < 0)) = false := by
        simpa using ih.symm
      rw [h2]
      simp only [Option.bind_some, Bool.false_or]
      unfold codeStep
      split
      · rename_i h; simp [h.1, h.2]
      · rename_i h
        simp only [Option.isSome_some]
        by_cases e : l[k].1 = 2
        · have : ¬ findM names l[k].2.2 < 0 := fun hh => h ⟨e, hh⟩
          simp [e, this]
        · simp [e]
theorem sumOk_eq (names : List ByteArray) (s : ByteArray) : sumOkI names s = sumOk names s := by
  unfold sumOk sumOkI
  cases getM s with
  | none => rfl
  | some l =>
    simp only
    unfold codeM
    rw [codeTo_all _ (Nat.le_refl _), List.take_length]

/-- the first code that is not 0 -/
def firstC {α : Type} (f : α → Int) : List α → Int
  | [] => 0
  | x :: r => if f x = 0 then firstC f r else f x
theorem firstC_drop {α : Type} {f : α → Int} : ∀ {l : List α} {k : Nat}, (∀ i, (h : i < l.length) → i < k → f l[i] = 0) → firstC f l = firstC f (l.drop k)
  | [], k, _ => by simp [firstC]
  | x :: r, 0, _ => rfl
  | x :: r, k + 1, h => by
    have h0 : f x = 0 := h 0 (by simp) (by omega)
    rw [firstC, if_pos h0, List.drop_succ_cons]
    exact firstC_drop (fun i hi hk => h (i + 1) (by simp; omega) (by omega))
theorem firstC_at {α : Type} {f : α → Int} {l : List α} {k : Nat} (hk : k < l.length) (h : ∀ i, (h : i < l.length) → i < k → f l[i] = 0) (hn : f l[k] ≠ 0) : firstC f l = f l[k] := by
  rw [firstC_drop h, List.drop_eq_getElem_cons hk, firstC, if_neg hn]
theorem firstC_zero {α : Type} {f : α → Int} {l : List α} (h : ∀ i, (h : i < l.length) → f l[i] = 0) : firstC f l = 0 := by
  rw [firstC_drop (k := l.length) (fun i hi _ => h i hi), List.drop_length]; rfl
theorem firstC_all {α : Type} {f : α → Int} : ∀ {l : List α}, firstC f l = 0 → ∀ x ∈ l, f x = 0
  | [], _, x, hx => by simp at hx
  | y :: r, h, x, hx => by
    rw [firstC] at h
    split at h
    · rename_i h0
      rcases List.mem_cons.1 hx with rfl | hx
      · exact h0
      · exact firstC_all h x hx
    · rename_i h0; exact absurd h h0
theorem firstC_congr {α : Type} {f g : α → Int} {l : List α} (h : ∀ x ∈ l, f x = g x) : firstC f l = firstC g l := by
  induction l with
  | nil => rfl
  | cons x r ih => simp only [firstC]; rw [h x (by simp), ih (fun y hy => h y (List.mem_cons_of_mem _ hy))]

def insM (b : Bk) : List ByteArray := b.ins.map Pt.name
def outsM (b : Bk) : List ByteArray := b.outs.map Pt.name
def statesM (b : Bk) : List ByteArray := b.states.map St.name
def moveM (b : Bk) (names : List ByteArray) (m : Mo) : Int :=
  if empB m.event = false ∧ findM (insM b) m.event < 0 then 3 else if findM (statesM b) m.to < 0 then 2 else if sumOk names m.cond then 0 else 4
def actM (b : Bk) (names : List ByteArray) (a : Ac) : Int :=
  if a.kind = 2 ∧ empB a.sum = true then (if findM (outsM b) a.name < 0 then 3 else 0)
  else if a.kind = 1 then (if findM (varsM b) a.name < 0 ∧ findM (valsM b.outs) a.name < 0 then 5 else if sumOk names a.sum then 0 else 4)
  else 5
/-- an act by the program's way -/
def actI (b : Bk) (names : List ByteArray) (a : Ac) : Int :=
  if a.kind = 2 ∧ empB a.sum = true then (if findM (outsM b) a.name < 0 then 3 else 0)
  else if a.kind ≠ 1 ∨ findM names a.name < (valsM b.ins).length then 5 else if sumOk names a.sum then 0 else 4
def stateM (b : Bk) (names : List ByteArray) (s : St) : Int :=
  if 4 < s.moves.length ∨ 4 < s.acts.length then 1 else if firstC (moveM b names) s.moves = 0 then firstC (actM b names) s.acts else firstC (moveM b names) s.moves
def stateI (b : Bk) (names : List ByteArray) (s : St) : Int :=
  if 4 < s.moves.length ∨ 4 < s.acts.length then 1 else if firstC (moveM b names) s.moves = 0 then firstC (actI b names) s.acts else firstC (moveM b names) s.moves
theorem findM_app {a b : List ByteArray} {x : ByteArray} : findM (a ++ b) x = if findM a x < 0 then (if findM b x < 0 then -1 else a.length + findM b x) else findM a x := by
  induction a with
  | nil =>
    simp only [List.nil_append, findM, List.length_nil]
    rw [if_pos (by decide)]
    have := findM_lt b x
    split <;> omega
  | cons y r ih =>
    simp only [List.cons_append, findM]
    have h1 := findM_lt r x
    have h2 := findM_lt b x
    split
    · rw [if_neg (by decide)]
    · rw [ih]
      simp only [List.length_cons]
      by_cases e : findM r x < 0
      · rw [if_pos e, if_pos e]
        rw [if_pos (show (-1 : Int) < 0 by decide)]
        split
        · rw [if_pos (by decide)]
        · rw [if_neg (by omega)]; omega
      · rw [if_neg e, if_neg e, if_neg (by omega)]
theorem actI_eq {b : Bk} (h : NamesOk b) (a : Ac) : actI b (concatM b) a = actM b (concatM b) a := by
  obtain ⟨_, ⟨h1, h2, h3⟩, _⟩ := h
  unfold actI actM
  split
  · rfl
  · by_cases hk : a.kind = 1
    · have e : (a.kind ≠ 1 ∨ findM (concatM b) a.name < (valsM b.ins).length) ↔ (findM (varsM b) a.name < 0 ∧ findM (valsM b.outs) a.name < 0) := by
        have l1 := findM_lt (valsM b.ins) a.name
        have l2 := findM_lt (valsM b.outs) a.name
        have l3 := findM_lt (varsM b) a.name
        unfold concatM
        rw [findM_app, findM_app]
        by_cases e1 : findM (valsM b.ins) a.name < 0
        · rw [if_pos e1]
          by_cases e2 : findM (valsM b.outs) a.name < 0
          · rw [if_pos e2]
            by_cases e3 : findM (varsM b) a.name < 0
            · rw [if_pos e3, if_pos (show (-1 : Int) < 0 by decide)]
              exact ⟨fun _ => ⟨e3, e2⟩, fun _ => .inr (by omega)⟩
            · rw [if_neg e3, if_neg (by omega)]
              exact ⟨fun hh => by rcases hh with hh | hh; exact absurd hk hh; omega, fun hh => absurd hh.1 e3⟩
          · rw [if_neg e2, if_neg e2]
            exact ⟨fun hh => by rcases hh with hh | hh; exact absurd hk hh; omega, fun hh => absurd hh.2 e2⟩
        · rw [if_neg e1]
          have hin : a.name ∈ valsM b.ins := Classical.byContradiction fun hn => e1 (findM_neg.2 hn)
          exact ⟨fun _ => ⟨findM_neg.2 (h2 _ hin), findM_neg.2 (h1 _ hin)⟩, fun _ => .inr (by omega)⟩
      rw [if_pos hk]
      by_cases hc : findM (varsM b) a.name < 0 ∧ findM (valsM b.outs) a.name < 0
      · rw [if_pos hc, if_pos (e.2 hc)]
      · rw [if_neg hc, if_neg (fun hh => hc (e.1 hh))]
    · rw [if_pos (.inl hk), if_neg hk]
theorem stateI_eq {b : Bk} (h : NamesOk b) (s : St) : stateI b (concatM b) s = stateM b (concatM b) s := by
  unfold stateI stateM
  rw [firstC_congr (fun a _ => actI_eq h a)]

/-- where moves without an event lead -/
def edgesM (b : Bk) (i : Nat) : List Nat := ((b.states.getD i ⟨noName, [], []⟩).moves.filter fun m => empB m.event).map fun m => (findM (statesM b) m.to).toNat
def ringM (b : Bk) : Bool := (List.range b.states.length).any (Wk (edgesM b) (b.states.length + 1))
def checkM (b : Bk) : Int :=
  if ¬ NamesOk b then 1 else if b.states = [] then 2 else if firstC (stateM b (namesM b)) b.states = 0 then (if ringM b then 6 else 0) else firstC (stateM b (namesM b)) b.states
theorem state_moves {b : Bk} {names : List ByteArray} {s : St} (h : stateM b names s = 0) : s.moves.length ≤ 4 ∧ s.acts.length ≤ 4 ∧ (∀ m ∈ s.moves, moveM b names m = 0) ∧ ∀ a ∈ s.acts, actM b names a = 0 := by
  unfold stateM at h
  split at h
  · cases h
  · rename_i hl
    split at h
    · rename_i hm
      exact ⟨by omega, by omega, firstC_all hm, firstC_all h⟩
    · rename_i hm; exact absurd h hm
theorem edges_lt {b : Bk} {names : List ByteArray} (h : firstC (stateM b names) b.states = 0) : ∀ i, i < b.states.length → ∀ j ∈ edgesM b i, j < b.states.length := by
  intro i hi j hj
  unfold edgesM at hj
  obtain ⟨m, hm, rfl⟩ := List.mem_map.1 hj
  have hm2 := (List.mem_filter.1 hm).1
  have e : b.states.getD i ⟨noName, [], []⟩ = b.states[i] := by simp [hi]
  rw [e] at hm2
  have hs := firstC_all h b.states[i] (List.getElem_mem hi)
  have := (state_moves hs).2.2.1 m hm2
  unfold moveM at this
  split at this
  · cases this
  · split at this
    · cases this
    · rename_i hf
      have := (findM_lt (statesM b) m.to).2
      have hl : (statesM b).length = b.states.length := by simp [statesM]
      omega
/-- rings by the program's way -/
theorem ring_rounds {b : Bk} {names : List ByteArray} (h : firstC (stateM b names) b.states = 0) : (roundsE (edgesM b) b.states.length b.states.length).any (fun x => !x) = ringM b := by
  have hE := edges_lt h
  have hl := roundsE_len (edgesM b) b.states.length b.states.length
  unfold ringM
  cases e : (List.range b.states.length).any (Wk (edgesM b) (b.states.length + 1)) with
  | true =>
    rw [List.any_eq_true] at e ⊢
    obtain ⟨i, hi, hw⟩ := e
    have hi2 := List.mem_range.1 hi
    have hr := rounds_all hE hi2
    rw [hw] at hr
    refine ⟨false, ?_, rfl⟩
    have : (roundsE (edgesM b) b.states.length b.states.length)[i]'(by rw [hl]; exact hi2) = false := by
      simpa [List.getD_eq_getElem?_getD, hl, hi2] using hr
    rw [← this]; exact List.getElem_mem _
  | false =>
    rw [List.any_eq_false] at e ⊢
    intro x hx
    obtain ⟨i, hi, rfl⟩ := List.mem_iff_getElem.1 hx
    have hi2 : i < b.states.length := by rw [← hl]; exact hi
    have hr := rounds_all hE hi2
    have hw := e i (List.mem_range.2 hi2)
    simp only [Bool.not_eq_true] at hw
    rw [hw] at hr
    simp only [List.getD_eq_getElem?_getD, List.getElem?_eq_getElem hi, Option.getD_some] at hr
    rw [hr]; simp
end Go.Proofs.YtchemhjcknkbgaaGreatDoor

/- Blocks as they lie in memory. -/
namespace Go.Proofs.YtchemhjcknkbgaaGreatDoor
open Go Go.ChangeShapes Go.WideShapes Go.ChangeAt Go.RowKit Go.Deep Go.PlainAid
set_option linter.unusedSimpArgs false
set_option linter.unusedVariables false

def QPt (B : Nat) (w : World) (cs : List Value) (p : Pt) : Prop := ∃ a n c, cs = [.string p.name, .slice a n c] ∧ n ≤ c ∧ c ≤ maxLen ∧ IsStrs B w a n p.vals
def QVr (B : Nat) (w : World) (cs : List Value) (v : Vr) : Prop := cs = [.string v.name, .int .i64 v.num]
def QMo (B : Nat) (w : World) (cs : List Value) (m : Mo) : Prop := cs = [.string m.event, .string m.cond, .string m.to]
def QAc (B : Nat) (w : World) (cs : List Value) (a : Ac) : Prop := cs = [.int .i64 a.kind, .string a.name, .string a.sum]
def QSt (B : Nat) (w : World) (cs : List Value) (s : St) : Prop := ∃ a n c a' n' c', cs = [.string s.name, .slice a n c, .slice a' n' c'] ∧ n ≤ c ∧ c ≤ maxLen ∧ n' ≤ c' ∧ c' ≤ maxLen ∧ IsArr 3 QMo B w a n s.moves ∧ IsArr 3 QAc B w a' n' s.acts
theorem QPt.below {B : Nat} {w w' : World} (hb : Below B w w') (cs : List Value) (p : Pt) (h : QPt B w cs p) : QPt B w' cs p := by
  obtain ⟨a, n, c, h1, h2, h3, h4⟩ := h; exact ⟨a, n, c, h1, h2, h3, h4.below hb⟩
theorem QSt.below {B : Nat} {w w' : World} (hb : Below B w w') (cs : List Value) (s : St) (h : QSt B w cs s) : QSt B w' cs s := by
  obtain ⟨a, n, c, a', n', c', h1, h2, h3, h4, h5, h6, h7⟩ := h
  exact ⟨a, n, c, a', n', c', h1, h2, h3, h4, h5, h6.below (fun _ _ q => q) hb, h7.below (fun _ _ q => q) hb⟩
theorem QPt.mono {B B' : Nat} {w : World} (hb : B ≤ B') (cs : List Value) (p : Pt) (h : QPt B w cs p) : QPt B' w cs p := by
  obtain ⟨a, n, c, h1, h2, h3, h4⟩ := h; exact ⟨a, n, c, h1, h2, h3, h4.mono hb⟩
theorem QSt.mono {B B' : Nat} {w : World} (hb : B ≤ B') (cs : List Value) (s : St) (h : QSt B w cs s) : QSt B' w cs s := by
  obtain ⟨a, n, c, a', n', c', h1, h2, h3, h4, h5, h6, h7⟩ := h
  exact ⟨a, n, c, a', n', c', h1, h2, h3, h4, h5, h6.mono (fun _ _ q => q) hb, h7.mono (fun _ _ q => q) hb⟩
/-- where a block's lists lie -/
structure BkV where
  ai : Option Addr
  ni : Nat
  ci : Nat
  ao : Option Addr
  no : Nat
  co : Nat
  av : Option Addr
  nv : Nat
  cv : Nat
  at_ : Option Addr
  nt : Nat
  ct : Nat
def BkV.val (v : BkV) (name : ByteArray) : Value := .agg #[.string name, .slice v.ai v.ni v.ci, .slice v.ao v.no v.co, .slice v.av v.nv v.cv, .slice v.at_ v.nt v.ct]
/-- a block in memory -/
structure IsBk (B : Nat) (w : World) (v : BkV) (b : Bk) : Prop where
  ins : IsArr 2 QPt B w v.ai v.ni b.ins
  outs : IsArr 2 QPt B w v.ao v.no b.outs
  vars : IsArr 2 QVr B w v.av v.nv b.vars
  states : IsArr 3 QSt B w v.at_ v.nt b.states
  caps : (v.ni ≤ v.ci ∧ v.ci ≤ maxLen) ∧ (v.no ≤ v.co ∧ v.co ≤ maxLen) ∧ (v.nv ≤ v.cv ∧ v.cv ≤ maxLen) ∧ (v.nt ≤ v.ct ∧ v.ct ≤ maxLen)
theorem IsBk.below {B : Nat} {w w' : World} {v : BkV} {b : Bk} (h : IsBk B w v b) (hb : Below B w w') : IsBk B w' v b :=
  ⟨h.ins.below (QPt.below hb) hb, h.outs.below (QPt.below hb) hb, h.vars.below (fun _ _ q => q) hb, h.states.below (QSt.below hb) hb, h.caps⟩
theorem IsBk.mono {B B' : Nat} {w : World} {v : BkV} {b : Bk} (h : IsBk B w v b) (hb : B ≤ B') : IsBk B' w v b :=
  ⟨h.ins.mono (QPt.mono hb) hb, h.outs.mono (QPt.mono hb) hb, h.vars.mono (fun _ _ q => q) hb, h.states.mono (QSt.mono hb) hb, h.caps⟩
theorem IsBk.up {w w' : World} {v : BkV} {b : Bk} (h : IsBk w.heap.size w v b) (hb : Below w.heap.size w w') : IsBk w'.heap.size w' v b := (h.below hb).mono hb.size
/-- what Go's types say of a block's texts and numbers -/
def BkWide (b : Bk) : Prop := ∀ v ∈ b.vars, -9223372036854775808 ≤ v.num ∧ v.num ≤ 9223372036854775807

/-! ### opening -/
end Go.Proofs.YtchemhjcknkbgaaGreatDoor

/- The law's sizes of a block: what is too great is passed by. -/
namespace Go.Proofs.YtchemhjcknkbgaaGreatDoor
open Go Go.RowKit Go.PlainAid
set_option linter.unusedSimpArgs false
set_option linter.unusedVariables false

def wtS (s : ByteArray) : Nat := s.size
def wtPt (p : Pt) : Nat := p.name.size + (p.vals.length + wsum wtS p.vals)
def wtVr (v : Vr) : Nat := v.name.size
def wtMo (m : Mo) : Nat := m.event.size + m.cond.size + m.to.size
def wtAc (a : Ac) : Nat := a.name.size + a.sum.size
def wtSt (s : St) : Nat := s.name.size + (s.moves.length + wsum wtMo s.moves) + (s.acts.length + wsum wtAc s.acts)
def wtBk (b : Bk) : Nat := b.name.size + (b.ins.length + wsum wtPt b.ins) + (b.outs.length + wsum wtPt b.outs) + (b.vars.length + wsum wtVr b.vars) + (b.states.length + wsum wtSt b.states)
def WidePt (p : Pt) : Prop := p.name.size ≤ maxLen ∧ ∀ y ∈ p.vals, y.size ≤ maxLen
def WideVr (v : Vr) : Prop := v.name.size ≤ maxLen ∧ -9223372036854775808 ≤ v.num ∧ v.num ≤ 9223372036854775807
def WideMo (m : Mo) : Prop := m.event.size ≤ maxLen ∧ m.cond.size ≤ maxLen ∧ m.to.size ≤ maxLen
def WideAc (a : Ac) : Prop := a.name.size ≤ maxLen ∧ a.sum.size ≤ maxLen
def WideSt (s : St) : Prop := s.name.size ≤ maxLen ∧ (∀ m ∈ s.moves, WideMo m) ∧ ∀ a ∈ s.acts, WideAc a
def WideBk (b : Bk) : Prop := b.name.size ≤ maxLen ∧ (∀ p ∈ b.ins, WidePt p) ∧ (∀ p ∈ b.outs, WidePt p) ∧ (∀ v ∈ b.vars, WideVr v) ∧ ∀ s ∈ b.states, WideSt s
theorem QPt.lift {B : Nat} {w w' : World} (hb : Below B w w') : ∀ cs x, QPt B w cs x → QPt B w' cs x := QPt.below hb
theorem QSt.lift {B : Nat} {w w' : World} (hb : Below B w w') : ∀ cs x, QSt B w cs x → QSt B w' cs x := QSt.below hb
theorem QVr.lift {B : Nat} {w w' : World} (hb : Below B w w') : ∀ cs x, QVr B w cs x → QVr B w' cs x := fun _ _ h => h
theorem QMo.lift {B : Nat} {w w' : World} (hb : Below B w w') : ∀ cs x, QMo B w cs x → QMo B w' cs x := fun _ _ h => h
theorem QAc.lift {B : Nat} {w w' : World} (hb : Below B w w') : ∀ cs x, QAc B w cs x → QAc B w' cs x := fun _ _ h => h

set_option maxHeartbeats 800000 in
set_option maxRecDepth 100000 in
theorem szStringS_w (B : Nat) (a : Option Addr) (n cap : Nat) (l : List ByteArray) (left : Int) (w : World) (h0 : 0 ≤ left) (h1 : left ≤ 1048576) (hn : n ≤ maxLen) (hs : ∀ x ∈ l, x.size ≤ maxLen) (hz : IsStrs B w a n l) :
    Calls Tryz.prog 107 #[.slice a n cap, .int .i64 left] w fun e w' => SzP (n + wsum wtS l) left w e w' := by
  have hlen := hz.1
  have HZ := hidOf hz
  have HS := hidOf hs
  clear hz hs
  unfold maxLen at hn
  have hw : IntKind.i64.wrap (left - n) = left - n := by rw [IntKind.wrap_i64]; omega
  by_cases h : left < n
  · go_enter Tryz.func107, Tryz.ntmps107
    go_wp2_with fail
    go_ret
    exact ⟨-1, rfl, Below.refl _ _, by omega, by omega, fun h => by omega⟩
  go_enter Tryz.func107, Tryz.ntmps107
  go_wp2_with fail
  go_loopw [1, 5] (fun v i wr => ∃ (k : Nat) (r : Int), k ≤ n ∧ i = .int .i64 k ∧ v = .int .i64 r ∧ 0 ≤ r ∧ r + (wsum wtS (l.take k) : Nat) + n = left ∧ wr = w) (fun _ i _ => n - (intOf i).toNat)
  case atStart => exact ⟨0, left - n, Nat.zero_le _, rfl, rfl, by omega, by simp [wsum], rfl⟩
  case round =>
    obtain ⟨k, r, hk, rfl, rfl, hr0, hr1, rfl⟩ := hrel
    by_cases hlt : k < n
    · rcases HZ.out.2 with h0 | ⟨b, off, rfl, hb, hc⟩
      · omega
      have hW := HS.out (l[k]'(by omega)) (List.getElem_mem _)
      have c0 := hc k (by omega)
      have hws := wsum_take wtS l (show k < l.length by omega)
      obtain ⟨x, hx⟩ : ∃ x, l[k]'(by omega) = x := ⟨_, rfl⟩
      rw [hx] at c0 hW hws
      have ews : wtS x = x.size := rfl
      rw [ews] at hws
      unfold maxLen at hW
      have hw2 := wrap_sub (left := r) (n := x.size) hr0 (by omega) (by omega)
      clear hc hx
      by_cases hr : r < x.size
      · go_wp2_with fail
        go_ret
        exact ⟨-1, rfl, Below.refl _ _, by omega, by omega, fun h => by omega⟩
      · go_wp2_with fail
        go_roundw
        case rel => exact ⟨k + 1, r - x.size, by omega, by go_num, rfl, by omega, by rw [hws]; push_cast; omega, by first | rfl | trivial⟩
        case measure => simp [intOf]; omega
    · have : k = n := by omega
      subst this
      go_wp2_with fail
      go_ret
      rw [List.take_of_length_le (by omega)] at hr1
      exact ⟨r, rfl, Below.refl _ _, by omega, by omega, fun _ => by push_cast; omega⟩

set_option maxHeartbeats 800000 in
set_option maxRecDepth 100000 in
theorem szPort_any (B : Nat) (w : World) (left : Int) (x : Pt) (h0 : 0 ≤ left) (h1 : left ≤ 1048576) (hB : B ≤ w.heap.size) (hW : WidePt x) (a : Option Addr) (n c : Nat) (hn : n ≤ c) (hc : c ≤ maxLen) (hv : IsStrs B w a n x.vals) :
    Calls Tryz.prog 61 #[.agg #[.string x.name, .slice a n c], .int .i64 left] w fun e w' => SzP (wtPt x) left w e w' := by
  obtain ⟨xn, xv⟩ := x
  obtain ⟨hW1, hW2⟩ := hW
  simp only at hW1 hW2 hv ⊢
  have HV := hidOf hv
  have HW2 := hidOf hW2
  have hvl := hv.1
  have HB0 : Hid (Below w.heap.size w (w.alloc (.cells #[.string xn, .slice a n c] 105))) := (Below.refl _ _).alloc (Nat.le_refl _) _
  unfold maxLen at hc hW1
  have hw := wrap_sub (n := xn.size) h0 h1 (by omega)
  clear hv hW2
  by_cases h : left < xn.size
  · go_enter Tryz.func61, Tryz.ntmps61
    go_wp2_with fail
    go_ret
    exact ⟨-1, rfl, HB0.out, by omega, by omega, fun h => by omega⟩
  have HSS : Hid (∀ W, Below w.heap.size w W → Calls Tryz.prog 107 #[.slice a n c, .int .i64 (left - xn.size)] W fun e w' => SzP (n + wsum wtS xv) (left - xn.size) W e w') := fun W hb => szStringS_w B a n c xv (left - xn.size) W (by omega) (by omega) (by unfold maxLen; omega) HW2.out (HV.out.below (hb.mono hB))
  go_enter Tryz.func61, Tryz.ntmps61
  go_wp2_with fail
  refine (HSS.out _ HB0.out).mono ?_
  rintro e w1 ⟨q, rfl, hb1, hq1, hq2, hq3⟩
  have HB1 : Hid (Below w.heap.size w w1) := HB0.out.trans (hb1.mono HB0.out.size)
  clear hb1
  by_cases hq : q < 0
  · go_wp2_with fail
    go_ret
    exact ⟨-1, rfl, HB1.out, by omega, by omega, fun h => by omega⟩
  · have hq4 := hq3 (by omega)
    clear hq3
    go_wp2_with fail
    go_ret
    exact ⟨q, rfl, HB1.out, by omega, by omega, fun h => by unfold wtPt; simp only; rw [hvl]; push_cast at hq4 ⊢; omega⟩

set_option maxHeartbeats 800000 in
set_option maxRecDepth 100000 in
theorem szVar_any (B : Nat) (w : World) (left : Int) (x : Vr) (h0 : 0 ≤ left) (h1 : left ≤ 1048576) (hB : B ≤ w.heap.size) (hW : WideVr x) :
    Calls Tryz.prog 62 #[.agg #[.string x.name, .int .i64 x.num], .int .i64 left] w fun e w' => SzP (wtVr x) left w e w' := by
  obtain ⟨xn, xv⟩ := x
  obtain ⟨hW1, _, _⟩ := hW
  simp only at hW1 ⊢
  unfold maxLen at hW1
  have hw := wrap_sub (n := xn.size) h0 h1 (by omega)
  by_cases h : left < xn.size
  · go_enter Tryz.func62, Tryz.ntmps62
    go_wp2_with fail
    go_ret
    exact ⟨-1, rfl, by go_grown, by omega, by omega, fun h => by omega⟩
  · go_enter Tryz.func62, Tryz.ntmps62
    go_wp2_with fail
    go_ret
    exact ⟨_, rfl, by go_grown, by omega, by omega, fun h => by unfold wtVr; simp only; omega⟩

set_option maxHeartbeats 800000 in
set_option maxRecDepth 100000 in
theorem szMove_any (B : Nat) (w : World) (left : Int) (x : Mo) (h0 : 0 ≤ left) (h1 : left ≤ 1048576) (hB : B ≤ w.heap.size) (hW : WideMo x) :
    Calls Tryz.prog 151 #[.agg #[.string x.event, .string x.cond, .string x.to], .int .i64 left] w fun e w' => SzP (wtMo x) left w e w' := by
  obtain ⟨x0, x1, x2⟩ := x
  obtain ⟨hW1, hW2, hW3⟩ := hW
  simp only at hW1 hW2 hW3 ⊢
  unfold maxLen at hW1 hW2 hW3
  have hw := wrap_sub (n := x0.size) h0 h1 (by omega)
  by_cases h : left < x0.size
  · go_enter Tryz.func151, Tryz.ntmps151
    go_wp2_with fail
    go_ret
    exact ⟨-1, rfl, by go_grown, by omega, by omega, fun h => by omega⟩
  have hw2 := wrap_sub (left := left - x0.size) (n := x1.size) (by omega) (by omega) (by omega)
  by_cases h2 : left - x0.size < x1.size
  · go_enter Tryz.func151, Tryz.ntmps151
    go_wp2_with fail
    go_ret
    exact ⟨-1, rfl, by go_grown, by omega, by omega, fun h => by omega⟩
  have hw3 := wrap_sub (left := left - x0.size - x1.size) (n := x2.size) (by omega) (by omega) (by omega)
  by_cases h3 : left - x0.size - x1.size < x2.size
  · go_enter Tryz.func151, Tryz.ntmps151
    go_wp2_with fail
    go_ret
    exact ⟨-1, rfl, by go_grown, by omega, by omega, fun h => by omega⟩
  · go_enter Tryz.func151, Tryz.ntmps151
    go_wp2_with fail
    go_ret
    exact ⟨_, rfl, by go_grown, by omega, by omega, fun h => by unfold wtMo; simp only; push_cast; omega⟩

set_option maxHeartbeats 800000 in
set_option maxRecDepth 100000 in
theorem szAct_any (B : Nat) (w : World) (left : Int) (x : Ac) (h0 : 0 ≤ left) (h1 : left ≤ 1048576) (hB : B ≤ w.heap.size) (hW : WideAc x) :
    Calls Tryz.prog 152 #[.agg #[.int .i64 x.kind, .string x.name, .string x.sum], .int .i64 left] w fun e w' => SzP (wtAc x) left w e w' := by
  obtain ⟨x0, x1, x2⟩ := x
  obtain ⟨hW2, hW3⟩ := hW
  simp only at hW2 hW3 ⊢
  unfold maxLen at hW2 hW3
  have hw2 := wrap_sub (n := x1.size) h0 h1 (by omega)
  by_cases h2 : left < x1.size
  · go_enter Tryz.func152, Tryz.ntmps152
    go_wp2_with fail
    go_ret
    exact ⟨-1, rfl, by go_grown, by omega, by omega, fun h => by omega⟩
  have hw3 := wrap_sub (left := left - x1.size) (n := x2.size) (by omega) (by omega) (by omega)
  by_cases h3 : left - x1.size < x2.size
  · go_enter Tryz.func152, Tryz.ntmps152
    go_wp2_with fail
    go_ret
    exact ⟨-1, rfl, by go_grown, by omega, by omega, fun h => by omega⟩
  · go_enter Tryz.func152, Tryz.ntmps152
    go_wp2_with fail
    go_ret
    exact ⟨_, rfl, by go_grown, by omega, by omega, fun h => by unfold wtAc; simp only; push_cast; omega⟩

set_option maxHeartbeats 800000 in
set_option maxRecDepth 100000 in
theorem szPortS_any (B : Nat) (a : Option Addr) (n cap : Nat) (l : List Pt) (left : Int) (w : World) (h0 : 0 ≤ left) (h1 : left ≤ 1048576) (hn : n ≤ maxLen) (hB : B ≤ w.heap.size) (hs : ∀ x ∈ l, WidePt x) (hz : IsArr 2 QPt B w a n l) :
    Calls Tryz.prog 27 #[.slice a n cap, .int .i64 left] w fun e w' => SzP (n + wsum wtPt l) left w e w' := by
  have hlen := hz.1
  have HZ := hidOf hz
  have HS := hidOf hs
  clear hz hs
  unfold maxLen at hn
  have hw : IntKind.i64.wrap (left - n) = left - n := by rw [IntKind.wrap_i64]; omega
  by_cases h : left < n
  · go_enter Tryz.func27, Tryz.ntmps27
    go_wp2_with fail
    go_ret
    exact ⟨-1, rfl, Below.refl _ _, by omega, by omega, fun h => by omega⟩
  go_enter Tryz.func27, Tryz.ntmps27
  go_wp2_with fail
  go_loopw [1, 5] (fun v i wr => ∃ (k : Nat) (r : Int), k ≤ n ∧ i = .int .i64 k ∧ v = .int .i64 r ∧ 0 ≤ r ∧ r + (wsum wtPt (l.take k) : Nat) + n = left ∧ Below w.heap.size w wr) (fun _ i _ => n - (intOf i).toNat)
  case atStart => exact ⟨0, left - n, Nat.zero_le _, rfl, rfl, by omega, by simp [wsum], Below.refl _ _⟩
  case round =>
    obtain ⟨k, r, hk, rfl, rfl, hr0, hr1, hbel⟩ := hrel
    by_cases hlt : k < n
    · obtain ⟨b, off, cs, rfl, hb, hq, hcell⟩ := IsArr.at (HZ.out.below (QPt.lift (hbel.mono hB)) (hbel.mono hB)) hlt (show k < l.length by omega)
      have hbr : b < wr.heap.size := by have := hbel.size; omega
      have hbB : B ≤ wr.heap.size := by have := hbel.size; omega
      have hW := HS.out (l[k]'(by omega)) (List.getElem_mem _)
      obtain ⟨x, hx⟩ : ∃ x, l[k]'(by omega) = x := ⟨_, rfl⟩
      have HX := hidOf hx
      rw [hx] at hq hW
      obtain ⟨pa, pn, pc, rfl, hp1, hp2, hp3⟩ := hq
      have HP3 := hidOf hp3
      have c0 : wr.cell? ⟨b, off + k * 2, none⟩ = some (.string x.name) := hcell 0 _ rfl
      have c1 : wr.cell? ⟨b, off + k * 2 + 1, none⟩ = some (.slice pa pn pc) := hcell 1 _ rfl
      have HE := hidOf (szPort_any B wr r x hr0 (by omega) hbB hW pa pn pc hp1 hp2 hp3)
      clear hcell hx hW
      go_wp2_with fail
      refine HE.out.mono ?_
      rintro e w1 ⟨r', rfl, hb1, p1, p2, p3⟩
      by_cases hr' : r' < 0
      · go_wp2_with fail
        go_ret
        exact ⟨-1, rfl, hbel.trans (hb1.mono hbel.size), by omega, by omega, fun h => by omega⟩
      · have p4 := p3 (by omega)
        have hws := wsum_take wtPt l (show k < l.length by omega)
        rw [HX.out] at hws
        clear p3
        go_wp2_with fail
        go_roundw
        case rel => exact ⟨k + 1, r', by omega, by go_num, rfl, by omega, by rw [hws]; push_cast; omega, hbel.trans (hb1.mono hbel.size)⟩
        case measure => simp [intOf]; omega
    · have : k = n := by omega
      subst this
      go_wp2_with fail
      go_ret
      rw [List.take_of_length_le (by omega)] at hr1
      exact ⟨r, rfl, hbel, by omega, by omega, fun _ => by push_cast; omega⟩

set_option maxHeartbeats 800000 in
set_option maxRecDepth 100000 in
theorem szVarS_any (B : Nat) (a : Option Addr) (n cap : Nat) (l : List Vr) (left : Int) (w : World) (h0 : 0 ≤ left) (h1 : left ≤ 1048576) (hn : n ≤ maxLen) (hB : B ≤ w.heap.size) (hs : ∀ x ∈ l, WideVr x) (hz : IsArr 2 QVr B w a n l) :
    Calls Tryz.prog 28 #[.slice a n cap, .int .i64 left] w fun e w' => SzP (n + wsum wtVr l) left w e w' := by
  have hlen := hz.1
  have HZ := hidOf hz
  have HS := hidOf hs
  clear hz hs
  unfold maxLen at hn
  have hw : IntKind.i64.wrap (left - n) = left - n := by rw [IntKind.wrap_i64]; omega
  by_cases h : left < n
  · go_enter Tryz.func28, Tryz.ntmps28
    go_wp2_with fail
    go_ret
    exact ⟨-1, rfl, Below.refl _ _, by omega, by omega, fun h => by omega⟩
  go_enter Tryz.func28, Tryz.ntmps28
  go_wp2_with fail
  go_loopw [1, 5] (fun v i wr => ∃ (k : Nat) (r : Int), k ≤ n ∧ i = .int .i64 k ∧ v = .int .i64 r ∧ 0 ≤ r ∧ r + (wsum wtVr (l.take k) : Nat) + n = left ∧ Below w.heap.size w wr) (fun _ i _ => n - (intOf i).toNat)
  case atStart => exact ⟨0, left - n, Nat.zero_le _, rfl, rfl, by omega, by simp [wsum], Below.refl _ _⟩
  case round =>
    obtain ⟨k, r, hk, rfl, rfl, hr0, hr1, hbel⟩ := hrel
    by_cases hlt : k < n
    · obtain ⟨b, off, cs, rfl, hb, hq, hcell⟩ := IsArr.at (HZ.out.below (QVr.lift (hbel.mono hB)) (hbel.mono hB)) hlt (show k < l.length by omega)
      have hbr : b < wr.heap.size := by have := hbel.size; omega
      have hbB : B ≤ wr.heap.size := by have := hbel.size; omega
      have hW := HS.out (l[k]'(by omega)) (List.getElem_mem _)
      obtain ⟨x, hx⟩ : ∃ x, l[k]'(by omega) = x := ⟨_, rfl⟩
      have HX := hidOf hx
      rw [hx] at hq hW
      unfold QVr at hq
      subst hq
      have c0 : wr.cell? ⟨b, off + k * 2, none⟩ = some (.string x.name) := hcell 0 _ rfl
      have c1 : wr.cell? ⟨b, off + k * 2 + 1, none⟩ = some (.int .i64 x.num) := hcell 1 _ rfl
      have HE := hidOf (szVar_any B wr r x hr0 (by omega) hbB hW)
      clear hcell hx hW
      go_wp2_with fail
      refine HE.out.mono ?_
      rintro e w1 ⟨r', rfl, hb1, p1, p2, p3⟩
      by_cases hr' : r' < 0
      · go_wp2_with fail
        go_ret
        exact ⟨-1, rfl, hbel.trans (hb1.mono hbel.size), by omega, by omega, fun h => by omega⟩
      · have p4 := p3 (by omega)
        have hws := wsum_take wtVr l (show k < l.length by omega)
        rw [HX.out] at hws
        clear p3
        go_wp2_with fail
        go_roundw
        case rel => exact ⟨k + 1, r', by omega, by go_num, rfl, by omega, by rw [hws]; push_cast; omega, hbel.trans (hb1.mono hbel.size)⟩
        case measure => simp [intOf]; omega
    · have : k = n := by omega
      subst this
      go_wp2_with fail
      go_ret
      rw [List.take_of_length_le (by omega)] at hr1
      exact ⟨r, rfl, hbel, by omega, by omega, fun _ => by push_cast; omega⟩

set_option maxHeartbeats 800000 in
set_option maxRecDepth 100000 in
theorem szMoveS_any (B : Nat) (a : Option Addr) (n cap : Nat) (l : List Mo) (left : Int) (w : World) (h0 : 0 ≤ left) (h1 : left ≤ 1048576) (hn : n ≤ maxLen) (hB : B ≤ w.heap.size) (hs : ∀ x ∈ l, WideMo x) (hz : IsArr 3 QMo B w a n l) :
    Calls Tryz.prog 108 #[.slice a n cap, .int .i64 left] w fun e w' => SzP (n + wsum wtMo l) left w e w' := by
  have hlen := hz.1
  have HZ := hidOf hz
  have HS := hidOf hs
  clear hz hs
  unfold maxLen at hn
  have hw : IntKind.i64.wrap (left - n) = left - n := by rw [IntKind.wrap_i64]; omega
  by_cases h : left < n
  · go_enter Tryz.func108, Tryz.ntmps108
    go_wp2_with fail
    go_ret
    exact ⟨-1, rfl, Below.refl _ _, by omega, by omega, fun h => by omega⟩
  go_enter Tryz.func108, Tryz.ntmps108
  go_wp2_with fail
  go_loopw [1, 5] (fun v i wr => ∃ (k : Nat) (r : Int), k ≤ n ∧ i = .int .i64 k ∧ v = .int .i64 r ∧ 0 ≤ r ∧ r + (wsum wtMo (l.take k) : Nat) + n = left ∧ Below w.heap.size w wr) (fun _ i _ => n - (intOf i).toNat)
  case atStart => exact ⟨0, left - n, Nat.zero_le _, rfl, rfl, by omega, by simp [wsum], Below.refl _ _⟩
  case round =>
    obtain ⟨k, r, hk, rfl, rfl, hr0, hr1, hbel⟩ := hrel
    by_cases hlt : k < n
    · obtain ⟨b, off, cs, rfl, hb, hq, hcell⟩ := IsArr.at (HZ.out.below (QMo.lift (hbel.mono hB)) (hbel.mono hB)) hlt (show k < l.length by omega)
      have hbr : b < wr.heap.size := by have := hbel.size; omega
      have hbB : B ≤ wr.heap.size := by have := hbel.size; omega
      have hW := HS.out (l[k]'(by omega)) (List.getElem_mem _)
      obtain ⟨x, hx⟩ : ∃ x, l[k]'(by omega) = x := ⟨_, rfl⟩
      have HX := hidOf hx
      rw [hx] at hq hW
      unfold QMo at hq
      subst hq
      have c0 : wr.cell? ⟨b, off + k * 3, none⟩ = some (.string x.event) := hcell 0 _ rfl
      have c1 : wr.cell? ⟨b, off + k * 3 + 1, none⟩ = some (.string x.cond) := hcell 1 _ rfl
      have c2 : wr.cell? ⟨b, off + k * 3 + 1 + 1, none⟩ = some (.string x.to) := hcell 2 _ rfl
      have HE := hidOf (szMove_any B wr r x hr0 (by omega) hbB hW)
      clear hcell hx hW
      go_wp2_with fail
      refine HE.out.mono ?_
      rintro e w1 ⟨r', rfl, hb1, p1, p2, p3⟩
      by_cases hr' : r' < 0
      · go_wp2_with fail
        go_ret
        exact ⟨-1, rfl, hbel.trans (hb1.mono hbel.size), by omega, by omega, fun h => by omega⟩
      · have p4 := p3 (by omega)
        have hws := wsum_take wtMo l (show k < l.length by omega)
        rw [HX.out] at hws
        clear p3
        go_wp2_with fail
        go_roundw
        case rel => exact ⟨k + 1, r', by omega, by go_num, rfl, by omega, by rw [hws]; push_cast; omega, hbel.trans (hb1.mono hbel.size)⟩
        case measure => simp [intOf]; omega
    · have : k = n := by omega
      subst this
      go_wp2_with fail
      go_ret
      rw [List.take_of_length_le (by omega)] at hr1
      exact ⟨r, rfl, hbel, by omega, by omega, fun _ => by push_cast; omega⟩

set_option maxHeartbeats 800000 in
set_option maxRecDepth 100000 in
theorem szActS_any (B : Nat) (a : Option Addr) (n cap : Nat) (l : List Ac) (left : Int) (w : World) (h0 : 0 ≤ left) (h1 : left ≤ 1048576) (hn : n ≤ maxLen) (hB : B ≤ w.heap.size) (hs : ∀ x ∈ l, WideAc x) (hz : IsArr 3 QAc B w a n l) :
    Calls Tryz.prog 109 #[.slice a n cap, .int .i64 left] w fun e w' => SzP (n + wsum wtAc l) left w e w' := by
  have hlen := hz.1
  have HZ := hidOf hz
  have HS := hidOf hs
  clear hz hs
  unfold maxLen at hn
  have hw : IntKind.i64.wrap (left - n) = left - n := by rw [IntKind.wrap_i64]; omega
  by_cases h : left < n
  · go_enter Tryz.func109, Tryz.ntmps109
    go_wp2_with fail
    go_ret
    exact ⟨-1, rfl, Below.refl _ _, by omega, by omega, fun h => by omega⟩
  go_enter Tryz.func109, Tryz.ntmps109
  go_wp2_with fail
  go_loopw [1, 5] (fun v i wr => ∃ (k : Nat) (r : Int), k ≤ n ∧ i = .int .i64 k ∧ v = .int .i64 r ∧ 0 ≤ r ∧ r + (wsum wtAc (l.take k) : Nat) + n = left ∧ Below w.heap.size w wr) (fun _ i _ => n - (intOf i).toNat)
  case atStart => exact ⟨0, left - n, Nat.zero_le _, rfl, rfl, by omega, by simp [wsum], Below.refl _ _⟩
  case round =>
    obtain ⟨k, r, hk, rfl, rfl, hr0, hr1, hbel⟩ := hrel
    by_cases hlt : k < n
    · obtain ⟨b, off, cs, rfl, hb, hq, hcell⟩ := IsArr.at (HZ.out.below (QAc.lift (hbel.mono hB)) (hbel.mono hB)) hlt (show k < l.length by omega)
      have hbr : b < wr.heap.size := by have := hbel.size; omega
      have hbB : B ≤ wr.heap.size := by have := hbel.size; omega
      have hW := HS.out (l[k]'(by omega)) (List.getElem_mem _)
      obtain ⟨x, hx⟩ : ∃ x, l[k]'(by omega) = x := ⟨_, rfl⟩
      have HX := hidOf hx
      rw [hx] at hq hW
      unfold QAc at hq
      subst hq
      have c0 : wr.cell? ⟨b, off + k * 3, none⟩ = some (.int .i64 x.kind) := hcell 0 _ rfl
      have c1 : wr.cell? ⟨b, off + k * 3 + 1, none⟩ = some (.string x.name) := hcell 1 _ rfl
      have c2 : wr.cell? ⟨b, off + k * 3 + 1 + 1, none⟩ = some (.string x.sum) := hcell 2 _ rfl
      have HE := hidOf (szAct_any B wr r x hr0 (by omega) hbB hW)
      clear hcell hx hW
      go_wp2_with fail
      refine HE.out.mono ?_
      rintro e w1 ⟨r', rfl, hb1, p1, p2, p3⟩
      by_cases hr' : r' < 0
      · go_wp2_with fail
        go_ret
        exact ⟨-1, rfl, hbel.trans (hb1.mono hbel.size), by omega, by omega, fun h => by omega⟩
      · have p4 := p3 (by omega)
        have hws := wsum_take wtAc l (show k < l.length by omega)
        rw [HX.out] at hws
        clear p3
        go_wp2_with fail
        go_roundw
        case rel => exact ⟨k + 1, r', by omega, by go_num, rfl, by omega, by rw [hws]; push_cast; omega, hbel.trans (hb1.mono hbel.size)⟩
        case measure => simp [intOf]; omega
    · have : k = n := by omega
      subst this
      go_wp2_with fail
      go_ret
      rw [List.take_of_length_le (by omega)] at hr1
      exact ⟨r, rfl, hbel, by omega, by omega, fun _ => by push_cast; omega⟩

set_option maxHeartbeats 800000 in
set_option maxRecDepth 100000 in
theorem szState_any (B : Nat) (w : World) (left : Int) (x : St) (h0 : 0 ≤ left) (h1 : left ≤ 1048576) (hB : B ≤ w.heap.size) (hW : WideSt x) (a : Option Addr) (n c : Nat) (a' : Option Addr) (n' c' : Nat) (hn : n ≤ c) (hc : c ≤ maxLen) (hn' : n' ≤ c') (hc' : c' ≤ maxLen) (hm : IsArr 3 QMo B w a n x.moves) (ha : IsArr 3 QAc B w a' n' x.acts) :
    Calls Tryz.prog 63 #[.agg #[.string x.name, .slice a n c, .slice a' n' c'], .int .i64 left] w fun e w' => SzP (wtSt x) left w e w' := by
  obtain ⟨xn, xm, xa⟩ := x
  obtain ⟨hW1, hW2, hW3⟩ := hW
  simp only at hW1 hW2 hW3 hm ha ⊢
  have HM := hidOf hm
  have HA := hidOf ha
  have hml := hm.1
  have hal := ha.1
  have HW2 := hidOf hW2
  have HW3 := hidOf hW3
  have HB0 : Hid (Below w.heap.size w (w.alloc (.cells #[.string xn, .slice a n c, .slice a' n' c'] 113))) := (Below.refl _ _).alloc (Nat.le_refl _) _
  unfold maxLen at hc hc' hW1
  have hw := wrap_sub (n := xn.size) h0 h1 (by omega)
  clear hm ha hW2 hW3
  by_cases h : left < xn.size
  · go_enter Tryz.func63, Tryz.ntmps63
    go_wp2_with fail
    go_ret
    exact ⟨-1, rfl, HB0.out, by omega, by omega, fun h => by omega⟩
  have HSM : Hid (∀ W, Below w.heap.size w W → Calls Tryz.prog 108 #[.slice a n c, .int .i64 (left - xn.size)] W fun e w' => SzP (n + wsum wtMo xm) (left - xn.size) W e w') := fun W hb => szMoveS_any B a n c xm (left - xn.size) W (by omega) (by omega) (by unfold maxLen; omega) (by have := hb.size; omega) HW2.out (HM.out.below (QMo.lift (hb.mono hB)) (hb.mono hB))
  have HSA : Hid (∀ W r, Below w.heap.size w W → 0 ≤ r → r ≤ 1048576 → Calls Tryz.prog 109 #[.slice a' n' c', .int .i64 r] W fun e w' => SzP (n' + wsum wtAc xa) r W e w') := fun W r hb hr0 hr1 => szActS_any B a' n' c' xa r W hr0 hr1 (by unfold maxLen; omega) (by have := hb.size; omega) HW3.out (HA.out.below (QAc.lift (hb.mono hB)) (hb.mono hB))
  have c2 : (w.alloc (.cells #[.string xn, .slice a n c, .slice a' n' c'] 113)).cell? ⟨w.heap.size, 1 + 1, none⟩ = some (.slice a' n' c') := by simp [go_sem]
  go_enter Tryz.func63, Tryz.ntmps63
  go_wp2_with fail
  refine (HSM.out _ HB0.out).mono ?_
  rintro e w1 ⟨q, rfl, hb1, hq1, hq2, hq3⟩
  have HB1 : Hid (Below w.heap.size w w1) := HB0.out.trans (hb1.mono HB0.out.size)
  have d2 := (hb1.cell (p := ⟨w.heap.size, 1 + 1, none⟩) (by simp)).trans c2
  have hs1 : w.heap.size < w1.heap.size := by have := hb1.size; simp at this; omega
  clear c2 HSM
  by_cases hq : q < 0
  · go_wp2_with fail
    go_ret
    exact ⟨-1, rfl, HB1.out, by omega, by omega, fun h => by omega⟩
  have hQ1 := hq3 (by omega)
  clear hq3 hb1
  go_wp2_with fail
  refine (HSA.out _ q HB1.out (by omega) (by omega)).mono ?_
  rintro e w2 ⟨q2, rfl, hb2, hq4, hq5, hq6⟩
  have HB2 : Hid (Below w.heap.size w w2) := HB1.out.trans (hb2.mono HB1.out.size)
  by_cases hq' : q2 < 0
  · go_wp2_with fail
    go_ret
    exact ⟨-1, rfl, HB2.out, by omega, by omega, fun h => by omega⟩
  have hQ2 := hq6 (by omega)
  clear hq6 hb2
  go_wp2_with fail
  go_ret
  exact ⟨q2, rfl, HB2.out, by omega, by omega, fun h => by unfold wtSt; simp only; rw [hml, hal]; push_cast at hQ1 hQ2 ⊢; omega⟩

set_option maxHeartbeats 800000 in
set_option maxRecDepth 100000 in
theorem szStateS_any (B : Nat) (a : Option Addr) (n cap : Nat) (l : List St) (left : Int) (w : World) (h0 : 0 ≤ left) (h1 : left ≤ 1048576) (hn : n ≤ maxLen) (hB : B ≤ w.heap.size) (hs : ∀ x ∈ l, WideSt x) (hz : IsArr 3 QSt B w a n l) :
    Calls Tryz.prog 29 #[.slice a n cap, .int .i64 left] w fun e w' => SzP (n + wsum wtSt l) left w e w' := by
  have hlen := hz.1
  have HZ := hidOf hz
  have HS := hidOf hs
  clear hz hs
  unfold maxLen at hn
  have hw : IntKind.i64.wrap (left - n) = left - n := by rw [IntKind.wrap_i64]; omega
  by_cases h : left < n
  · go_enter Tryz.func29, Tryz.ntmps29
    go_wp2_with fail
    go_ret
    exact ⟨-1, rfl, Below.refl _ _, by omega, by omega, fun h => by omega⟩
  go_enter Tryz.func29, Tryz.ntmps29
  go_wp2_with fail
  go_loopw [1, 5] (fun v i wr => ∃ (k : Nat) (r : Int), k ≤ n ∧ i = .int .i64 k ∧ v = .int .i64 r ∧ 0 ≤ r ∧ r + (wsum wtSt (l.take k) : Nat) + n = left ∧ Below w.heap.size w wr) (fun _ i _ => n - (intOf i).toNat)
  case atStart => exact ⟨0, left - n, Nat.zero_le _, rfl, rfl, by omega, by simp [wsum], Below.refl _ _⟩
  case round =>
    obtain ⟨k, r, hk, rfl, rfl, hr0, hr1, hbel⟩ := hrel
    by_cases hlt : k < n
    · obtain ⟨b, off, cs, rfl, hb, hq, hcell⟩ := IsArr.at (HZ.out.below (QSt.lift (hbel.mono hB)) (hbel.mono hB)) hlt (show k < l.length by omega)
      have hbr : b < wr.heap.size := by have := hbel.size; omega
      have hbB : B ≤ wr.heap.size := by have := hbel.size; omega
      have hW := HS.out (l[k]'(by omega)) (List.getElem_mem _)
      obtain ⟨x, hx⟩ : ∃ x, l[k]'(by omega) = x := ⟨_, rfl⟩
      have HX := hidOf hx
      rw [hx] at hq hW
      obtain ⟨pa, pn, pc, pa', pn', pc', rfl, hp1, hp2, hp3, hp4, hp5, hp6⟩ := hq
      have HP5 := hidOf hp5
      have HP6 := hidOf hp6
      have c0 : wr.cell? ⟨b, off + k * 3, none⟩ = some (.string x.name) := hcell 0 _ rfl
      have c1 : wr.cell? ⟨b, off + k * 3 + 1, none⟩ = some (.slice pa pn pc) := hcell 1 _ rfl
      have c2 : wr.cell? ⟨b, off + k * 3 + 1 + 1, none⟩ = some (.slice pa' pn' pc') := hcell 2 _ rfl
      have HE := hidOf (szState_any B wr r x hr0 (by omega) hbB hW pa pn pc pa' pn' pc' hp1 hp2 hp3 hp4 hp5 hp6)
      clear hcell hx hW
      go_wp2_with fail
      refine HE.out.mono ?_
      rintro e w1 ⟨r', rfl, hb1, p1, p2, p3⟩
      by_cases hr' : r' < 0
      · go_wp2_with fail
        go_ret
        exact ⟨-1, rfl, hbel.trans (hb1.mono hbel.size), by omega, by omega, fun h => by omega⟩
      · have p4 := p3 (by omega)
        have hws := wsum_take wtSt l (show k < l.length by omega)
        rw [HX.out] at hws
        clear p3
        go_wp2_with fail
        go_roundw
        case rel => exact ⟨k + 1, r', by omega, by go_num, rfl, by omega, by rw [hws]; push_cast; omega, hbel.trans (hb1.mono hbel.size)⟩
        case measure => simp [intOf]; omega
    · have : k = n := by omega
      subst this
      go_wp2_with fail
      go_ret
      rw [List.take_of_length_le (by omega)] at hr1
      exact ⟨r, rfl, hbel, by omega, by omega, fun _ => by push_cast; omega⟩

end Go.Proofs.YtchemhjcknkbgaaGreatDoor
