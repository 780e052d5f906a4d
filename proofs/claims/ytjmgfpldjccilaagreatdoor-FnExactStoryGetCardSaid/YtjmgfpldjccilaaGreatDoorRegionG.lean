/- A region whose operations may come up in more than one order, some of them guarded: one invariant says what each leaves. -/
import Derived.Test.YtjmgfpldjccilaaGreatDoorProg
import Derived.Test.YtjmgfpldjccilaaGreatDoorRegionInv
import Derived.WalkKit
import Derived.ProofKit
namespace Go.Proofs.YtjmgfpldjccilaaGreatDoor
open Go
set_option linter.unusedSimpArgs false
set_option linter.unusedVariables false

theorem put_selfG {a : Act} {d : Nat} {v : Value} (h : d < a.tmps.size) : (a.put (some d) v).tmps.getD d undef = v := by
  simp [Act.put, Array.getD_eq_getD_getElem?, h]
theorem put_otherG {a : Act} {d e : Nat} {v : Value} (h : d ≠ e) : (a.put (some d) v).tmps.getD e undef = a.tmps.getD e undef := by
  simp only [Act.put, Array.getD_eq_getD_getElem?, Array.getElem?_setIfInBounds]
  rw [if_neg h]
theorem put_sizeG {a : Act} {d : Nat} {v : Value} : (a.put (some d) v).tmps.size = a.tmps.size := by simp [Act.put]
theorem all_listedG {md : Region.Mode} {ops : Array Oper} {listed : Array Bool} (hsz : listed.size = ops.size) (hlt : ∀ (j : Nat) (o : Oper), ops[j]? = some o → ∀ e ∈ o.after, Region.binds md e = true → e.on < j) (hr : Region.ready md ops listed = []) :
    ∀ j, j < ops.size → listed.getD j false = true := by
  intro j
  induction j using Nat.strongRecOn with
  | ind j ih =>
    intro hj
    cases hl : listed.getD j false with
    | true => rfl
    | false =>
      exfalso
      have hm : j ∈ Region.ready md ops listed := by
        unfold Region.ready
        rw [List.mem_filter]
        refine ⟨by simpa using hj, ?_⟩
        have hjl : j < listed.size := by omega
        have e1 : listed.getD j true = false := by
          simp [Array.getD, hjl] at hl ⊢; exact hl
        have e2 : ops[j]? = some ops[j] := by simp [hj]
        rw [e1, e2]
        simp only [Bool.not_false, Bool.true_and, Option.map_some, Option.getD_some, Array.all_eq_true']
        intro e he
        cases hb : Region.binds md e with
        | false => simp
        | true =>
          have h1 := hlt j _ e2 e he hb
          rw [ih e.on h1 (by omega)]
          simp
      rw [hr] at hm
      cases hm
theorem dep_ofG {ops : Array Oper} {listed : Array Bool} {i j : Nat} (h3 : ∀ o, ops[i]? = some o → ∀ e ∈ o.after, Region.binds .any e = true → listed.getD e.on false = true)
    (hc : ((ops[i]?).map fun o => o.after.any fun e => (e.on == j) && Region.binds .any e).getD false = true) : listed.getD j false = true := by
  cases ho : ops[i]? with
  | none => rw [ho] at hc; cases hc
  | some o =>
    rw [ho] at hc
    simp only [Option.map_some, Option.getD_some, Array.any_eq_true'] at hc
    obtain ⟨e, he, hb⟩ := hc
    simp only [Bool.and_eq_true, beq_iff_eq] at hb
    rw [← hb.1]
    exact h3 o ho e he hb.2
theorem back_ofG {ops : Array Oper} (N : Nat) (hN : ops.size = N) (key : ∀ j : Fin N, ((ops[j.val]?).map (fun o => o.after.all (fun e => !(Region.binds .any e) || decide (e.on < j.val)))).getD false = true) :
    ∀ (j : Nat) (o : Oper), ops[j]? = some o → ∀ e ∈ o.after, Region.binds .any e = true → e.on < j := by
  intro j o h e he hb
  have hj : j < N := by
    rcases Nat.lt_or_ge j N with h1 | h1
    · exact h1
    · rw [Array.getElem?_eq_none (by omega)] at h; cases h
  have := key ⟨j, hj⟩
  simp only [h, Option.map_some, Option.getD_some, Array.all_eq_true'] at this
  have := this e he
  rw [hb] at this
  simpa using this
/-- a guard that is met -/
theorem yields {ops : Array Oper} {a : Act} {j d : Nat} (hd : (ops[j]?).bind (·.dst) = some d) (hv : a.tmps.getD d undef = .bool true) : yielded ops a.tmps j = some true := by
  unfold yielded
  rw [hd]
  have hlt : d < a.tmps.size := by
    rcases Nat.lt_or_ge d a.tmps.size with h | h
    · exact h
    · rw [Array.getD_eq_getD_getElem?, Array.getElem?_eq_none h] at hv
      cases hv
  have e : a.tmps[d]? = some (.bool true) := by
    rw [Array.getD_eq_getD_getElem?] at hv
    rw [Array.getElem?_eq_getElem hlt] at hv ⊢
    simpa using hv
  simp [e]
theorem valG {ops : Array Oper} {Q : Exit → Act → World → Prop} {n : Nat} {K : Act → World → Prop} {a : Act} {w w' : World} {v : Value} (hn : n < ops.size) {d : Option Tmp} (hd : (ops[n]'hn).dst = d) (hg : (ops[n]'hn).guard = none ∨ ∃ j, (ops[n]'hn).guard = some (j, true) ∧ yielded ops a.tmps j = some true)
    (hrun : (execOp a.eval (ops[n]'hn)).run Tryz.prog w = .ok (.value v) w') (hK : K (a.put d v) w') : wpOp Tryz.prog ops Q n K a w := by
  unfold wpOp
  rw [Array.getElem?_eq_getElem hn]
  have hw : Region.wanted (ops[n]'hn) (yielded ops a.tmps) = true := by
    rcases hg with hg | ⟨j, hg, hy⟩
    · simp [Region.wanted, hg]
    · simp [Region.wanted, hg, hy]
  simp only [hw, if_true]
  left
  unfold Oper.wp
  subst hd
  rw [hrun]
  exact hK
theorem callG {ops : Array Oper} {Q : Exit → Act → World → Prop} {n : Nat} {K : Act → World → Prop} {a : Act} {w : World} {f : Nat} {args : Array Value} (hn : n < ops.size) {d : Option Tmp} (hd : (ops[n]'hn).dst = d) (hg : (ops[n]'hn).guard = none ∨ ∃ j, (ops[n]'hn).guard = some (j, true) ∧ yielded ops a.tmps j = some true)
    (hrun : (execOp a.eval (ops[n]'hn)).run Tryz.prog w = .ok (.enter f args) w) (hK : Calls Tryz.prog f args w fun e w' => ∃ v, e = .returned v ∧ K (a.put d v) w') : wpOp Tryz.prog ops Q n K a w := by
  unfold wpOp
  rw [Array.getElem?_eq_getElem hn]
  have hw : Region.wanted (ops[n]'hn) (yielded ops a.tmps) = true := by
    rcases hg with hg | ⟨j, hg, hy⟩
    · simp [Region.wanted, hg]
    · simp [Region.wanted, hg, hy]
  simp only [hw, if_true]
  left
  unfold Oper.wp
  rw [hrun]
  refine Calls.mono hK fun e w' he => ?_
  obtain ⟨v, rfl, hk⟩ := he
  subst hd
  exact hk
end Go.Proofs.YtjmgfpldjccilaaGreatDoor
