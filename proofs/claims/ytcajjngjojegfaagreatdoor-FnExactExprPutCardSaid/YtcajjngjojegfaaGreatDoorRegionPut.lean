/- What an activation holds when some operations of a region have come up, each with its value, in whatever order. -/
import Derived.Test.YtcajjngjojegfaaGreatDoorRegionInv
namespace Go.Proofs.YtcajjngjojegfaaGreatDoor
open Go

def dstOf (ops : Array Oper) (j : Nat) : Option Tmp := (ops[j]?).bind (·.dst)
/-- the first n operations: those that have come up have put their values -/
def putL (ops : Array Oper) (val : Nat → Value) (listed : Array Bool) (a0 : Act) : Nat → Act
  | 0 => a0
  | n + 1 => if listed.getD n false = true then (putL ops val listed a0 n).put (dstOf ops n) (val n) else putL ops val listed a0 n

def apartDst (ops : Array Oper) : Prop := ∀ i j d, i ≠ j → dstOf ops i = some d → dstOf ops j ≠ some d

theorem putL_before {ops : Array Oper} {val : Nat → Value} {listed : Array Bool} {a0 : Act} {i : Nat} : ∀ n, n ≤ i → putL ops val (listed.setIfInBounds i true) a0 n = putL ops val listed a0 n
  | 0, _ => rfl
  | n + 1, h => by
    have e : (listed.setIfInBounds i true).getD n false = listed.getD n false := by
      simp only [Array.getD_eq_getD_getElem?, Array.getElem?_setIfInBounds]
      rw [if_neg (by omega)]
    rw [putL, putL, e, putL_before n (by omega)]
theorem putL_set {ops : Array Oper} {val : Nat → Value} {listed : Array Bool} {a0 : Act} (hap : apartDst ops) {i : Nat} (hi : i < listed.size) (hl : listed[i] = false) :
    ∀ n, i < n → putL ops val (listed.setIfInBounds i true) a0 n = (putL ops val listed a0 n).put (dstOf ops i) (val i)
  | 0, h => by omega
  | n + 1, h => by
    by_cases e : n = i
    · subst e
      have e1 : (listed.setIfInBounds n true).getD n false = true := by simp [Array.getD, hi]
      have e2 : listed.getD n false = false := by simp [Array.getD, hi, hl]
      rw [putL, putL, if_pos e1, if_neg (by rw [e2]; decide), putL_before n (Nat.le_refl _)]
    · have e1 : (listed.setIfInBounds i true).getD n false = listed.getD n false := by
        simp only [Array.getD_eq_getD_getElem?, Array.getElem?_setIfInBounds]
        rw [if_neg (by omega)]
      rw [putL, putL, e1, putL_set hap hi hl n (by omega)]
      split
      · exact (Act.put_comm _ _ _ (fun d hd => hap i n d (fun h => e h.symm) hd))
      · rfl
theorem putL_size {ops : Array Oper} {val : Nat → Value} {listed : Array Bool} {a0 : Act} : ∀ n, (putL ops val listed a0 n).tmps.size = a0.tmps.size
  | 0 => rfl
  | n + 1 => by
    rw [putL]
    split
    · unfold Act.put
      split
      · simp [putL_size n]
      · exact putL_size n
    · exact putL_size n
theorem putL_other {ops : Array Oper} {val : Nat → Value} {listed : Array Bool} {a0 : Act} {d : Nat} : ∀ n, (∀ j, j < n → dstOf ops j ≠ some d) → (putL ops val listed a0 n).tmps.getD d undef = a0.tmps.getD d undef
  | 0, _ => rfl
  | n + 1, h => by
    rw [putL]
    have ih := putL_other (ops := ops) (val := val) (listed := listed) (a0 := a0) (d := d) n (fun j hj => h j (by omega))
    split
    · unfold Act.put
      split
      · rename_i d' hd'
        have hne : d' ≠ d := fun e => h n (by omega) (by rw [hd', e])
        rw [← ih]
        simp only [Array.getD_eq_getD_getElem?, Array.getElem?_setIfInBounds]
        rw [if_neg hne]
      · exact ih
    · exact ih
theorem putL_get {ops : Array Oper} {val : Nat → Value} {listed : Array Bool} {a0 : Act} (hap : apartDst ops) {j d : Nat} (hd : dstOf ops j = some d) (hdz : d < a0.tmps.size) (hl : listed.getD j false = true) :
    ∀ n, j < n → (putL ops val listed a0 n).tmps.getD d undef = val j
  | 0, h => by omega
  | n + 1, h => by
    rw [putL]
    by_cases e : n = j
    · subst e
      rw [if_pos hl, hd]
      have hz := putL_size (ops := ops) (val := val) (listed := listed) (a0 := a0) n
      simp [Act.put, Array.getD_eq_getD_getElem?, hz, hdz]
    · have ih := putL_get (val := val) hap hd hdz hl n (by omega)
      split
      · unfold Act.put
        split
        · rename_i d' hd'
          have hne : d' ≠ d := fun e' => hap j n d (fun h => e h.symm) hd (by rw [hd', e'])
          rw [← ih]
          simp only [Array.getD_eq_getD_getElem?, Array.getElem?_setIfInBounds]
          rw [if_neg hne]
        · exact ih
      · exact ih
end Go.Proofs.YtcajjngjojegfaaGreatDoor
