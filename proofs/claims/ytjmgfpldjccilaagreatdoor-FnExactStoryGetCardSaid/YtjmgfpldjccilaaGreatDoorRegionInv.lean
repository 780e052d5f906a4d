/- A region whose operations may come up in more than one order, by one invariant: it says what holds when these operations have come up and the others have not. -/
import Derived.WalkKit
import Derived.Orders
namespace Go.Proofs.YtjmgfpldjccilaaGreatDoor
open Go

/-- how many operations have not come up yet -/
def leftOf (listed : Array Bool) : Nat := (listed.toList.filter (fun b => !b)).length

theorem left_set (l : List Bool) : ∀ i, l[i]? = some false → ((l.set i true).filter (fun b => !b)).length + 1 = (l.filter (fun b => !b)).length := by
  induction l with
  | nil => intro i h; simp at h
  | cons x r ih =>
    intro i h
    cases i with
    | zero => simp at h; subst h; simp
    | succ i =>
      have := ih i (by simpa using h)
      cases x <;> simp [List.set] <;> omega
theorem leftOf_set {listed : Array Bool} {i : Nat} (hi : i < listed.size) (h : listed[i] = false) : leftOf (listed.setIfInBounds i true) + 1 = leftOf listed := by
  unfold leftOf
  rw [Array.toList_setIfInBounds]
  exact left_set _ i (by simp [hi, h])
theorem ready_mem {md : Region.Mode} {ops : Array Oper} {listed : Array Bool} {i : Nat} (h : i ∈ Region.ready md ops listed) : i < ops.size ∧ listed.getD i true = false ∧ ∀ o, ops[i]? = some o → ∀ e ∈ o.after, Region.binds md e = true → listed.getD e.on false = true := by
  unfold Region.ready at h
  rw [List.mem_filter] at h
  obtain ⟨h1, h2⟩ := h
  simp only [Bool.and_eq_true] at h2
  refine ⟨by simpa using h1, by simpa using h2.1, fun o ho e he hb => ?_⟩
  have h3 := h2.2
  rw [ho] at h3
  simp only [Option.map_some, Option.getD_some, Array.all_eq_true'] at h3
  have := h3 e he
  rw [hb] at this
  simpa using this

theorem wpAny_inv {P : Program} {md : Region.Mode} {ops : Array Oper} {Q : Exit → Act → World → Prop} (Inv : Array Bool → Act → World → Prop) (hsize : ∀ listed a w, Inv listed a w → listed.size = ops.size)
    (hstep : ∀ listed a w i, Inv listed a w → i ∈ Region.ready md ops listed → wpOp P ops Q i (Inv (listed.setIfInBounds i true)) a w)
    (hend : ∀ listed a w, Inv listed a w → Region.ready md ops listed = [] → Q .normal a w) :
    ∀ (fuel : Nat) (listed : Array Bool) (a : Act) (w : World), leftOf listed ≤ fuel → Inv listed a w → wpAny P md ops Q fuel listed a w := by
  intro fuel
  induction fuel with
  | zero =>
    intro listed a w hl hI
    have hr : Region.ready md ops listed = [] := by
      cases e : Region.ready md ops listed with
      | nil => rfl
      | cons i r =>
        have hm : i ∈ Region.ready md ops listed := by rw [e]; simp
        obtain ⟨h1, h2, _⟩ := ready_mem hm
        have hi : i < listed.size := by rw [hsize _ _ _ hI]; exact h1
        have h3 : listed[i] = false := by simpa [Array.getD, hi] using h2
        have := leftOf_set hi h3
        omega
    exact ⟨hr, hend _ _ _ hI hr⟩
  | succ fuel ih =>
    intro listed a w hl hI
    refine ⟨hend _ _ _ hI, fun i hi => ?_⟩
    obtain ⟨h1, h2, _⟩ := ready_mem hi
    have hlt : i < listed.size := by rw [hsize _ _ _ hI]; exact h1
    have h3 : listed[i] = false := by simpa [Array.getD, hlt] using h2
    have h4 := leftOf_set hlt h3
    exact wpOp_mono (fun a' w' hI' => ih _ a' w' (by omega) hI') (hstep _ _ _ i hI hi)
end Go.Proofs.YtjmgfpldjccilaaGreatDoor
