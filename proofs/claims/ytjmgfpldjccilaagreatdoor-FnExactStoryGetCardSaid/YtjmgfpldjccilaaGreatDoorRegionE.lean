/- regionD, and of what waits for operation i nothing is done. -/
import Derived.Test.YtjmgfpldjccilaaGreatDoorRegionD
namespace Go.Proofs.YtjmgfpldjccilaaGreatDoor
open Go Go.RowKit
set_option linter.unusedSimpArgs false
set_option linter.unusedVariables false

structure MidE (N D : Nat) (dst : Nat → Nat) (PD : Nat → Value → World → Prop) (ID : Array Bool → World → Prop) (a0 : Act) (listed : Array Bool) (a : Act) (w : World) : Prop where
  tz : a.tmps.size = D
  df : a.defers = a0.defers
  keep : ∀ d, (∀ j, j < N - 1 → dst j ≠ d) → a.tmps.getD d undef = a0.tmps.getD d undef
  inv : ID listed w
  val : ∀ j, j < N → listed.getD j false = true → PD j (a.tmps.getD (dst j) undef) w
structure JE (ops : Array Oper) (N D : Nat) (dst : Nat → Nat) (PD : Nat → Value → World → Prop) (ID : Array Bool → World → Prop) (Fin : Act → World → Prop) (a0 : Act) (listed : Array Bool) (a : Act) (w : World) : Prop where
  size : listed.size = N
  closed : ∀ i j, i < N → j < N → listed.getD i false = true → depD ops i j = true → listed.getD j false = true
  body : (listed.getD (N - 1) false = false ∧ MidE N D dst PD ID a0 listed a w) ∨ ((∀ j, j < N → listed.getD j false = true) ∧ Fin a w)
set_option maxHeartbeats 800000 in
theorem regionE {id : Nat} {ops : Array Oper} (N D : Nat) (dst : Nat → Nat) (PD : Nat → Value → World → Prop) (Rel : Nat → World → World → Prop) (ID : Array Bool → World → Prop) (Fin : Act → World → Prop) (Q : Exit → Act → World → Prop) (a0 : Act) (w0 : World)
    (hmd : Tryz.prog.follows .mixedOrders = true) (hN : ops.size = N) (hN0 : 0 < N)
    (happ : ∀ i j, i < N → j < N → i ≠ j → dst i ≠ dst j) (hlt : ∀ i, i + 1 < N → dst i < D)
    (hback : ∀ (j : Nat) (o : Oper), ops[j]? = some o → ∀ e ∈ o.after, Region.binds .any e = true → e.on < j)
    (hdown : ∀ j, j + 1 < N → ∃ k, j < k ∧ k < N ∧ depD ops k j = true)
    (hP : ∀ i j v w w', i ≠ j → PD j v w → Rel i w w' → PD j v w')
    (hz : a0.tmps.size = D) (h0 : ID (Array.replicate N false) w0.drew)
    (hstep : ∀ i, i + 1 < N → ∀ listed a w, listed.size = N → listed.getD i false = false → a.tmps.size = D → (∀ d, (∀ j, j < N - 1 → dst j ≠ d) → a.tmps.getD d undef = a0.tmps.getD d undef) → ID listed w → (∀ j, j < N → depD ops i j = true → PD j (a.tmps.getD (dst j) undef) w) → (∀ j, j < N → depD ops j i = true → listed.getD j false = false) →
      ∀ K : Act → World → Prop, (∀ v w', ID (listed.setIfInBounds i true) w' → Rel i w w' → PD i v w' → K (a.put (some (dst i)) v) w') → wpOp Tryz.prog ops Q i K a w)
    (hlast : ∀ listed a w, (∀ j, j + 1 < N → listed.getD j false = true) → a.tmps.size = D → a.defers = a0.defers → (∀ d, (∀ j, j < N - 1 → dst j ≠ d) → a.tmps.getD d undef = a0.tmps.getD d undef) → ID listed w → (∀ j, j + 1 < N → PD j (a.tmps.getD (dst j) undef) w) → wpOp Tryz.prog ops Q (N - 1) Fin a w)
    (hQ : ∀ a w, Fin a w → Q .normal a w) : (Code.region id ops true).wp Tryz.prog Q a0 w0 := by
  refine wp_region_any hmd ?_
  rw [hN]
  refine wpAny_inv (ops := ops) (JE ops N D dst PD ID Fin a0) (fun _ _ _ h => h.size.trans hN.symm) ?_ ?_ _ _ _ _ ?_ ⟨by simp, fun i j hi hj h => ?_, .inl ⟨?_, ⟨hz, rfl, fun _ _ => rfl, h0, fun j hj h => ?_⟩⟩⟩
  · intro listed a w i h hi
    obtain ⟨hi1, hi2, hi3⟩ := ready_mem hi
    rw [hN] at hi1
    have hi2' : listed.getD i false = false := by
      have : i < listed.size := by rw [h.size]; exact hi1
      simp [Array.getD, this] at hi2 ⊢
      exact hi2
    have hdep : ∀ j, depD ops i j = true → listed.getD j false = true := fun j hj => dep_ofG hi3 hj
    have hset := set_getD h.size hi1
    have hclosed : ∀ i' j, i' < N → j < N → (listed.setIfInBounds i true).getD i' false = true → depD ops i' j = true → (listed.setIfInBounds i true).getD j false = true := by
      intro i' j h1 h2 h3 h4
      rw [hset] at h3 ⊢
      split
      · rfl
      · by_cases e : i = i'
        · subst e; exact hdep j h4
        · rw [if_neg e] at h3; exact h.closed i' j h1 h2 h3 h4
    rcases h.body with ⟨hl, hm⟩ | ⟨hall, _⟩
    · by_cases hin : i + 1 < N
      · refine hstep i hin listed a w h.size hi2' hm.tz hm.keep hm.inv (fun j hj hd => hm.val j hj (hdep j hd)) (fun j hj hd => by
          cases hl2 : listed.getD j false with
          | false => rfl
          | true =>
            have := h.closed j i hj hi1 hl2 hd
            rw [hi2'] at this
            cases this) _ fun v w' hI hb hp => ⟨by simpa using h.size, hclosed, .inl ⟨?_, ⟨by rw [put_sizeG]; exact hm.tz, hm.df, ?_, hI, ?_⟩⟩⟩
        · rw [hset, if_neg (by omega)]; exact hl
        · intro d hd
          rw [put_otherG (hd i (by omega))]
          exact hm.keep d hd
        · intro j hj hlj
          rw [hset] at hlj
          by_cases e : i = j
          · subst e
            rw [put_selfG (by rw [hm.tz]; exact hlt i hin)]; exact hp
          · rw [if_neg e] at hlj
            rw [put_otherG (happ i j hi1 hj e)]
            exact hP i j _ _ _ e (hm.val j hj hlj) hb
      · have hiN : i = N - 1 := by omega
        subst hiN
        have hall : ∀ d j, j + 1 < N → N - 1 - j ≤ d → listed.getD j false = true := by
          intro d
          induction d with
          | zero => intro j h1 h2; omega
          | succ d ih =>
            intro j h1 h2
            obtain ⟨k, hk1, hk2, hk3⟩ := hdown j h1
            by_cases e : k = N - 1
            · subst e; exact hdep j hk3
            · exact h.closed k j hk2 (by omega) (ih k (by omega) (by omega)) hk3
        refine wpOp_mono (fun a' w' hf => ?_) (hlast listed a w (fun j hj => hall N j hj (by omega)) hm.tz hm.df hm.keep hm.inv (fun j hj => hm.val j (by omega) (hall N j hj (by omega))))
        refine ⟨by simpa using h.size, hclosed, .inr ⟨fun j hj => ?_, hf⟩⟩
        rw [hset]
        split
        · rfl
        · exact hall N j (by omega) (by omega)
    · have := hall i hi1
      rw [hi2'] at this
      cases this
  · intro listed a w h hr
    have hall := all_listedG (ops := ops) (h.size.trans hN.symm) hback hr
    rcases h.body with ⟨hl, _⟩ | ⟨_, hf⟩
    · have := hall (N - 1) (by omega)
      rw [hl] at this
      cases this
    · exact hQ a w hf
  · refine Nat.le_trans (List.length_filter_le _ _) ?_
    simp
  · simp [Array.getD_eq_getD_getElem?, Array.getElem?_replicate] at h
    split at h <;> simp at h
  · simp [Array.getD_eq_getD_getElem?, Array.getElem?_replicate]
    split <;> rfl
  · simp [Array.getD_eq_getD_getElem?, Array.getElem?_replicate] at h
    split at h <;> simp at h
theorem below_grown {w w' : World} (h : Below w.heap.size w w') (row : Option Nat) : w.grownBy w' row := ⟨h.os, h.tape, h.output, h.size, fun i hi _ => h.block i hi⟩
end Go.Proofs.YtjmgfpldjccilaaGreatDoor
