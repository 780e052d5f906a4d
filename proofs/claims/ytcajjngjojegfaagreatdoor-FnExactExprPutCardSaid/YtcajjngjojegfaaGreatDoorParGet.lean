/- The model's l1Get: all of a text. -/
import Derived.Test.YtcajjngjojegfaaGreatDoorParSum
namespace Go.Proofs.YtcajjngjojegfaaGreatDoor
open Go.RowKit Go.PlainAid
set_option linter.unusedSimpArgs false
set_option linter.unusedVariables false

def par0 : Par := ⟨0, 0, false, []⟩
def parEnd (s : ByteArray) : Par := sumF s (7 * s.size + 7) 1 par0
/-- the nodes of all of a text -/
def getM (s : ByteArray) : Option (List Nd) :=
  if 60 < s.size then none else if (parEnd s).bad = true ∨ skipTo s (parEnd s).at_ < s.size then none else some (parEnd s).out

/-- the nodes in memory -/
def OwnNd (B : Nat) (w : World) (v : Value) (l : List Nd) : Prop := w.ownsRow B 38 3 v l.length (ndCells l)

theorem getM_len {s : ByteArray} {l : List Nd} (h : getM s = some l) : l.length ≤ 24 := by
  unfold getM at h
  split at h
  · cases h
  · split at h
    · cases h
    · cases h
      exact (adv_sum s _ 1 par0).len (by decide)

theorem ownsRow_mono {w : World} {base base' size n : Nat} {e : TypeId} {v : Value} {xs : List Value} (h : w.ownsRow base e size v n xs) (hb : base' ≤ base) : w.ownsRow base' e size v n xs := by
  obtain ⟨h1, h2⟩ := h
  refine ⟨h1, ?_⟩
  rcases h2 with h2 | ⟨g, cap, cur, hv, h3, h4⟩
  · exact .inl h2
  · exact .inr ⟨g, cap, cur, hv, by omega, h4⟩

set_option maxHeartbeats 800000 in
set_option maxRecDepth 100000 in
theorem l1Get_any (s : ByteArray) (w : World) (hs : s.size ≤ 1048576) : Calls Tryz.prog 52 #[.string s] w fun e w' => ∃ v b, e = .returned (.tuple #[v, .bool b]) ∧
    (getM s = none → b = false ∧ v = .slice none 0 0) ∧ (∀ l, getM s = some l → b = true ∧ OwnNd w.heap.size w' v l) ∧ Below w.heap.size w w' := by
  by_cases h60 : 60 < s.size
  · have HN : Hid (getM s = none) := by
      show getM s = none
      unfold getM; rw [if_pos h60]
    go_enter Tryz.func52, Tryz.ntmps52
    go_wp2_with fail
    go_ret2
    exact ⟨_, _, rfl, fun _ => ⟨rfl, rfl⟩, (fun l hl => by rw [HN.out] at hl; cases hl), Below.refl _ _⟩
  · have HPA : Hid (∀ W : World, ParAt W.heap.size (W.alloc (.cells #[.string s, .int .i64 0, .int .i64 0, .bool false, .slice none 0 0] 114)) s par0 (.slice none 0 0)) := fun W =>
      ⟨by simp, by simp [par0], by simp [par0], by simp [par0], by simp, fun j => by simp, World.ownsRow_nil _ _ _ _⟩
    have HA := adv_sum s (7 * s.size + 7) 1 par0
    obtain ⟨st, hst⟩ : ∃ st, sumF s (7 * s.size + 7) 1 par0 = st := ⟨_, rfl⟩
    have HST : Hid (sumF s (7 * s.size + 7) 1 par0 = st) := hst
    have HE : Hid (parEnd s = st) := hst
    rw [hst] at HA
    have ha := HA.hi (Nat.zero_le _)
    clear HA hst
    have HS : Hid (SumOk s (7 * s.size + 7)) := sum_any s hs _
    go_enter Tryz.func52, Tryz.ntmps52
    go_wp2_with fail
    refine (HS.out 1 w.heap.size par0 (.slice none 0 0) _ (by decide) (by decide) (by simp [par0]; omega) (Nat.zero_le _) (Nat.le_refl _) (by decide) (by exact HPA.out w)).mono ?_
    rw [HST.out]
    rintro e w1 ⟨rfl, v1, hp1, ht1⟩
    have HP1 : Hid (ParAt w.heap.size w1 s st v1) := hp1
    have HB1 : Hid (Below w.heap.size w w1) := by
      have h1 := ht1.below (HPA.out w)
      exact ((Below.refl _ w).alloc (Nat.le_refl _) _).trans h1
    clear hp1 ht1
    go_wp2_with fail
    refine (skip_any _ s st v1 _ (by unfold maxLen; omega) ha HP1.out).mono ?_
    rintro e w2 ⟨rfl, hp2, ht2⟩
    have HB2 : Hid (Below w.heap.size w w2) := HB1.out.trans (ht2.below HP1.out)
    obtain ⟨k, hk⟩ : ∃ k, skipTo s st.at_ = k := ⟨_, rfl⟩
    rw [hk] at hp2
    have HK : Hid (skipTo s (parEnd s).at_ = k) := by
      show skipTo s (parEnd s).at_ = k
      rw [HE.out]; exact hk
    have HP2 : Hid (ParAt w.heap.size w2 s { st with at_ := k } v1) := hp2
    obtain ⟨c0, c1, c2, c3, c4, ho, hown⟩ := hp2
    simp only at c1 c2 c3 c4 hown
    have HO : Hid (w2.ownsRow (w.heap.size + 1) 38 3 v1 st.out.length (ndCells st.out)) := hown
    clear ht2 hk c2 hown
    cases hbad : st.bad
    · rw [hbad] at c3
      by_cases hlt : k < s.size
      · have HN : Hid (getM s = none) := by
          show getM s = none
          unfold getM; rw [if_neg h60, HK.out, if_pos (.inr hlt)]
        clear hbad
        go_wp2_with fail
        go_ret2
        exact ⟨_, _, rfl, fun _ => ⟨rfl, rfl⟩, (fun l hl => by rw [HN.out] at hl; cases hl), HB2.out⟩
      · have HN : Hid (getM s = some st.out) := by
          show getM s = _
          unfold getM; rw [if_neg h60, HK.out, HE.out, if_neg (by rw [hbad]; simp; omega)]
        clear hbad
        go_wp2_with fail
        go_ret2
        refine ⟨_, _, rfl, (fun h => by rw [HN.out] at h; cases h), (fun l hl => ?_), HB2.out⟩
        rw [HN.out] at hl; cases hl
        exact ⟨rfl, by unfold OwnNd; exact ownsRow_mono HO.out (by omega)⟩
    · rw [hbad] at c3
      have HN : Hid (getM s = none) := by
        show getM s = none
        unfold getM; rw [if_neg h60, if_pos (.inl (by rw [HE.out]; exact hbad))]
      clear hbad
      go_wp2_with fail
      go_ret2
      exact ⟨_, _, rfl, fun _ => ⟨rfl, rfl⟩, (fun l hl => by rw [HN.out] at hl; cases hl), HB2.out⟩
end Go.Proofs.YtcajjngjojegfaaGreatDoor
