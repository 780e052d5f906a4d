/- All of a story's events marked, and the marks held. -/
import Derived.Test.YtjmgfpldjccilaaGreatDoorHeldEvS
namespace Go.Proofs.YtjmgfpldjccilaaGreatDoor
open Go Go.RowKit Go.PlainAid
set_option linter.unusedSimpArgs false
set_option linter.unusedVariables false

theorem markEventS_zero (a : Option Addr) (c : Nat) (k : Int) (w : World) : Calls Tryz.prog 21 #[.slice a 0 c, .int .i64 k] w fun e w' => e = .returned (.int .i64 k) ∧ w' = w := by
  go_enter Tryz.func21, Tryz.ntmps21
  go_wp2_with fail
  go_loopw [1, 5] (fun q i wr => i = .int .i64 0 ∧ q = .int .i64 k ∧ wr = w) (fun _ _ _ => 0)
  case atStart => exact ⟨rfl, rfl, rfl⟩
  case round =>
    obtain ⟨rfl, rfl, rfl⟩ := hrel
    go_wp2_with fail
    go_ret
    exact ⟨rfl, rfl⟩
theorem heldEventS_zero (a : Option Addr) (c : Nat) (k : Int) (w : World) : Calls Tryz.prog 22 #[.slice a 0 c, .int .i64 k] w fun e w' => e = .returned (.int .i64 k) ∧ w' = w := by
  go_enter Tryz.func22, Tryz.ntmps22
  go_wp2_with fail
  go_loopw [1, 5] (fun q i wr => i = .int .i64 0 ∧ q = .int .i64 k ∧ wr = w) (fun _ _ _ => 0)
  case atStart => exact ⟨rfl, rfl, rfl⟩
  case round =>
    obtain ⟨rfl, rfl, rfl⟩ := hrel
    go_wp2_with fail
    go_ret
    exact ⟨rfl, rfl⟩
def saOf (cs : List (List Value)) (j : Nat) : Option Addr := match ((cs.getD j [])[3]? : Option Value) with | some (Value.slice a _ _) => a | _ => none
def scOf (cs : List (List Value)) (j : Nat) : Nat := match ((cs.getD j [])[3]? : Option Value) with | some (Value.slice _ _ c) => c | _ => 0
theorem MkEv.below {g : Nat} {l : List Ev} {sa : Nat → Option Addr} {sc : Nat → Nat} {f : Nat → Nat × Nat} {k0 : Int} {w w' : World} (h : MkEv g l sa sc f k0 l.length w) (hb : Below w.heap.size w w') : MkEv g l sa sc f k0 l.length w' :=
  ⟨h.row.below hb, fun j hj => (hb.cell (p := ⟨g, _, none⟩) h.row.1).trans (h.slot j hj), fun j hj hji => by
    obtain ⟨d0, d1, d2, d3⟩ := h.done j hj hji
    exact ⟨(hb.cell (p := ⟨g, _, none⟩) h.row.1).trans d0, (hb.cell (p := ⟨g, _, none⟩) h.row.1).trans d1, (hb.cell (p := ⟨g, _, none⟩) h.row.1).trans d2, d3.below hb⟩, fun j hj hji => absurd hji (by omega)⟩
theorem marks_start {M B g c : Nat} {w : World} {l : List Ev} {cs : List (List Value)} {f : Nat → Nat × Nat} (k0 : Int) (h : OwnEvO M B w (.slice (some ⟨g, 0, none⟩) l.length c) l cs f) :
    MkEv g l (saOf cs) (scOf cs) f k0 0 w ∧ EvLoc g M B l (saOf cs) f := by
  have hlt := World.ownsRow.lt h.row g rfl
  have hall : ∀ c ∈ cs, c.length = 4 := fun c hc => by
    obtain ⟨i', hi', e⟩ := List.getElem_of_mem hc
    have := (h.each i' (by rw [← h.len]; exact hi')).1
    rw [List.getD_eq_getElem?_getD, List.getElem?_eq_getElem hi', Option.getD_some, e] at this
    exact this
  have part : ∀ j, (hj : j < l.length) → (cs.getD j [])[3]? = some (.slice (saOf cs j) (l[j]).2.2.2.length (scOf cs j)) ∧ FreeR (f j).1 (f j).2 w (saOf cs j) (l[j]).2.2.2 := fun j hj => by
    obtain ⟨_, _, _, ⟨a, k, e, _, _, h5⟩, _⟩ := h.each j hj
    have e3 : (cs.getD j [])[3]? = some (.slice a (l[j]).2.2.2.length k) := by rw [e]; rfl
    have ea : saOf cs j = a := by unfold saOf; rw [e3]
    have ec : scOf cs j = k := by unfold scOf; rw [e3]
    rw [ea, ec]
    exact ⟨e3, h5⟩
  refine ⟨⟨⟨hlt.2, fun j hj => ⟨?_, World.ownsRow.frozenAt h.row j⟩⟩, fun j hj => ?_, fun j _ hj => absurd hj (Nat.not_lt_zero _), fun j hj _ => (part j hj).2⟩, ⟨fun j hj b o e hn => ?_, fun j hj => (h.each j hj).2.2.2.2 g rfl, fun j hj => ⟨(h.each j hj).2.1, (h.each j hj).2.2.1⟩, hlt.1, h.ord⟩⟩
  · have hc := World.ownsRow.cellAt h.row j hj
    have hfl : j < cs.flatten.length := by rw [h.row.1]; exact hj
    rw [List.getElem?_eq_getElem hfl] at hc
    exact ⟨_, hc⟩
  · have hc := World.ownsRow.cellAt h.row (j * 4 + 3) (by omega)
    rw [flat_at cs j 3 hall (by rw [h.len]; exact hj) (by decide), (part j hj).1] at hc
    exact hc
  · rcases (part j hj).2 with h0 | ⟨b', e', h1, h2, _⟩
    · exact absurd h0 hn
    · rw [e] at e'
      cases e'
      exact ⟨h1, h2⟩
/-- marked, and held from then on -/
theorem mark_all {M B c : Nat} {a : Option Addr} {w : World} {l : List Ev} {cs : List (List Value)} {f : Nat → Nat × Nat} (h : OwnEvO M B w (.slice a l.length c) l cs f) (hM : M ≤ w.heap.size) (h80 : l.length ≤ 80) (h3 : ∀ x ∈ l, x.2.2.2.length ≤ 3) :
    Calls Tryz.prog 21 #[.slice a l.length c, .int .i64 1] w fun e w' => e = .returned (.int .i64 (1 + markN l)) ∧ Below M w w' ∧ ∀ W, Below w'.heap.size w' W → Calls Tryz.prog 22 #[.slice a l.length c, .int .i64 1] W fun e W' => e = .returned (.int .i64 (1 + markN l)) ∧ Below W.heap.size W W' := by
  rcases h.row.2 with ⟨h1, h2⟩ | ⟨g, cap, cur, h1, _⟩
  · have hl : l = [] := List.length_eq_zero_iff.1 h2
    subst hl
    exact (markEventS_zero a c 1 w).mono fun e w' ⟨e1, e2⟩ => ⟨by rw [e1]; rfl, by rw [e2]; exact Below.refl _ _, fun W _ => (heldEventS_zero a c 1 W).mono fun e W' ⟨e1, e2⟩ => ⟨by rw [e1]; rfl, by rw [e2]; exact Below.refl _ _⟩⟩
  · have ha : a = some ⟨g, 0, none⟩ := by injection h1
    subst ha
    obtain ⟨hm, hL⟩ := marks_start 1 h
    refine (markEventS_any g M B l.length c l (saOf cs) (scOf cs) f 1 w rfl h80 h3 (by decide) (by decide) hL h.bound hM hm).mono fun e w' ⟨e1, e2, e3⟩ => ⟨e1, e3, fun W hb => ?_⟩
    exact heldEventS_any g l.length c l (saOf cs) (scOf cs) f 1 W rfl h80 h3 (by decide) (by decide) (e2.below hb)
end Go.Proofs.YtjmgfpldjccilaaGreatDoor
