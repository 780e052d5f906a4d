/- Lists of things of several cells in memory. -/
import Derived.Test.YtjmgfpldjccilaaGreatDoorProg
import Derived.Test.YtjmgfpldjccilaaGreatDoorCommon
import Derived.Deep.Slices
import Derived.WideShapes
import Derived.ChangeAt
namespace Go.Proofs.YtjmgfpldjccilaaGreatDoor
open Go Go.ChangeShapes Go.WideShapes Go.ChangeAt Go.RowKit Go.Deep Go.PlainAid
set_option linter.unusedSimpArgs false
set_option linter.unusedVariables false

/-- a slice of things of sz cells each, whose cells mean them -/
def IsArr {α : Type} (sz : Nat) (Q : Nat → World → List Value → α → Prop) (B : Nat) (w : World) (a : Option Addr) (n : Nat) (l : List α) : Prop :=
  l.length = n ∧ (n = 0 ∨ ∃ b off, a = some ⟨b, off, none⟩ ∧ b < B ∧ ∀ i, (h : i < l.length) → ∃ cs, Q B w cs l[i] ∧ ∀ j u, cs[j]? = some u → j < sz ∧ w.cell? ⟨b, off + i * sz + j, none⟩ = some u)
theorem IsArr.below {α : Type} {sz : Nat} {Q : Nat → World → List Value → α → Prop} {B : Nat} {w w' : World} {a : Option Addr} {n : Nat} {l : List α} (h : IsArr sz Q B w a n l) (hQ : ∀ cs x, Q B w cs x → Q B w' cs x) (hb : Below B w w') : IsArr sz Q B w' a n l := by
  obtain ⟨h1, h2⟩ := h
  refine ⟨h1, ?_⟩
  rcases h2 with h2 | ⟨b, off, rfl, hlt, hc⟩
  · exact .inl h2
  · refine .inr ⟨b, off, rfl, hlt, fun i hi => ?_⟩
    obtain ⟨cs, q, hcell⟩ := hc i hi
    exact ⟨cs, hQ cs _ q, fun j u hu => ⟨(hcell j u hu).1, (hb.cell (p := ⟨b, off + i * sz + j, none⟩) hlt).trans (hcell j u hu).2⟩⟩
theorem IsArr.mono {α : Type} {sz : Nat} {Q : Nat → World → List Value → α → Prop} {B B' : Nat} {w : World} {a : Option Addr} {n : Nat} {l : List α} (h : IsArr sz Q B w a n l) (hQ : ∀ cs x, Q B w cs x → Q B' w cs x) (hb : B ≤ B') : IsArr sz Q B' w a n l := by
  obtain ⟨h1, h2⟩ := h
  refine ⟨h1, ?_⟩
  rcases h2 with h2 | ⟨b, off, rfl, hlt, hc⟩
  · exact .inl h2
  · refine .inr ⟨b, off, rfl, Nat.lt_of_lt_of_le hlt hb, fun i hi => ?_⟩
    obtain ⟨cs, q, hcell⟩ := hc i hi
    exact ⟨cs, hQ cs _ q, hcell⟩
/-- one of them -/
theorem IsArr.at {α : Type} {sz : Nat} {Q : Nat → World → List Value → α → Prop} {B : Nat} {w : World} {a : Option Addr} {n : Nat} {l : List α} (h : IsArr sz Q B w a n l) {k : Nat} (hk : k < n) (hl : k < l.length) : ∃ b off cs, a = some ⟨b, off, none⟩ ∧ b < B ∧ Q B w cs l[k] ∧ ∀ j u, cs[j]? = some u → w.cell? ⟨b, off + k * sz + j, none⟩ = some u := by
  rcases h.2 with h2 | ⟨b, off, rfl, hlt, hc⟩
  · omega
  · obtain ⟨cs, q, hcell⟩ := hc k hl
    exact ⟨b, off, cs, rfl, hlt, q, fun j u hu => (hcell j u hu).2⟩

/-- a slice that came in -/
theorem open_arr {α : Type} [Inhabited α] {H : Type} {enc : TypeId × Value → H} {W : World} {base : Nat} {spare : Nat → Bool} {held : Bool} {fuel : Nat} {tS tE : TypeId} {sz : Nat} {a0 : Option Addr} {len0 cap0 : Nat} {x : DataW H × List MemPlace} {Q : Nat → World → List Value → α → Prop} {F : α → Prop}
    (hu : Tryz.prog.underlying tS = some (.slice tE)) (hc : Tryz.prog.cellsOf tE = sz) (hz : 0 < sz)
    (each : ∀ fuel cs y, cs.length = sz → DataW.trod enc Tryz.prog W base spare held fuel tE cs = some y → ∃ q, Q W.heap.size W cs q ∧ F q)
    (h : DataW.trod enc Tryz.prog W base spare held fuel tS (Value.slice a0 len0 cap0).cells.toList = some x) :
    ∃ l, (len0 ≤ cap0 ∧ cap0 ≤ maxLen) ∧ IsArr sz Q W.heap.size W a0 len0 l ∧ ∀ y ∈ l, F y := by
  rcases open_slice hu h with ⟨hcs, _⟩ | ⟨a, len, cap, m, nn, D, Pl, hcs, hb, hl, hm, hmm, _, hel⟩
  · simp [Value.cells] at hcs
    obtain ⟨rfl, rfl, rfl⟩ := hcs
    exact ⟨[], ⟨Nat.le_refl _, by unfold maxLen; omega⟩, ⟨rfl, .inl rfl⟩, fun _ h => by simp at h⟩
  · simp [Value.cells] at hcs
    obtain ⟨rfl, rfl, rfl⟩ := hcs
    rw [hc] at hel
    have ea : ∀ i, i < len0 → ∃ q : α, (∃ cs, Q W.heap.size W cs q ∧ cs.length = sz ∧ ∀ j, j < sz → W.cell? (a.add (i * sz + j)) = cs[j]?) ∧ F q := by
      intro i hi
      have him : i < m := by rw [hmm]; split <;> omega
      obtain ⟨cs', h1, h2⟩ := hel i him
      obtain ⟨_, hlen, hcell⟩ := World.cells?_some h1
      obtain ⟨q, hq, hf⟩ := each _ _ _ hlen h2
      refine ⟨q, ⟨cs', hq, hlen, fun j hj => ?_⟩, hf⟩
      have := hcell j (by omega)
      rw [add_add] at this
      rw [this]
    obtain ⟨q, hq⟩ := choose_lt ea
    refine ⟨(List.range len0).map q, ⟨hl, hm⟩, ⟨by simp, ?_⟩, ?_⟩
    · by_cases hz0 : len0 = 0
      · exact .inl hz0
      obtain ⟨b, off, spot⟩ := a
      obtain ⟨cs0, _, hl0, hc0⟩ := (hq 0 (by omega)).1
      have h00 := hc0 0 hz
      rw [List.getElem?_eq_getElem (by omega)] at h00
      have hspot : spot = none := by simpa [Addr.add] using World.cell?_spot h00
      subst hspot
      rw [add_plain] at h00
      refine .inr ⟨b, off, rfl, World.block_lt_of_cell? _ _ h00, fun i hi => ?_⟩
      simp at hi
      obtain ⟨cs, h1, h2, h3⟩ := (hq i hi).1
      refine ⟨cs, by simpa using h1, fun j u hu => ?_⟩
      have hj : j < sz := by rw [← h2]; exact (List.getElem?_eq_some_iff.1 hu).1
      have := h3 j hj
      rw [add_plain, hu] at this
      exact ⟨hj, by rw [Nat.add_assoc]; exact this⟩
    · intro y hy
      obtain ⟨i, hi, rfl⟩ := List.mem_map.1 hy
      exact (hq i (List.mem_range.1 hi)).2
end Go.Proofs.YtjmgfpldjccilaaGreatDoor
