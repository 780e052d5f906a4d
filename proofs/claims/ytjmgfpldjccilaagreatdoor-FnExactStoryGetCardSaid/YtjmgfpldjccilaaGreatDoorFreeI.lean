/- Answers that own their memory (IntS), and the law's marks in them. -/
import Derived.Test.YtjmgfpldjccilaaGreatDoorMarkInt
import Derived.Test.YtjmgfpldjccilaaGreatDoorIntMem
namespace Go.Proofs.YtjmgfpldjccilaaGreatDoor
open Go Go.RowKit Go.PlainAid
set_option linter.unusedSimpArgs false
set_option linter.unusedVariables false

/-- the slice (a, n) reads as l, and its cells, in a block from B on, may be written -/
def FreeI (B : Nat) (w : World) (a : Option Addr) (n : Nat) (l : List Int) : Prop := IsInts w.heap.size w a n l ∧ (n = 0 ∨ ∃ b, a = some ⟨b, 0, none⟩ ∧ B ≤ b ∧ Open b n w)
/-- the slice (a, n) bears the marks from k on -/
def HeldI (k : Int) (w : World) (a : Option Addr) (n : Nat) : Prop := n = 0 ∨ ∃ b, a = some ⟨b, 0, none⟩ ∧ b < w.heap.size ∧ ∀ i : Nat, i < n → w.cell? ⟨b, i, none⟩ = some (.int .i64 (k + i))
theorem FreeI.below {B : Nat} {w w' : World} {a : Option Addr} {n : Nat} {l : List Int} (h : FreeI B w a n l) (hb : Below w.heap.size w w') : FreeI B w' a n l := by
  obtain ⟨h1, h2⟩ := h
  refine ⟨(h1.below hb).mono hb.size, ?_⟩
  rcases h2 with h2 | ⟨b, e, hB, ho⟩
  · exact .inl h2
  · exact .inr ⟨b, e, hB, ho.below hb⟩
theorem FreeI.low {B B' : Nat} {w : World} {a : Option Addr} {n : Nat} {l : List Int} (h : FreeI B w a n l) (hB : B' ≤ B) : FreeI B' w a n l := by
  obtain ⟨h1, h2⟩ := h
  refine ⟨h1, ?_⟩
  rcases h2 with h2 | ⟨b, e, hb, ho⟩
  · exact .inl h2
  · exact .inr ⟨b, e, by omega, ho⟩
theorem FreeI.mvR {B L H : Nat} {w w' : World} {a : Option Addr} {n : Nat} {l : List Int} (h : FreeI B w a n l) (hm : MvR L H w w') (hH : H ≤ B) : FreeI B w' a n l := by
  obtain ⟨h1, h2⟩ := h
  rcases h2 with h2 | ⟨b, e, hB, ho⟩
  · exact ⟨⟨h1.1, .inl h2⟩, .inl h2⟩
  · refine ⟨⟨h1.1, ?_⟩, .inr ⟨b, e, hB, ho.mvR hm (by omega)⟩⟩
    rcases h1.2 with h0 | ⟨b', off, e', hlt, hc⟩
    · exact .inl h0
    · rw [e] at e'
      cases e'
      exact .inr ⟨b, 0, e, Nat.lt_of_lt_of_le hlt hm.size, fun i hi => (World.cell?_of_block (hm.block b hlt (by omega))).trans (hc i hi)⟩
theorem HeldI.below {k : Int} {w w' : World} {a : Option Addr} {n : Nat} (h : HeldI k w a n) (hb : Below w.heap.size w w') : HeldI k w' a n := by
  rcases h with h | ⟨b, e, hlt, hc⟩
  · exact .inl h
  · exact .inr ⟨b, e, Nat.lt_of_lt_of_le hlt hb.size, fun i hi => (hb.cell (p := ⟨b, i, none⟩) hlt).trans (hc i hi)⟩
theorem own_freeI {B : Nat} {w : World} {v : Value} {l : List Int} (h : w.ownsRow B 3 1 v l.length (l.map (Value.int .i64))) : ∃ a c, v = .slice a l.length c ∧ l.length ≤ c ∧ FreeI B w a l.length l := by
  have h0 := h
  obtain ⟨h1, h2⟩ := h
  rcases h2 with ⟨hv, hn⟩ | ⟨g, cap, cur, hv, h3, h4, h5, h6⟩
  · exact ⟨none, 0, by rw [hv, hn], by omega, ⟨rfl, .inl hn⟩, .inl hn⟩
  · subst hv
    have hlt := World.ownsRow.lt h0 g rfl
    have hc : ∀ i, i < l.length → w.cell? ⟨g, i, none⟩ = some (.int .i64 (l.getD i 0)) := fun i hi => by
      rw [World.ownsRow.cellAt h0 i (by omega)]
      simp [hi, List.getD_eq_getElem?_getD]
    exact ⟨_, cap, rfl, h5, ⟨rfl, .inr ⟨g, 0, rfl, hlt.2, fun i hi => by rw [Nat.zero_add]; exact hc i hi⟩⟩, .inr ⟨g, rfl, hlt.1, hlt.2, fun j hj => ⟨⟨_, hc j hj⟩, World.ownsRow.frozenAt h0 j⟩⟩⟩

theorem markIntS_zero (a : Option Addr) (c : Nat) (k : Int) (w : World) : Calls Tryz.prog 43 #[.slice a 0 c, .int .i64 k] w fun e w' => e = .returned (.int .i64 k) ∧ w' = w := by
  go_enter Tryz.func43, Tryz.ntmps43
  go_wp2_with fail
  go_loopw [1, 5] (fun q i wr => i = .int .i64 0 ∧ q = .int .i64 k ∧ wr = w) (fun _ _ _ => 0)
  case atStart => exact ⟨rfl, rfl, rfl⟩
  case round =>
    obtain ⟨rfl, rfl, rfl⟩ := hrel
    go_wp2_with fail
    go_ret
    exact ⟨rfl, rfl⟩
theorem markIntS_free (B : Nat) (a : Option Addr) (n c : Nat) (l : List Int) (k : Int) (w : World) (hB : B ≤ w.heap.size) (h : FreeI B w a n l) (hl : n ≤ 100000000) (hk0 : 0 < k) (hk1 : k ≤ 10000000000) :
    Calls Tryz.prog 43 #[.slice a n c, .int .i64 k] w fun e w' => e = .returned (.int .i64 (k + n)) ∧ HeldI k w' a n ∧ Below B w w' := by
  rcases h.2 with h0 | ⟨b, rfl, hb, ho⟩
  · subst h0
    exact (markIntS_zero a c k w).mono fun e w' ⟨h1, h2⟩ => ⟨by rw [h1]; simp, .inl rfl, by rw [h2]; exact Below.refl _ _⟩
  · exact (markIntS_kp b n c k w ho hl hk0 hk1).mono fun e w' ⟨h1, h2, _, h3⟩ => ⟨h1, .inr ⟨b, rfl, Nat.lt_of_lt_of_le ho.1 h2.size, h3⟩, (h2.range (L := b) (H := b + 1) (Nat.le_refl _) (Nat.lt_succ_self _)).belowL hb hB⟩
theorem markIntS_rng (B H : Nat) (a : Option Addr) (n c : Nat) (l : List Int) (k : Int) (w : World) (h : FreeI B w a n l) (hu : ∀ b o, a = some ⟨b, o, none⟩ → n ≠ 0 → b < H) (hl : n ≤ 100000000) (hk0 : 0 < k) (hk1 : k ≤ 10000000000) :
    Calls Tryz.prog 43 #[.slice a n c, .int .i64 k] w fun e w' => e = .returned (.int .i64 (k + n)) ∧ HeldI k w' a n ∧ MvR B H w w' := by
  by_cases h0 : n = 0
  · subst h0
    exact (markIntS_zero a c k w).mono fun e w' ⟨h1, h2⟩ => ⟨by rw [h1]; simp, .inl rfl, by rw [h2]; exact MvR.refl _ _ _⟩
  · rcases h.2 with h2 | ⟨b, rfl, hb, ho⟩
    · exact absurd h2 h0
    · exact (markIntS_kp b n c k w ho hl hk0 hk1).mono fun e w' ⟨h1, h2, _, h3⟩ => ⟨h1, .inr ⟨b, rfl, Nat.lt_of_lt_of_le ho.1 h2.size, h3⟩, h2.range hb (hu b 0 rfl h0)⟩
theorem FreeI.upto {B : Nat} {w : World} {a : Option Addr} {n : Nat} {l : List Int} (h : FreeI B w a n l) : ∀ b o, a = some ⟨b, o, none⟩ → n ≠ 0 → b < w.heap.size := fun b o e h0 => by
  rcases h.2 with h2 | ⟨b', e', _, ho⟩
  · exact absurd h2 h0
  · rw [e] at e'
    cases e'
    exact ho.1
theorem heldIntS_free (a : Option Addr) (n c : Nat) (k : Int) (w : World) (h : HeldI k w a n) (hl : n ≤ 100000000) (hk0 : 0 < k) (hk1 : k ≤ 10000000000) :
    Calls Tryz.prog 44 #[.slice a n c, .int .i64 k] w fun e w' => e = .returned (.int .i64 (k + n)) ∧ Below w.heap.size w w' := by
  rcases h with h0 | ⟨b, rfl, hb, hc⟩
  · exact heldIntS_any 0 n c k w (.inl h0) a (.inl h0) hl hk0 hk1
  · exact heldIntS_any b n c k w (.inr ⟨hb, hc⟩) _ (.inr rfl) hl hk0 hk1
end Go.Proofs.YtjmgfpldjccilaaGreatDoor
