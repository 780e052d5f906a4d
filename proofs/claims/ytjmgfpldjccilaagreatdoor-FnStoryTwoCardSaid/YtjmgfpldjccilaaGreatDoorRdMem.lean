/- What drawing leaves of memory; l11Open. -/
import Derived.Test.YtjmgfpldjccilaaGreatDoorPick
import Derived.Test.YtjmgfpldjccilaaGreatDoorMoves
namespace Go.Proofs.YtjmgfpldjccilaaGreatDoor
open Go Go.RowKit Go.PlainAid
set_option linter.unusedSimpArgs false
set_option linter.unusedVariables false

theorem RdAt.old {w w' : World} {p : Nat} {a : Option Addr} {n cap : Nat} {bs : List Int} {k : Nat} (h : RdAt w p a n cap bs k) (hb : ∀ g, g ≤ p → w'.heap[g]? = w.heap[g]?) : RdAt w' p a n cap bs k := by
  obtain ⟨h1, h2, h3, h4, h5, h6⟩ := h
  refine ⟨(World.cell?_of_block (w := w) (hb p (Nat.le_refl _))).trans h1, (World.cell?_of_block (w := w) (hb p (Nat.le_refl _))).trans h2, (World.frozen?_of_block (w := w) (hb p (Nat.le_refl _))).trans h3, h4, h5, ?_⟩
  rcases h6 with h6 | ⟨b, off, rfl, hlt, hc⟩
  · exact .inl h6
  · exact .inr ⟨b, off, rfl, hlt, fun i hi => ⟨(World.cell?_of_block (w := w) (hb b (by omega))).trans (hc i hi).1, (hc i hi).2⟩⟩
theorem RdAt.lt {w : World} {p : Nat} {a : Option Addr} {n cap : Nat} {bs : List Int} {k : Nat} (h : RdAt w p a n cap bs k) : p < w.heap.size := World.block_lt_of_cell? w _ h.cp
theorem RdAt.below {w w' : World} {p : Nat} {a : Option Addr} {n cap : Nat} {bs : List Int} {k : Nat} (h : RdAt w p a n cap bs k) (hb : Below w.heap.size w w') : RdAt w' p a n cap bs k :=
  h.old (fun g hg => hb.block g (by have := h.lt; omega))
theorem RdAt.step {w : World} {p : Nat} {a : Option Addr} {n cap : Nat} {bs : List Int} {k : Nat} (h : RdAt w p a n cap bs k) (d : Nat) : RdAt ((w.setCell ⟨p, 1, none⟩ (.int .i64 ((k + 1 : Nat) : Int))).drewN d) p a n cap bs (k + 1) := by
  have hp := h.lt
  obtain ⟨h1, h2, h3, h4, h5, h6⟩ := h
  refine ⟨?_, ?_, ?_, h4, h5, ?_⟩
  · simp [h1, go_sem]
  · simp [h2, go_sem]
  · simp [h3, go_sem]
  · rcases h6 with h6 | ⟨b, off, rfl, hlt, hc⟩
    · exact .inl h6
    · refine .inr ⟨b, off, rfl, hlt, fun i hi => ⟨?_, (hc i hi).2⟩⟩
      have hne : b ≠ p := by omega
      simp [(hc i hi).1, hne, go_sem]

def IsBytes (B : Nat) (w : World) (a : Option Addr) (n : Nat) (l : List Int) : Prop :=
  l.length = n ∧ (n = 0 ∨ ∃ b off, a = some ⟨b, off, none⟩ ∧ b < B ∧ ∀ i, (h : i < l.length) → w.cell? ⟨b, off + i, none⟩ = some (.int .u8 l[i]) ∧ 0 ≤ l[i] ∧ l[i] < 256)

set_option maxHeartbeats 800000 in
set_option maxRecDepth 100000 in
theorem l11Open_any (a : Option Addr) (n cap : Nat) (bs : List Int) (w : World) (hcap : n ≤ cap) (hn : n ≤ 1048576) (hz : IsBytes w.heap.size w a n bs) :
    Calls Tryz.prog 23 #[.slice a n cap] w fun e w' => ∃ a' n' cap' bs', e = .returned (.pointer (some ⟨w.heap.size, 0, none⟩)) ∧ RdAt w' w.heap.size a' n' cap' bs' 0 ∧ Below w.heap.size w w' ∧ w'.heap.size = w.heap.size + 1 := by
  obtain ⟨hlen, hcells⟩ := hz
  by_cases h2 : 2000 < n
  · rcases hcells with h0 | ⟨b, off, rfl, hb, hc⟩
    · omega
    go_enter Tryz.func23, Tryz.ntmps23
    go_wp2_with fail
    go_ret
    refine ⟨some ⟨b, off, none⟩, 2000, cap, bs.take 2000, rfl, ⟨by simp [go_sem], by simp [go_sem], by simp [go_sem], by simp; omega, by omega, .inr ⟨b, off, rfl, hb, fun i hi => ?_⟩⟩, (Below.refl _ _).alloc (Nat.le_refl _) _, by simp⟩
    have h3 : i < bs.length := by simp at hi; omega
    have h4 := hc i h3
    refine ⟨?_, by simpa using h4.2⟩
    rw [(((Below.refl w.heap.size w).alloc (Nat.le_refl _) _).cell (p := ⟨b, off + i, none⟩) hb), h4.1]
    simp
  · go_enter Tryz.func23, Tryz.ntmps23
    go_wp2_with fail
    go_ret
    refine ⟨a, n, cap, bs, rfl, ⟨by simp [go_sem], by simp [go_sem], by simp [go_sem], hlen, by omega, ?_⟩, (Below.refl _ _).alloc (Nat.le_refl _) _, by simp⟩
    rcases hcells with h0 | ⟨b, off, rfl, hb, hc⟩
    · exact .inl h0
    · refine .inr ⟨b, off, rfl, hb, fun i hi => ⟨?_, (hc i hi).2⟩⟩
      rw [(((Below.refl w.heap.size w).alloc (Nat.le_refl _) _).cell (p := ⟨b, off + i, none⟩) hb), (hc i hi).1]
end Go.Proofs.YtjmgfpldjccilaaGreatDoor
