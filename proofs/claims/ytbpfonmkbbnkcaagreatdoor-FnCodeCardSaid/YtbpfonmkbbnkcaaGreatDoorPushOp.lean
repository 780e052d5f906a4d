/- An op put on the program's stack of ops. -/
import Derived.Test.YtbpfonmkbbnkcaaGreatDoorOpsP
import Derived.Deep.AppendLies
import Derived.Deep.RegionLaw
namespace Go.Proofs.YtbpfonmkbbnkcaaGreatDoor
open Go Go.RowKit Go.PlainAid
set_option linter.unusedSimpArgs false
set_option linter.unusedVariables false

/-- block p is a stack of ops that holds st, its top first -/
def StkO (p : Nat) (w : World) (st : List (Int × Int)) : Prop :=
  ∃ v, w.cell? ⟨p, 0, none⟩ = some v ∧ w.frozen? ⟨p, 0, none⟩ = false ∧ OwnOp (p + 1) w v st
theorem StkO.lt {p : Nat} {w : World} {st : List (Int × Int)} (h : StkO p w st) : p < w.heap.size := by
  obtain ⟨v, hc, _⟩ := h
  exact World.block_lt_of_cell? w _ hc
theorem own_drew {w : World} {B size n : Nat} {e : TypeId} {v : Value} {xs : List Value} (h : w.ownsRow B e size v n xs) : w.drew.ownsRow B e size v n xs := h
theorem below_drew0 {B : Nat} {w w' : World} (h : Below B w.drew w') : Below B w w' := ⟨h.os, h.tape, h.output, h.size, h.block⟩

set_option maxHeartbeats 1600000 in
set_option maxRecDepth 100000 in
theorem pushO_any (p : Nat) (k n : Int) (st : List (Int × Int)) (w : World) (hs : StkO p w st) (hl : st.length ≤ 1000) :
    Calls Tryz.prog 81 #[.pointer (some ⟨p, 0, none⟩), .agg #[.int .i64 k, .int .i64 n]] w fun e w' => e = .returned (.tuple #[]) ∧ StkO p w' ((k, n) :: st) ∧ Below p w w' := by
  have hlt := hs.lt
  obtain ⟨v, hc, hf, hown⟩ := hs
  obtain ⟨i0, hi, hz0, hz1, hz2⟩ := info_parts infoOp
  obtain ⟨a, cap, rfl, hcap⟩ := hown.form
  obtain ⟨m, hm⟩ : ∃ m, st.length = m := ⟨_, rfl⟩
  have HM : Hid (st.length = m) := hm
  have HO : Hid (w.ownsRow (p + 1) 82 2 (.slice a m cap) m (opRow st)) := by rw [← hm]; exact hown
  have HNE : Hid (some p ≠ (Value.slice a m cap).ownBlock) := fun e => by have := (World.ownsRow.lt HO.out p e.symm).1; omega
  rw [hm] at hc hcap hl
  have H0c : Hid (∀ o o' : Obj, ((w.alloc o).alloc o').cell? ⟨p, 0, none⟩ = some (.slice a m cap)) := fun o o' => (World.cell?_alloc_past _ _ _ (by simp; omega)).trans ((World.cell?_alloc_past _ _ _ hlt).trans hc)
  have H0f : Hid (∀ o o' : Obj, ((w.alloc o).alloc o').frozen? ⟨p, 0, none⟩ = false) := fun o o' => (World.frozen?_alloc_past _ _ _ (by simp; omega)).trans ((World.frozen?_alloc_past _ _ _ hlt).trans hf)
  clear hown hm
  go_enter Tryz.func81, Tryz.ntmps81
  go_wp2_with fail
  go_region_law (refine step_append_lies _ rfl (.tmp 8) (.tmp 10) 41 rfl (p + 1) 82 i0 (.agg #[.int .i64 0, .int .i64 0]) 2 16 Tryz.underlying41 hi hz0 hz1 hz2 rfl (by decide) (.slice a m cap) m (opRow st) rfl (by first | exact (HO.out.alloc _).alloc _ | exact own_drew ((HO.out.alloc _).alloc _)) _ 1 1 [.int .i64 k, .int .i64 n] rfl rfl (by intro j u hj; match j, hj with | 0, hj => (simp at hj; subst hj; simp [Addr.add]) | 1, hj => (simp at hj; subst hj; simp [Addr.add])) (by intro u hu; simp at hu; rcases hu with rfl | rfl <;> rfl) (by decide) (by unfold maxLen; omega) (by omega) (by first | omega | (simp; omega)) _ rfl ?_
                 intro g cap' w2 hown2 hgrow2 hat2 hlt2
                 have hpc : w2.cell? ⟨p, 0, none⟩ = some (.slice a m cap) := (World.cell?_of_block (hgrow2.block p (by simp; omega) HNE.out)).trans (by exact H0c.out _ _)
                 have hpf : w2.frozen? ⟨p, 0, none⟩ = false := (World.frozen?_of_block (hgrow2.block p (by simp; omega) HNE.out)).trans (by exact H0f.out _ _)
                 have hp2 : p < w2.heap.size := (by have := hgrow2.size; simp at this; omega)
                 have HO2 : Hid (w2.ownsRow (p + 1) 82 2 (.slice (some ⟨g, 0, none⟩) (m + 1) cap') (m + 1) (opRow st ++ [.int .i64 k, .int .i64 n])) := hown2
                 have HB2 : Hid (Below p w w2) := (by
                   have hb := ((Below.refl p w).alloc (by omega) (.cells #[.int .i64 k, .int .i64 n] 82)).alloc (by simp; omega) (.cells #[.int .i64 k, .int .i64 n] 82)
                   exact hb.trans (below_drew0 ((Below.refl p _).grown hgrow2 (by simp; omega) (fun q hq => by have := (World.ownsRow.lt HO.out q hq).1; omega))))
                 clear hown2 hgrow2 hat2)
  all_goals
    go_wp2_with fail
    go_end0
    refine ⟨rfl, ⟨_, World.cell?_setCell_same _ _ _ hpc, by simpa using hpf, ?_⟩, HB2.out.setCell (by simp) _⟩
    unfold OwnOp
    rw [opRow_cons, List.length_cons, HM.out]
    exact ownsRow_setCell_below HO2.out (by simp) _
end Go.Proofs.YtbpfonmkbbnkcaaGreatDoor
