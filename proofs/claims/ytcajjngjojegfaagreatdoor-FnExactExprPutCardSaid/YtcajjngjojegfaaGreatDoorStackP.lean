/- The program's stack of parts; the part that nodes are. -/
import Derived.Test.YtcajjngjojegfaaGreatDoorText2
namespace Go.Proofs.YtcajjngjojegfaaGreatDoor
open Go Go.RowKit Go.PlainAid
set_option linter.unusedSimpArgs false
set_option linter.unusedVariables false

theorem infoPart : (Tryz.prog.info? 65).map (fun i => (i.zero, i.size, i.bytes)) = some (some .nilIface, 1, 16) := by kernel_rfl

def partsV (st : List Tree) : List Value := st.reverse.map partV

/-- block p is a stack that holds st, its top first -/
def StkP (p : Nat) (w : World) (st : List Tree) : Prop :=
  ∃ v, w.cell? ⟨p, 0, none⟩ = some v ∧ w.frozen? ⟨p, 0, none⟩ = false ∧ w.ownsRow (p + 1) 65 1 v st.length (partsV st)

theorem StkP.lt {p : Nat} {w : World} {st : List Tree} (h : StkP p w st) : p < w.heap.size := by
  obtain ⟨v, hc, _⟩ := h
  exact World.block_lt_of_cell? w _ hc

theorem oneP_new (w : World) (v : Value) (t : TypeId) : ∀ j u, [v][j]? = some u → (w.alloc (.cells #[v] t)).cell? ((⟨w.heap.size, 0, none⟩ : Addr).add j) = some u := by
  intro j u hj
  match j, hj with
  | 0, hj => simp at hj; subst hj; simp [Addr.add]
theorem grownP_old {w w1 : World} {row : Option Nat} (hg : w.grownBy w1 row) {b : Nat} (o : Nat) (hb : b < w.heap.size) (hne : some b ≠ row) : w1.cell? ⟨b, o, none⟩ = w.cell? ⟨b, o, none⟩ ∧ w1.frozen? ⟨b, o, none⟩ = w.frozen? ⟨b, o, none⟩ :=
  ⟨World.cell?_of_block (hg.block b hb hne), World.frozen?_of_block (hg.block b hb hne)⟩
theorem partsV_cons (x : Tree) (st : List Tree) : partsV (x :: st) = partsV st ++ [partV x] := by simp [partsV]

set_option maxHeartbeats 800000 in
set_option maxRecDepth 100000 in
theorem pushP_any (p : Nat) (x : Tree) (st : List Tree) (w : World) (hs : StkP p w st) (hl : st.length ≤ 1048576) :
    Calls Tryz.prog 93 #[.pointer (some ⟨p, 0, none⟩), partV x] w fun e w' => e = .returned (.tuple #[]) ∧ StkP p w' (x :: st) ∧ Below p w w' := by
  have hlt := hs.lt
  obtain ⟨tv, xv, hpv⟩ := partV_form x
  have HPV : Hid (partV x = .iface tv xv) := hpv
  rw [hpv]
  clear hpv
  obtain ⟨v, hc, hf, hown⟩ := hs
  obtain ⟨i0, hi, hz0, hz1, hz2⟩ := info_parts infoPart
  go_enter Tryz.func93, Tryz.ntmps93
  go_wp2_with (at_builtin; refine wpList_append_own _ rfl _ _ 124 rfl (p + 1) 65 i0 (.nilIface) 1 16 Tryz.underlying124 hi hz0 hz1 hz2 rfl (by decide) _ _ _ rfl (hown.alloc _) ⟨w.heap.size, 0, none⟩ 1 1 [.iface tv xv] rfl rfl ?c1 ?c2 ?c3 ?c4 ?c5 ?_)
  case c1 => exact oneP_new _ _ _
  case c2 => intro u hu; simp at hu; subst hu; rfl
  case c3 => unfold maxLen; omega
  case c4 => omega
  case c5 => simp; omega
  · intro v' w1 hown' hgrow _
    have hne : some p ≠ v.ownBlock := fun e => by have := (hown.lt p e.symm).1; omega
    obtain ⟨g1, g2⟩ := grownP_old hgrow 0 (by simp; omega) hne
    have g1' : w1.cell? ⟨p, 0, none⟩ = some v := g1.trans ((World.cell?_alloc_past _ _ _ hlt).trans hc)
    have g2' : w1.frozen? ⟨p, 0, none⟩ = false := g2.trans ((World.frozen?_alloc_past _ _ _ hlt).trans hf)
    have hb : Below p w w1 := ((Below.refl p w).alloc (by omega) _).grown hgrow (by simp; omega) (fun k hk => by have := (hown.lt k hk).1; omega)
    obtain ⟨g, cap, hv⟩ : ∃ g cap, v' = .slice (some ⟨g, 0, none⟩) (st.length + 1) cap := by
      rcases hown'.2 with ⟨_, h⟩ | ⟨g, cap, cur, h, _⟩
      · simp at h
      · exact ⟨g, cap, h⟩
    subst hv
    have HO : Hid (w1.ownsRow (p + 1) 65 1 (.slice (some ⟨g, 0, none⟩) (st.length + 1) cap) (st.length + 1) (partsV st ++ [.iface tv xv])) := hown'
    clear hown' hgrow hown g1 g2
    go_wp2
    go_end0
    refine ⟨rfl, ⟨_, World.cell?_setCell_same _ _ _ g1', by simpa using g2', ?_⟩, hb.setCell (by simp) _⟩
    rw [partsV_cons, HPV.out]
    exact ownsRow_setCell_below HO.out (by simp) _

set_option maxHeartbeats 800000 in
set_option maxRecDepth 100000 in
theorem popP_any (p : Nat) (x : Tree) (st : List Tree) (w : World) (hs : StkP p w (x :: st)) (hl : st.length ≤ 1048576) :
    Calls Tryz.prog 94 #[.pointer (some ⟨p, 0, none⟩)] w fun e w' => e = .returned (.tuple #[partV x, .bool true]) ∧ StkP p w' st ∧ Below p w w' ∧ w'.heap.size = w.heap.size ∧ ∀ b o, b ≠ p → w'.cell? ⟨b, o, none⟩ = w.cell? ⟨b, o, none⟩ := by
  have hlt := hs.lt
  obtain ⟨tv, xv, hpv⟩ := partV_form x
  have HPV : Hid (partV x = .iface tv xv) := hpv
  rw [hpv]
  obtain ⟨v, hc, hf, hown⟩ := hs
  obtain ⟨g, cap, rfl⟩ : ∃ g cap, v = .slice (some ⟨g, 0, none⟩) (st.length + 1) cap := by
    rcases hown.2 with ⟨_, h⟩ | ⟨g, cap, cur, h, _⟩
    · simp at h
    · exact ⟨g, cap, h⟩
  rw [partsV_cons] at hown
  have hx : w.cell? ⟨g, st.length, none⟩ = some (.iface tv xv) := by
    rw [hown.cellAt st.length (by simp)]
    simp [partsV, hpv]
  have hpop := ownsRow_pop (n := st.length) (by simp [partsV]) hown
  have HP : Hid (w.ownsRow (p + 1) 65 1 (.slice (some ⟨g, 0, none⟩) st.length cap) st.length (partsV st)) := hpop
  have hcap : st.length + 1 ≤ cap := by
    rcases hown.2 with ⟨h, _⟩ | ⟨g', cap', cur, h, _, _, h3, _⟩
    · simp at h
    · simp at h; simp at h3; omega
  clear hown hpop hpv
  go_enter Tryz.func94, Tryz.ntmps94
  go_wp2
  go_ret2
  refine ⟨rfl, ⟨_, World.cell?_setCell_same _ _ _ hc, by simpa using hf, ownsRow_setCell_below HP.out (by simp) _⟩, (Below.refl _ _).setCell (by simp) _, by simp [World.setCell], fun b o hb => World.cell?_setCell_other _ _ _ _ (by intro h; injection h with h; exact hb h.symm)⟩
end Go.Proofs.YtcajjngjojegfaaGreatDoor
