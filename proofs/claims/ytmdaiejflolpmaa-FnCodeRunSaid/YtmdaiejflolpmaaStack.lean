/- The program's stack of 32-bit numbers: push and pop. -/
import Derived.Test.YtmdaiejflolpmaaVals
namespace Go.Proofs.Ytmdaiejflolpmaa
open Go.RowKit Go.PlainAid
set_option linter.unusedSimpArgs false
set_option linter.unusedVariables false

theorem infoI32 : (Try.prog.info? 21).map (fun i => (i.zero, i.size, i.bytes)) = some (some (.int .i32 0), 1, 4) := by kernel_rfl

def i32s (st : List Int) : List Value := st.reverse.map (Value.int .i32)

/-- block p is a stack that holds st, its top first -/
def Stk (p : Nat) (w : World) (st : List Int) : Prop :=
  ∃ v, w.cell? ⟨p, 0, none⟩ = some v ∧ w.frozen? ⟨p, 0, none⟩ = false ∧ w.ownsRow (p + 1) 21 1 v st.length (i32s st)

theorem Stk.lt {p : Nat} {w : World} {st : List Int} (h : Stk p w st) : p < w.heap.size := by
  obtain ⟨v, hc, _⟩ := h
  exact World.block_lt_of_cell? w _ hc

theorem one_new (w : World) (v : Value) (t : TypeId) : ∀ j u, [v][j]? = some u → (w.alloc (.cells #[v] t)).cell? ((⟨w.heap.size, 0, none⟩ : Addr).add j) = some u := by
  intro j u hj
  match j, hj with
  | 0, hj => simp at hj; subst hj; simp [Addr.add]
theorem grown_old {w w1 : World} {row : Option Nat} (hg : w.grownBy w1 row) {b : Nat} (o : Nat) (hb : b < w.heap.size) (hne : some b ≠ row) : w1.cell? ⟨b, o, none⟩ = w.cell? ⟨b, o, none⟩ ∧ w1.frozen? ⟨b, o, none⟩ = w.frozen? ⟨b, o, none⟩ :=
  ⟨World.cell?_of_block (hg.block b hb hne), World.frozen?_of_block (hg.block b hb hne)⟩
theorem i32s_cons (x : Int) (st : List Int) : i32s (x :: st) = i32s st ++ [Value.int .i32 x] := by simp [i32s]

theorem push_any (p : Nat) (x : Int) (st : List Int) (w : World) (hs : Stk p w st) (hl : st.length ≤ 1048576) :
    Calls Try.prog 56 #[.pointer (some ⟨p, 0, none⟩), .int .i32 x] w fun e w' => e = .returned (.tuple #[]) ∧ Stk p w' (x :: st) ∧ Below p w w' := by
  have hlt := hs.lt
  obtain ⟨v, hc, hf, hown⟩ := hs
  obtain ⟨i0, hi, hz0, hz1, hz2⟩ := info_parts infoI32
  go_enter Try.func56, Try.ntmps56
  go_wp2_with (at_builtin; refine wpList_append_own _ rfl _ _ 49 rfl (p + 1) 21 i0 (.int .i32 0) 1 4 Try.underlying49 hi hz0 hz1 hz2 rfl (by decide) _ _ _ rfl (hown.alloc _) ⟨w.heap.size, 0, none⟩ 1 1 [.int .i32 x] rfl rfl ?c1 ?c2 ?c3 ?c4 ?c5 ?_)
  case c1 => exact one_new _ _ _
  case c2 => intro u hu; simp at hu; subst hu; rfl
  case c3 => unfold maxLen; omega
  case c4 => omega
  case c5 => simp; omega
  · intro v' w1 hown' hgrow _
    have hne : some p ≠ v.ownBlock := fun e => by have := (hown.lt p e.symm).1; omega
    obtain ⟨g1, g2⟩ := grown_old hgrow 0 (by simp; omega) hne
    have g1' : w1.cell? ⟨p, 0, none⟩ = some v := g1.trans ((World.cell?_alloc_past _ _ _ hlt).trans hc)
    have g2' : w1.frozen? ⟨p, 0, none⟩ = false := g2.trans ((World.frozen?_alloc_past _ _ _ hlt).trans hf)
    have hb : Below p w w1 := ((Below.refl p w).alloc (by omega) _).grown hgrow (by simp; omega) (fun k hk => by have := (hown.lt k hk).1; omega)
    obtain ⟨g, cap, hv⟩ : ∃ g cap, v' = .slice (some ⟨g, 0, none⟩) (st.length + 1) cap := by
      rcases hown'.2 with ⟨_, h⟩ | ⟨g, cap, cur, h, _⟩
      · simp at h
      · exact ⟨g, cap, h⟩
    subst hv
    have HO : Hid (w1.ownsRow (p + 1) 21 1 (.slice (some ⟨g, 0, none⟩) (st.length + 1) cap) (st.length + 1) (i32s st ++ [Value.int .i32 x])) := hown'
    clear hown' hgrow hown g1 g2
    go_wp2
    go_end0
    refine ⟨rfl, ⟨_, World.cell?_setCell_same _ _ _ g1', by simpa using g2', ?_⟩, hb.setCell (by simp) _⟩
    rw [i32s_cons]
    exact ownsRow_setCell_below HO.out (by simp) _

theorem pop_any (p : Nat) (x : Int) (st : List Int) (w : World) (hs : Stk p w (x :: st)) (hl : st.length ≤ 1048576) :
    Calls Try.prog 25 #[.pointer (some ⟨p, 0, none⟩)] w fun e w' => e = .returned (.tuple #[.int .i32 x, .bool true]) ∧ Stk p w' st ∧ Below p w w' ∧ w'.heap.size = w.heap.size ∧ ∀ b o, b ≠ p → w'.cell? ⟨b, o, none⟩ = w.cell? ⟨b, o, none⟩ := by
  have hlt := hs.lt
  obtain ⟨v, hc, hf, hown⟩ := hs
  obtain ⟨g, cap, rfl⟩ : ∃ g cap, v = .slice (some ⟨g, 0, none⟩) (st.length + 1) cap := by
    rcases hown.2 with ⟨_, h⟩ | ⟨g, cap, cur, h, _⟩
    · simp at h
    · exact ⟨g, cap, h⟩
  rw [i32s_cons] at hown
  have hx : w.cell? ⟨g, st.length, none⟩ = some (.int .i32 x) := by
    rw [hown.cellAt st.length (by simp)]
    simp [i32s]
  have hpop := ownsRow_pop (n := st.length) (by simp [i32s]) hown
  have HP : Hid (w.ownsRow (p + 1) 21 1 (.slice (some ⟨g, 0, none⟩) st.length cap) st.length (i32s st)) := hpop
  have hcap : st.length + 1 ≤ cap := by
    rcases hown.2 with ⟨h, _⟩ | ⟨g', cap', cur, h, _, _, h3, _⟩
    · simp at h
    · simp at h; simp at h3; omega
  clear hown hpop
  go_enter Try.func25, Try.ntmps25
  go_wp2
  go_ret2
  refine ⟨rfl, ⟨_, World.cell?_setCell_same _ _ _ hc, by simpa using hf, ownsRow_setCell_below HP.out (by simp) _⟩, (Below.refl _ _).setCell (by simp) _, by simp [World.setCell], fun b o hb => World.cell?_setCell_other _ _ _ _ (by intro h; injection h with h; exact hb h.symm)⟩
end Go.Proofs.Ytmdaiejflolpmaa
