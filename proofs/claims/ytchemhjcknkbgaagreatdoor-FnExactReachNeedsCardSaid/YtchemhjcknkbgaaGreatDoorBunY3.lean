/- The reader's take. -/
import Derived.Test.YtchemhjcknkbgaaGreatDoorBunY1
import Derived.WalkSpells
import Derived.Deep.RegionLaw
import Derived.Deep.AppendLies
namespace Go.Proofs.YtchemhjcknkbgaaGreatDoor
open Go.RowKit Go.PlainAid
set_option linter.unusedSimpArgs false
set_option linter.unusedVariables false

/-- whether g stands at place k -/
def hasAt (s : ByteArray) (k : Nat) (g : ByteArray) : Bool := decide (k + g.size ≤ s.size) && ((s.extract k (k + g.size)).toList == g.toList)
/-- the place behind g, if it stands at place k -/
def takeAt (s : ByteArray) (k : Nat) (g : ByteArray) : Nat := if hasAt s k g then k + g.size else k

set_option maxHeartbeats 800000 in
theorem take_any (p : Nat) (s g : ByteArray) (st : Par) (v : Value) (w : World) (hs : s.size ≤ 1048576) (hg : g.size ≤ 1048576) (ha : st.at_ ≤ s.size) (h : ParAt p w s st v) :
    Calls Tryz.prog 199 #[.pointer (some ⟨p, 0, none⟩), .string g] w fun e w' => e = .returned (.bool (hasAt s (skipTo s st.at_) g)) ∧
      ParAt p w' s { st with at_ := takeAt s (skipTo s st.at_) g } v ∧ Touch p v w w' v := by
  have hb := get_bt s
  have HP : Hid (ParAt p w s st v) := h
  have hle := skipTo_le ha
  clear h
  go_enter Tryz.func199, Tryz.ntmps199
  go_wp2_with fail
  refine (skip_any p s st v _ (by unfold maxLen; omega) ha HP.out).mono ?_
  rintro e w1 ⟨rfl, hp1, ht1⟩
  have HP1 : Hid (ParAt p w1 s { st with at_ := skipTo s st.at_ } v) := hp1
  obtain ⟨c0, c1, c2, c3, c4, ho, hown⟩ := hp1
  simp only at c1
  obtain ⟨k, hk⟩ : ∃ k, skipTo s st.at_ = k := ⟨_, rfl⟩
  have HK : Hid (skipTo s st.at_ = k) := hk
  rw [hk] at HP1 c1 hle
  clear c2 c3 c4 hown hk
  by_cases hlt : k + g.size ≤ s.size
  · have hd : decide ((s.size : Int) < k + g.size) = false := by simp; omega
    cases he : ((s.extract k (k + g.size)).toList == g.toList)
    · have HH : Hid (hasAt s k g = false) := by
        show hasAt s k g = false
        simp only [hasAt, he, Bool.and_false]
      go_wp2_with fail
      go_quiet (fail)
      go_wp2_with fail
      go_ret
      rw [HK.out]
      refine ⟨by rw [HH.out]; rfl, ?_, ht1.drewN _⟩
      unfold takeAt; rw [HH.out]; exact HP1.out.drewN _
    · have HH : Hid (hasAt s k g = true) := by
        show hasAt s k g = true
        simp only [hasAt, he, Bool.and_true]; simp [hlt]
      go_wp2_with fail
      go_quiet (fail)
      go_wp2_with fail
      go_ret
      rw [HK.out]
      refine ⟨by rw [HH.out]; rfl, ?_, (ht1.drewN _).setCell _ _⟩
      unfold takeAt; rw [HH.out]; exact (HP1.out.drewN _).at1 (k + g.size)
  · have hd : decide ((s.size : Int) < k + g.size) = true := by simp; omega
    have HH : Hid (hasAt s k g = false) := by
      show hasAt s k g = false
      rw [hasAt, decide_eq_false (by omega)]; rfl
    go_wp2_with fail
    go_quiet (fail)
    go_wp2_with fail
    go_ret
    rw [HK.out]
    refine ⟨by rw [HH.out]; rfl, ?_, ht1.drewN _⟩
    unfold takeAt; rw [HH.out]; exact HP1.out.drewN _
end Go.Proofs.YtchemhjcknkbgaaGreatDoor

/- The reader's put: one node more, if there is room. -/
namespace Go.Proofs.YtchemhjcknkbgaaGreatDoor
open Go.RowKit Go.PlainAid
set_option linter.unusedSimpArgs false
set_option linter.unusedVariables false

theorem infoNode : (Tryz.prog.info? 121).map (fun i => (i.zero, i.size, i.bytes)) = some (some (.agg #[.int .i64 0, .int .i64 0, .string ByteArray.empty]), 3, 32) := by kernel_rfl

/-- a slice that owns something is written out -/
theorem own_form {w : World} {base size n : Nat} {e : TypeId} {v : Value} {xs : List Value} (h : w.ownsRow base e size v n xs) (hn : 0 < n) : ∃ g cap, v = .slice (some ⟨g, 0, none⟩) n cap := by
  rcases h.2 with ⟨_, h⟩ | ⟨g, cap, cur, h, _⟩
  · omega
  · exact ⟨g, cap, h⟩

theorem three_new (w : World) (x y z : Value) (t : TypeId) : ∀ j u, [x, y, z][j]? = some u → (w.alloc (.cells #[x, y, z] t)).cell? ((⟨w.heap.size, 0, none⟩ : Addr).add j) = some u := by
  intro j u hj
  match j, hj with
  | 0, hj => simp at hj; subst hj; simp [Addr.add]
  | 1, hj => simp at hj; subst hj; simp [Addr.add]
  | 2, hj => simp at hj; subst hj; simp [Addr.add]

def putNd (st : Par) (x : Nd) : Par := if 24 ≤ st.out.length then { st with bad := true } else { st with out := st.out ++ [x] }

/-- behind an append to the nodes, and the store of the slice -/
theorem ParAt.put {p : Nat} {w w1 : World} {s : ByteArray} {st : Par} {v : Value} (h : ParAt p w s st v) {x : Nd} {g cap : Nat} (ho : w1.ownsRow (p + 1) 121 3 (.slice (some ⟨g, 0, none⟩) (st.out.length + 1) cap) (st.out.length + 1) (ndCells st.out ++ [.int .i64 x.1, .int .i64 x.2.1, .string x.2.2])) (hg : w.grownBy w1 v.ownBlock)
    (hat : v.ownBlock = some g ∨ g = w.heap.size) :
    ParAt p (w1.setCell ⟨p, 4, none⟩ (.slice (some ⟨g, 0, none⟩) (st.out.length + 1) cap)) s { st with out := st.out ++ [x] } (.slice (some ⟨g, 0, none⟩) (st.out.length + 1) cap) ∧
    Touch p v w (w1.setCell ⟨p, 4, none⟩ (.slice (some ⟨g, 0, none⟩) (st.out.length + 1) cap)) (.slice (some ⟨g, 0, none⟩) (st.out.length + 1) cap) := by
  have hlt := h.lt
  have hne : some p ≠ v.ownBlock := fun e => by have := (h.own.lt p e.symm).1; omega
  have hc : ∀ j, w1.cell? ⟨p, j, none⟩ = w.cell? ⟨p, j, none⟩ := fun j => World.cell?_of_block (hg.block p hlt hne)
  have hf : ∀ j, w1.frozen? ⟨p, j, none⟩ = w.frozen? ⟨p, j, none⟩ := fun j => World.frozen?_of_block (hg.block p hlt hne)
  refine ⟨⟨?_, ?_, ?_, ?_, ?_, ?_, ?_⟩, ?_⟩
  · rw [setCell_ne _ _ _ _ _ (by decide), hc]; exact h.c0
  · rw [setCell_ne _ _ _ _ _ (by decide), hc]; exact h.c1
  · rw [setCell_ne _ _ _ _ _ (by decide), hc]; exact h.c2
  · rw [setCell_ne _ _ _ _ _ (by decide), hc]; exact h.c3
  · exact World.cell?_setCell_same _ _ _ ((hc 4).trans h.c4)
  · intro j; simpa [hf] using h.open_ j
  · have := ownsRow_setCell_below ho (a := ⟨p, 4, none⟩) (by simp) (.slice (some ⟨g, 0, none⟩) (st.out.length + 1) cap)
    simpa [ndCells_snoc] using this
  · refine Touch.setCell ⟨hg.os, hg.tape, hg.output, hg.size, fun k hk hp hv => hg.block k hk hv, ?_⟩ _ _
    rcases hat with e | e
    · exact .inl e.symm
    · exact .inr fun k hk => by simp [Value.ownBlock] at hk; omega

theorem Touch.alloc {p : Nat} {v v' : Value} {w w' : World} (h : Touch p v w w' v') (o : Obj) : Touch p v w (w'.alloc o) v' :=
  ⟨h.os, h.tape, h.output, by have := h.size; simp; omega, fun k hk hp hv => (Below.heap_alloc _ _ _ (by have := h.size; omega)).trans (h.block k hk hp hv), h.own⟩
theorem three_new' (W : World) (x y z : Value) (t : TypeId) (N : Nat) (hN : N = W.heap.size) : ∀ j u, [x, y, z][j]? = some u → (W.alloc (.cells #[x, y, z] t)).drew.cell? ((⟨N, 0, none⟩ : Addr).add j) = some u := by
  subst hN; exact three_new W x y z t
theorem grown_par {p : Nat} {w w1 : World} {s : ByteArray} {st : Par} {v : Value} (h : ParAt p w s st v) (hg : w.grownBy w1 v.ownBlock) : w1.cell? ⟨p, 4, none⟩ = some v ∧ w1.frozen? ⟨p, 4, none⟩ = false := by
  have hlt := h.lt
  have hne : some p ≠ v.ownBlock := fun e => by have := (h.own.lt p e.symm).1; omega
  exact ⟨(World.cell?_of_block (hg.block p hlt hne)).trans h.c4, (World.frozen?_of_block (hg.block p hlt hne)).trans (h.open_ 4)⟩
theorem touch_alloc {p : Nat} {w : World} {s : ByteArray} {st : Par} {v : Value} (h : ParAt p w s st v) (o : Obj) : Touch p v w (w.alloc o) v :=
  ⟨rfl, rfl, rfl, by simp, fun k hk _ _ => Below.heap_alloc _ _ _ hk, .inl rfl⟩

set_option maxHeartbeats 800000 in
set_option maxRecDepth 100000 in
theorem put_any (p : Nat) (s : ByteArray) (st : Par) (v : Value) (x : Nd) (w : World) (hl : st.out.length ≤ 24) (h : ParAt p w s st v) :
    Calls Tryz.prog 160 #[.pointer (some ⟨p, 0, none⟩), .agg #[.int .i64 x.1, .int .i64 x.2.1, .string x.2.2]] w fun e w' => e = .returned (.tuple #[]) ∧ ∃ v', ParAt p w' s (putNd st x) v' ∧ Touch p v w w' v' := by
  obtain ⟨x0, x1, x2⟩ := x
  simp only
  have hlt := h.lt
  have HP : Hid (ParAt p w s st v) := h
  obtain ⟨c0, c1, c2, c3, c4, ho, hown⟩ := h
  obtain ⟨i0, hi, hz0, hz1, hz2⟩ := info_parts infoNode
  clear c0 c1 c2
  by_cases hfull : 24 ≤ st.out.length
  · obtain ⟨g, cap, hv⟩ := own_form hown (by omega)
    rw [hv] at c4
    have HN : Hid (putNd st (x0, x1, x2) = { st with bad := true }) := by
      show putNd _ _ = _
      unfold putNd; rw [if_pos hfull]
    clear hv hown
    generalize st.out.length = n at *
    go_enter Tryz.func160, Tryz.ntmps160
    go_wp2_with fail
    go_returns
    rw [HN.out]
    exact ⟨rfl, v, (HP.out.bad1 true).alloc _, ((Touch.refl p v w).setCell _ _).alloc _⟩
  · obtain ⟨n, hn⟩ : ∃ n, st.out.length = n := ⟨_, rfl⟩
    have hfull' : ¬ 24 ≤ n := by omega
    have HN : Hid (putNd st (x0, x1, x2) = { st with out := st.out ++ [(x0, x1, x2)] }) := by
      show putNd _ _ = _
      unfold putNd; rw [if_neg hfull]
    have hlen : ∃ ao cap, v = .slice ao n cap := by
      rcases hown.2 with ⟨h1, h2⟩ | ⟨g, cap, cur, h1, _⟩
      · exact ⟨none, 0, by rw [h1, ← hn, h2]⟩
      · exact ⟨_, cap, by rw [h1, hn]⟩
    obtain ⟨ao, cap, hv⟩ := hlen
    subst hv
    rw [hn] at hown
    have HO : Hid (w.ownsRow (p + 1) 121 3 (.slice ao n cap) n (ndCells st.out)) := hown
    have HL : Hid (st.out.length = n) := hn
    clear hown hn hfull c3 hl
    go_enter Tryz.func160, Tryz.ntmps160
    go_wp2_with fail
    go_region_law (refine step_append_lies _ rfl (.tmp 17) (.tmp 19) 117 rfl (p + 1) 121 i0 (.agg #[.int .i64 0, .int .i64 0, .string ByteArray.empty]) 3 32 Tryz.underlying117 hi hz0 hz1 hz2 rfl (by decide) (.slice ao n cap) n (ndCells st.out) rfl (by exact ((HO.out.alloc _).alloc _)) ⟨w.heap.size + 1, 0, none⟩ 1 1 [.int .i64 x0, .int .i64 x1, .string x2] rfl rfl (by exact three_new' _ _ _ _ _ _ (by simp)) (by intro u hu; simp at hu; rcases hu with rfl | rfl | rfl <;> rfl) (by decide) (by unfold maxLen; omega) (by omega) (by simp; omega) _ rfl ?_; intro g cap' w1 hown1 hgrow1 hat1 hlt1; obtain ⟨g1, g2⟩ := grown_par (s := s) (st := st) (by exact ((HP.out.alloc _).alloc _).drew) hgrow1)
    all_goals
      go_wp2_with fail
      go_end0
      rw [HN.out]
      have hL := HL.out
      subst hL
      have R := ((HP.out.alloc _).alloc _).drew.put (x := (x0, x1, x2)) hown1 hgrow1 hat1
      exact ⟨rfl, _, R.1, (((Touch.refl p _ w).alloc _).alloc _).drew.trans R.2⟩
end Go.Proofs.YtchemhjcknkbgaaGreatDoor
