/- Drawn beats. -/
import Derived.Test.YtlpdilmdhfemdaaOneI
import Derived.Test.YtlpdilmdhfemdaaFireMem
namespace Go.Proofs.Ytlpdilmdhfemdaa
open Go Go.RowKit Go.PlainAid
set_option linter.unusedSimpArgs false
set_option linter.unusedVariables false

def btCells : List Bt → List Value
  | [] => []
  | x :: l => .int .i64 x.1 :: .int .i64 x.2.1 :: .int .i64 x.2.2 :: btCells l
theorem btCells_len : ∀ l : List Bt, (btCells l).length = l.length * 3
  | [] => rfl
  | x :: l => by simp [btCells, btCells_len l]; omega
theorem btCells_app : ∀ l r : List Bt, btCells (l ++ r) = btCells l ++ btCells r
  | [], r => rfl
  | x :: l, r => by simp [btCells, btCells_app l r]
theorem btCells_at : ∀ (l : List Bt) (i : Nat), (h : i < l.length) → (btCells l)[i * 3]? = some (.int .i64 (l[i]).1) ∧ (btCells l)[i * 3 + 1]? = some (.int .i64 (l[i]).2.1) ∧ (btCells l)[i * 3 + 2]? = some (.int .i64 (l[i]).2.2)
  | x :: l, 0, _ => ⟨rfl, rfl, rfl⟩
  | x :: l, i + 1, h => by
    have := btCells_at l i (by simpa using h)
    rw [show (i + 1) * 3 = i * 3 + 1 + 1 + 1 by omega]
    exact this
theorem btCells_set0 : ∀ (l : List Bt) (i : Nat) (y : Int), i < l.length → ∃ l' : List Bt, l'.length = l.length ∧ (btCells l).set (i * 3) (.int .i64 y) = btCells l'
  | x :: l, 0, y, _ => ⟨(y, x.2) :: l, rfl, rfl⟩
  | x :: l, i + 1, y, h => by
    obtain ⟨l', h1, h2⟩ := btCells_set0 l i y (by simpa using h)
    refine ⟨x :: l', by simp [h1], ?_⟩
    rw [show (i + 1) * 3 = i * 3 + 1 + 1 + 1 by omega]
    simp [btCells, h2]
theorem btCells_set1 : ∀ (l : List Bt) (i : Nat) (y : Int), i < l.length → ∃ l' : List Bt, l'.length = l.length ∧ (btCells l).set (i * 3 + 1) (.int .i64 y) = btCells l'
  | x :: l, 0, y, _ => ⟨(x.1, y, x.2.2) :: l, rfl, rfl⟩
  | x :: l, i + 1, y, h => by
    obtain ⟨l', h1, h2⟩ := btCells_set1 l i y (by simpa using h)
    refine ⟨x :: l', by simp [h1], ?_⟩
    rw [show (i + 1) * 3 + 1 = i * 3 + 1 + 1 + 1 + 1 by omega]
    simp [btCells, h2]
theorem btCells_set2 : ∀ (l : List Bt) (i : Nat) (y : Int), i < l.length → ∃ l' : List Bt, l'.length = l.length ∧ (btCells l).set (i * 3 + 2) (.int .i64 y) = btCells l'
  | x :: l, 0, y, _ => ⟨(x.1, x.2.1, y) :: l, rfl, rfl⟩
  | x :: l, i + 1, y, h => by
    obtain ⟨l', h1, h2⟩ := btCells_set2 l i y (by simpa using h)
    refine ⟨x :: l', by simp [h1], ?_⟩
    rw [show (i + 1) * 3 + 2 = i * 3 + 2 + 1 + 1 + 1 by omega]
    simp [btCells, h2]
/-- a row of one's own that holds these -/
def OwnB (B : Nat) (w : World) (v : Value) (l : List Bt) : Prop := w.ownsRow B 34 3 v l.length (btCells l)
theorem OwnB.mv {B p : Nat} {w w' : World} {v : Value} {l : List Bt} (h : OwnB B w v l) (hp : p < B) (hm : Mv p w w') : OwnB B w' v l :=
  own_of_block h (fun g hg => hm.block g (World.ownsRow.lt h g hg).2 (by have := (World.ownsRow.lt h g hg).1; omega))
theorem OwnB.is {B : Nat} {w : World} {v : Value} {l : List Bt} (h : OwnB B w v l) : ∃ a c, v = .slice a l.length c ∧ l.length ≤ c ∧ c ≤ maxLen ∧ IsBts w.heap.size w a l.length l := by
  have h' := h
  obtain ⟨_, h2⟩ := h
  rcases h2 with ⟨rfl, h0⟩ | ⟨g, cap, cur, rfl, hb, hg, hc, hm, _⟩
  · rw [h0]
    exact ⟨none, 0, rfl, by omega, by unfold maxLen; omega, ⟨h0, .inl rfl⟩⟩
  · refine ⟨_, cap, rfl, hc, hm, ⟨rfl, .inr ⟨g, 0, rfl, (Array.getElem?_eq_some_iff.1 hg).1, fun i hi => ⟨_, rfl, fun j u hu => ?_⟩⟩⟩⟩
    have h0 := World.ownsRow.cellAt h' (i * 3) (by omega)
    have h1 := World.ownsRow.cellAt h' (i * 3 + 1) (by omega)
    have h2 := World.ownsRow.cellAt h' (i * 3 + 2) (by omega)
    obtain ⟨e0, e1, e2⟩ := btCells_at l i hi
    rcases j with _ | _ | _ | j
    · simp at hu; subst hu; exact ⟨by omega, by simpa using h0.trans e0⟩
    · simp at hu; subst hu; exact ⟨by omega, by simpa using h1.trans e1⟩
    · simp at hu; subst hu; exact ⟨by omega, by simpa using h2.trans e2⟩
    · simp at hu
/-- pick, in the words of what moves -/
theorem pick_mv (p : Nat) (a : Option Addr) (n cap : Nat) (bs : List Int) (k : Nat) (m : Int) (w : World) (hk : k ≤ 1000000) (hm : m ≤ 1000000) (hr : RdAt w p a n cap bs k) :
    Calls Try.prog 40 #[.pointer (some ⟨p, 0, none⟩), .int .i64 m] w fun e w' => ∃ v, e = .returned (.int .i64 v) ∧ 0 ≤ v ∧ (1 ≤ m → v < m) ∧ RdAt w' p a n cap bs (k + 1) ∧ Mv p w w' :=
  (pick_any p a n cap bs k m w hk hm hr).mono (fun e w' ⟨v, h1, h2, h3, d, h4⟩ => ⟨v, h1, h2, h3, by rw [h4]; exact hr.step d, by rw [h4]; exact Mv.step _ _ _ _⟩)
theorem three_new (w : World) (u v x : Value) (t : TypeId) : ∀ j y, [u, v, x][j]? = some y → (w.alloc (.cells #[u, v, x] t)).cell? ((⟨w.heap.size, 0, none⟩ : Addr).add j) = some y := by
  intro j y hj
  match j, hj with
  | 0, hj => simp at hj; subst hj; simp [Addr.add]
  | 1, hj => simp at hj; subst hj; simp [Addr.add]
  | 2, hj => simp at hj; subst hj; simp [Addr.add]
theorem Mv.grown {p : Nat} {w w1 w2 : World} {o : Obj} {v : Value} {l : List Bt} (h : Mv p w w1) (hr : OwnB w.heap.size w1 v l) (hg : (w1.alloc o).grownBy w2 v.ownBlock) : Mv p w w2 := by
  have h1 := hg.size
  have h2 := h.size
  refine ⟨hg.os.trans h.os, hg.tape.trans h.tape, hg.output.trans h.output, by simp at h1; omega, fun b hb hne => ?_⟩
  exact ((hg.block b (by simp; omega) (fun e => by have := (World.ownsRow.lt hr b e.symm).1; omega)).trans (Below.heap_alloc _ _ _ (by omega))).trans (h.block b hb hne)

theorem OwnB.store {p g cap : Nat} {w W : World} {l l' : List Bt} {j : Nat} {u : Value} (h : OwnB w.heap.size W (.slice (some ⟨g, 0, none⟩) l.length cap) l) (hp : p < w.heap.size) (hm : Mv p w W) {a : Option Addr} {n c : Nat} {bs : List Int} {k : Nat} (hr : RdAt W p a n c bs k) (hl : l'.length = l.length) (hs : (btCells l).set j u = btCells l') :
    OwnB w.heap.size (W.setCell ⟨g, j, none⟩ u) (.slice (some ⟨g, 0, none⟩) l.length cap) l' ∧ Mv p w (W.setCell ⟨g, j, none⟩ u) ∧ RdAt (W.setCell ⟨g, j, none⟩ u) p a n c bs k := by
  have hg := (World.ownsRow.lt h g rfl).1
  refine ⟨?_, ⟨hm.os, hm.tape, hm.output, by simpa [World.setCell] using hm.size, fun b h1 h2 => (Below.heap_setCell W ⟨g, j, none⟩ u b (by show b ≠ g; omega)).trans (hm.block b h1 h2)⟩, hr.old (fun b hb => Below.heap_setCell W ⟨g, j, none⟩ u b (by show b ≠ g; omega))⟩
  show World.ownsRow _ _ _ _ _ _ _
  rw [hl, ← hs]
  exact (World.ownsRow.stored h j u).1
/-- one of a list that was just made -/
theorem one_at (L : List Int) (t : TypeId) (m : Nat) (w W : World) (p : Nat) (a : Option Addr) (n cap : Nat) (bs : List Int) (k g : Nat) (hk : k ≤ 1000000) (hr : RdAt w p a n cap bs k) (hm : L.length = m) (h1 : 1 ≤ m) (h2 : m ≤ 1000) (hg : g = w.heap.size) (hW : W = w.alloc (.cells (L.map (Value.int .i64)).toArray t)) :
    Calls Try.prog 28 #[.pointer (some ⟨p, 0, none⟩), .slice (some ⟨g, 0, none⟩) m m] W fun e w' => ∃ y, e = .returned (.int .i64 y) ∧ y ∈ L ∧ RdAt w' p a n cap bs (k + 1) ∧ Mv p w w' := by
  subst hg
  subst hW
  exact one_newI w p a n cap bs k L t m hk hr hm h1 h2

set_option maxHeartbeats 1000000 in
set_option maxRecDepth 100000 in
theorem l31Beats_any (p : Nat) (a : Option Addr) (n cap : Nat) (bs : List Int) (k : Nat) (w : World) (hk : k ≤ 2000) (hr : RdAt w p a n cap bs k) :
    Calls Try.prog 27 #[.pointer (some ⟨p, 0, none⟩)] w fun e w' => ∃ v l k', e = .returned v ∧ l.length ≤ 4 ∧ OwnB w.heap.size w' v l ∧ k' ≤ k + 100 ∧ RdAt w' p a n cap bs k' ∧ Mv p w w' := by
  have HR : Hid (RdAt w p a n cap bs k) := hr
  have hp := hr.lt
  clear hr
  obtain ⟨i0, hi, hz0, hz1, hz2⟩ := info_parts infoBt
  go_enter Try.func27, Try.ntmps27
  go_wp2_with fail
  have HR0 : Hid (RdAt (w.alloc (.cells #[] 34)) p a n cap bs k) := HR.out.below ((Below.refl _ _).alloc (Nat.le_refl _) _)
  have HM0 : Hid (Mv p w (w.alloc (.cells #[] 34))) := Mv.of_below ((Below.refl _ _).alloc (Nat.le_refl _) _)
  have HO0 : Hid (OwnB w.heap.size (w.alloc (.cells #[] 34)) (.slice (some ⟨w.heap.size, 0, none⟩) 0 0) []) := World.ownsRow_lit w #[] 0 (Nat.le_refl _) (by unfold maxLen; omega) rfl
  refine (one_at [0, 1, 2, 3, 3, 4] 3 6 _ _ p a n cap bs k _ (by omega) HR0.out rfl (by omega) (by omega) (by simp) rfl).mono ?_
  rintro e w1 ⟨y, rfl, hy, hr1, hm1⟩
  have hy4 : 0 ≤ y ∧ y ≤ 4 := by simp at hy; omega
  have HR1 := hidOf hr1
  have HM1 := hidOf (HM0.out.trans hm1)
  have HO1 := hidOf (HO0.out.mv hp hm1)
  clear hy hr1 hm1
  go_wp2_with fail
  go_loopw [3, 4] (fun u i wr => ∃ (m j : Nat) (l : List Bt), m ≤ 4 ∧ l.length + m ≤ 4 ∧ j ≤ k + 1 + 3 * l.length ∧ i = .int .i64 m ∧ Hid (OwnB w.heap.size wr u l) ∧ Hid (RdAt wr p a n cap bs j) ∧ Hid (Mv p w wr)) (fun _ i _ => (intOf i).toNat)
  case atStart => exact ⟨y.toNat, k + 1, [], by omega, by simp; omega, by simp, by rw [show ((y.toNat : Nat) : Int) = y by omega], HO1.out, HR1.out, HM1.out⟩
  case round =>
    obtain ⟨m, j, l, hm, hl, hj, rfl, HO, HRJ, HMJ⟩ := hrel
    by_cases hm0 : m = 0
    · subst hm0
      obtain ⟨va, vc, rfl, hvc, hvm, hvi⟩ := HO.out.is
      have hj2 : j ≤ k + 13 := by omega
      by_cases hl0 : l.length = 0
      · have HL0 := hidOf hl0
        rw [hl0] at HO ⊢
        clear hl0
        go_wp2_with fail
        go_ret
        exact ⟨_, l, j, rfl, by omega, HO.out, by omega, HRJ.out, HMJ.out⟩
      · have hlp : (0 : Int) < (l.length : Int) := by omega
        go_wp2_with fail
        refine (pick_mv p a n cap bs j 12 _ (by omega) (by omega) HRJ.out).mono ?_
        rintro e w2 ⟨v2, rfl, _, _, hr2, hm2⟩
        have HR2 := hidOf hr2
        have HM2 := hidOf (HMJ.out.trans hm2)
        have HO2 := hidOf (HO.out.mv hp hm2)
        clear hr2 hm2
        by_cases hv2 : v2 = 0
        · go_wp2_with fail
          refine (pick_mv p a n cap bs (j + 1) l.length _ (by omega) (by omega) HR2.out).mono ?_
          rintro e w3 ⟨v3, rfl, h30, h31, hr3, hm3⟩
          have HR3 := hidOf hr3
          have HM3 := hidOf (HM2.out.trans hm3)
          have HO3 := hidOf (HO2.out.mv hp hm3)
          obtain ⟨q, rfl⟩ : ∃ q : Nat, v3 = q := ⟨v3.toNat, by omega⟩
          have hq : q < l.length := by have := h31 (by omega); omega
          clear hr3 hm3 h31
          go_wp2_with fail
          refine (pick_mv p a n cap bs (j + 1 + 1) 3 _ (by omega) (by omega) HR3.out).mono ?_
          rintro e w4 ⟨v4, rfl, _, _, hr4, hm4⟩
          have HR4 := hidOf hr4
          have HM4 := hidOf (HM3.out.trans hm4)
          have HO4 := hidOf (HO3.out.mv hp hm4)
          clear hr4 hm4
          have hgf : ∃ g, va = some ⟨g, 0, none⟩ := by
            rcases HO.out.2 with ⟨e, h0⟩ | ⟨g, _, _, e, _⟩
            · omega
            · exact ⟨g, by injection e⟩
          obtain ⟨g, rfl⟩ := hgf
          have hqi : (q : Int) < (l.length : Int) := by omega
          by_cases h4a : v4 = 0
          · subst h4a
            go_wp2_with fail
            refine (one_at [0, 10000] 3 2 _ _ p a n cap bs (j + 1 + 1 + 1) _ (by omega) HR4.out rfl (by omega) (by omega) rfl rfl).mono ?_
            rintro e w5 ⟨y5, rfl, _, hr5, hm5⟩
            have HR5 := hidOf hr5
            have HM5 := hidOf (HM4.out.trans hm5)
            have HO5 := hidOf (HO4.out.mv hp hm5)
            have c5 := (World.ownsRow.cellAt HO5.out (q * 3 + 2) (by omega)).trans (btCells_at l q hq).2.2
            have f5 := World.ownsRow.frozenAt HO5.out (q * 3 + 2)
            obtain ⟨l', hl', hs'⟩ := btCells_set2 l q y5 hq
            have HST := hidOf (HO5.out.store hp HM5.out HR5.out hl' hs')
            clear hr5 hm5 hs'
            go_wp2_with fail
            go_ret
            exact ⟨_, l', j + 1 + 1 + 1 + 1, rfl, by omega, by rw [OwnB, hl']; rw [OwnB, hl'] at HST; exact HST.out.1, by omega, HST.out.2.2, HST.out.2.1⟩
          · by_cases h4b : v4 = 1
            · subst h4b
              go_wp2_with fail
              refine (one_at [-1, 10000] 3 2 _ _ p a n cap bs (j + 1 + 1 + 1) _ (by omega) HR4.out rfl (by omega) (by omega) rfl rfl).mono ?_
              rintro e w5 ⟨y5, rfl, _, hr5, hm5⟩
              have HR5 := hidOf hr5
              have HM5 := hidOf (HM4.out.trans hm5)
              have HO5 := hidOf (HO4.out.mv hp hm5)
              have c5 := (World.ownsRow.cellAt HO5.out (q * 3 + 1) (by omega)).trans (btCells_at l q hq).2.1
              have f5 := World.ownsRow.frozenAt HO5.out (q * 3 + 1)
              obtain ⟨l', hl', hs'⟩ := btCells_set1 l q y5 hq
              have HST := hidOf (HO5.out.store hp HM5.out HR5.out hl' hs')
              clear hr5 hm5 hs'
              go_wp2_with fail
              go_ret
              exact ⟨_, l', j + 1 + 1 + 1 + 1, rfl, by omega, by rw [OwnB, hl']; rw [OwnB, hl'] at HST; exact HST.out.1, by omega, HST.out.2.2, HST.out.2.1⟩
            · have h4c : (v4 == 0) = false := by simp [h4a]
              have h4d : (v4 == 1) = false := by simp [h4b]
              go_wp2_with fail
              refine (one_at [-1, 3] 3 2 _ _ p a n cap bs (j + 1 + 1 + 1) _ (by omega) HR4.out rfl (by omega) (by omega) rfl rfl).mono ?_
              rintro e w5 ⟨y5, rfl, _, hr5, hm5⟩
              have HR5 := hidOf hr5
              have HM5 := hidOf (HM4.out.trans hm5)
              have HO5 := hidOf (HO4.out.mv hp hm5)
              have c5 := (World.ownsRow.cellAt HO5.out (q * 3) (by omega)).trans (btCells_at l q hq).1
              have f5 := World.ownsRow.frozenAt HO5.out (q * 3)
              obtain ⟨l', hl', hs'⟩ := btCells_set0 l q y5 hq
              have HST := hidOf (HO5.out.store hp HM5.out HR5.out hl' hs')
              clear hr5 hm5 hs'
              go_wp2_with fail
              go_ret
              exact ⟨_, l', j + 1 + 1 + 1 + 1, rfl, by omega, by rw [OwnB, hl']; rw [OwnB, hl'] at HST; exact HST.out.1, by omega, HST.out.2.2, HST.out.2.1⟩
        · have hv2' : (v2 == 0) = false := by simp [hv2]
          go_wp2_with fail
          go_ret
          exact ⟨_, l, j + 1, rfl, by omega, HO2.out, by omega, HR2.out, HM2.out⟩
    · have hmp : (0 : Int) < (m : Int) := by omega
      go_wp2_with fail
      refine (pick_mv p a n cap bs j 3 _ (by omega) (by omega) HRJ.out).mono ?_
      rintro e w2 ⟨v2, rfl, _, _, hr2, hm2⟩
      have HR2 := hidOf hr2
      have HM2 := hidOf (HMJ.out.trans hm2)
      have HO2 := hidOf (HO.out.mv hp hm2)
      clear hr2 hm2
      go_wp2_with fail
      refine (pick_mv p a n cap bs (j + 1) 12 _ (by omega) (by omega) HR2.out).mono ?_
      rintro e w3 ⟨v3, rfl, _, _, hr3, hm3⟩
      have HR3 := hidOf hr3
      have HM3 := hidOf (HM2.out.trans hm3)
      have HO3 := hidOf (HO2.out.mv hp hm3)
      clear hr3 hm3
      go_wp2_with fail
      refine (pick_mv p a n cap bs (j + 1 + 1) 9 _ (by omega) (by omega) HR3.out).mono ?_
      rintro e w4 ⟨v4, rfl, h40, h41, hr4, hm4⟩
      have h42 := h41 (by omega)
      have HR4 := hidOf hr4
      have HM4 := hidOf (HM3.out.trans hm4)
      have HO4 := hidOf (HO3.out.mv hp hm4)
      have hs4 := HM4.out.size
      have hw4 : IntKind.i64.wrap (1 + v4) = 1 + v4 := by rw [IntKind.wrap_i64]; omega
      have hml : l.length ≤ 4 := by omega
      clear hr4 hm4 h41
      go_wp2_with (at_builtin; (refine wpList_append_own _ rfl (.tmp 14) (.tmp 23) 23 rfl w.heap.size 34 i0 (.agg #[.int .i64 0, .int .i64 0, .int .i64 0]) 3 24 Try.underlying23 hi hz0 hz1 hz2 rfl (by decide) _ l.length (btCells l) rfl (by exact (World.ownsRow.alloc HO4.out _)) ⟨w4.heap.size, 0, none⟩ 1 1 [.int .i64 v2, .int .i64 v3, .int .i64 (1 + v4)] rfl rfl (by exact three_new _ _ _ _ _) (by intro u hu; simp at hu; rcases hu with rfl | rfl | rfl <;> rfl) (by unfold maxLen; omega) (by omega) (by simp; omega) ?_))
      intro v' w5 hown' hgrow' _
      have HM5 := hidOf (Mv.grown HM4.out HO4.out hgrow')
      have HO5 : Hid (OwnB w.heap.size w5 v' (l ++ [(v2, v3, 1 + v4)])) := by
        show World.ownsRow _ _ _ _ _ _ _
        rw [List.length_append, btCells_app]
        exact hown'
      have HR5 : Hid (RdAt w5 p a n cap bs (j + 1 + 1 + 1)) := HR4.out.old (fun b hb => (hgrow'.block b (by simp; omega) (fun e => by have := (World.ownsRow.lt HO4.out b e.symm).1; omega)).trans (Below.heap_alloc _ _ _ (by omega)))
      clear hown' hgrow'
      go_wp2_with fail
      go_roundw
      case rel => exact ⟨m - 1, j + 1 + 1 + 1, l ++ [(v2, v3, 1 + v4)], by omega, by simp; omega, by simp; omega, by rw [show ((m - 1 : Nat) : Int) = (m : Int) - 1 by omega], HO5.out, HR5.out, HM5.out⟩
      case measure => simp [intOf]; omega
end Go.Proofs.Ytlpdilmdhfemdaa
