/- What l11Ops draws: a row of ops, whatever they are. -/
import Derived.Test.YtmdaiejflolpmaaCodeSpec
namespace Go.Proofs.Ytmdaiejflolpmaa
open Go Go.RowKit Go.PlainAid
set_option linter.unusedSimpArgs false
set_option linter.unusedVariables false

/-- a row of m ops in the block g, that can be written -/
structure OpRowAt (B : Nat) (w : World) (g m : Nat) : Prop where
  ge : B ≤ g
  lt : g < w.heap.size
  ints : ∀ j, j < m * 2 → ∃ x, w.cell? ⟨g, j, none⟩ = some (.int .i64 x)
  open_ : ∀ j, w.frozen? ⟨g, j, none⟩ = false

theorem opRow_int (st : List (Int × Int)) : ∀ u ∈ opRow st, ∃ x, u = .int .i64 x := by
  induction st with
  | nil => intro u hu; simp [opRow] at hu
  | cons x st ih =>
    intro u hu
    rw [opRow_cons, List.mem_append] at hu
    rcases hu with hu | hu
    · exact ih u hu
    · simp at hu; rcases hu with rfl | rfl <;> exact ⟨_, rfl⟩
theorem OwnOp.row {B : Nat} {w : World} {g n cap : Nat} {st : List (Int × Int)} (h : OwnOp B w (.slice (some ⟨g, 0, none⟩) n cap) st) (hn : st.length = n) : OpRowAt B w g n := by
  have hl := World.ownsRow.lt h g rfl
  unfold OwnOp at h
  rw [hn] at h
  refine ⟨hl.1, hl.2, fun j hj => ?_, fun j => h.frozenAt j⟩
  rw [h.cellAt j hj]
  have hj2 : j < (opRow st).length := by rw [opRow_len, hn]; exact hj
  obtain ⟨x, hx⟩ := opRow_int st _ (List.getElem_mem hj2)
  exact ⟨x, by rw [List.getElem?_eq_getElem hj2, hx]⟩
theorem OpRowAt.mv {B p : Nat} {w w' : World} {g m : Nat} (h : OpRowAt B w g m) (hp : p < B) (hm : Mv p w w') : OpRowAt B w' g m := by
  have hne : g ≠ p := by have := h.ge; omega
  have hb := hm.block g h.lt hne
  refine ⟨h.ge, Nat.lt_of_lt_of_le h.lt hm.size, fun j hj => ?_, fun j => ?_⟩
  · obtain ⟨x, hx⟩ := h.ints j hj
    exact ⟨x, (World.cell?_of_block (w := w) hb).trans hx⟩
  · exact (World.frozen?_of_block (w := w) hb).trans (h.open_ j)
theorem OpRowAt.set {B : Nat} {w : World} {g m : Nat} (h : OpRowAt B w g m) (j : Nat) (hj : j < m * 2) (y : Int) : OpRowAt B (w.setCell ⟨g, j, none⟩ (.int .i64 y)) g m := by
  refine ⟨h.ge, by simpa [World.setCell] using h.lt, fun i hi => ?_, fun i => by simpa using h.open_ i⟩
  by_cases e : i = j
  · subst e
    obtain ⟨x, hx⟩ := h.ints i hj
    exact ⟨y, World.cell?_setCell_same _ _ _ hx⟩
  · obtain ⟨x, hx⟩ := h.ints i hi
    exact ⟨x, by rw [World.cell?_setCell_other _ _ _ _ (by intro hh; injection hh with _ h2; omega)]; exact hx⟩
theorem OpRowAt.ops {B : Nat} {w : World} {g m : Nat} (h : OpRowAt B w g m) (off n : Nat) (hn : off + n = m) : ∃ zs, IsOps w (some ⟨g, off * 2, none⟩) n zs := by
  have hi := h.ints
  refine ⟨(List.range n).map fun i => (intOf ((w.cell? ⟨g, off * 2 + i * 2, none⟩).getD (.int .i64 0)), intOf ((w.cell? ⟨g, off * 2 + i * 2 + 1, none⟩).getD (.int .i64 0))), by simp, ?_⟩
  refine .inr ⟨g, off * 2, rfl, h.lt, fun i hi' => ?_⟩
  obtain ⟨x, hx⟩ := hi (off * 2 + i * 2) (by omega)
  obtain ⟨y, hy⟩ := hi (off * 2 + i * 2 + 1) (by omega)
  simp [hi', hx, hy, intOf]
theorem Mv.set {p : Nat} {w w' : World} (h : Mv p w w') (g j : Nat) (v : Value) (hg : w.heap.size ≤ g) : Mv p w (w'.setCell ⟨g, j, none⟩ v) :=
  ⟨h.os, h.tape, h.output, by simpa [World.setCell] using h.size, fun b h1 h2 => (Below.heap_setCell w' ⟨g, j, none⟩ v b (by simp; omega)).trans (h.block b h1 h2)⟩
theorem RdAt.set {w : World} {p : Nat} {a : Option Addr} {n cap : Nat} {bs : List Int} {k : Nat} (h : RdAt w p a n cap bs k) (g j : Nat) (v : Value) (hg : p < g) : RdAt (w.setCell ⟨g, j, none⟩ v) p a n cap bs k :=
  h.old (fun b hb => Below.heap_setCell w ⟨g, j, none⟩ v b (by simp; omega))

/-- the four names -/
def four : List ByteArray := [⟨#[120]⟩, ⟨#[121]⟩, ⟨#[99]⟩, ⟨#[110]⟩]
theorem four_new (w : World) (t : TypeId) : IsStrs (w.heap.size + 1) (w.alloc (.cells #[.string ⟨#[120]⟩, .string ⟨#[121]⟩, .string ⟨#[99]⟩, .string ⟨#[110]⟩] t)) (some ⟨w.heap.size, 0, none⟩) 4 four := by
  refine ⟨rfl, .inr ⟨w.heap.size, 0, rfl, by omega, fun i hi => ?_⟩⟩
  have hi4 : i < 4 := hi
  match i, hi4 with
  | 0, _ => simp [four]
  | 1, _ => simp [four]
  | 2, _ => simp [four]
  | 3, _ => simp [four]

/-- ops in memory, in a block from B on -/
def OpsFrom (B : Nat) (w : World) (a : Option Addr) (n : Nat) : Prop := ∃ g off, a = some ⟨g, off, none⟩ ∧ B ≤ g ∧ g < w.heap.size ∧ ∃ zs, IsOps w a n zs
theorem OpsFrom.mv {B p : Nat} {w w' : World} {a : Option Addr} {n : Nat} (h : OpsFrom B w a n) (hp : p < B) (hm : Mv p w w') : OpsFrom B w' a n := by
  obtain ⟨g, off, rfl, h1, h2, zs, h3, h4⟩ := h
  have hb := hm.block g h2 (by omega)
  refine ⟨g, off, rfl, h1, Nat.lt_of_lt_of_le h2 hm.size, zs, h3, ?_⟩
  rcases h4 with h4 | ⟨b, o, e, h5, h6⟩
  · exact .inl h4
  · injection e with e
    injection e with e1 e2
    subst e1 e2
    exact .inr ⟨g, off, rfl, Nat.lt_of_lt_of_le h2 hm.size, fun i hi => ⟨(World.cell?_of_block (w := w) hb).trans (h6 i hi).1, (World.cell?_of_block (w := w) hb).trans (h6 i hi).2⟩⟩

set_option maxHeartbeats 800000 in
set_option maxRecDepth 100000 in
theorem l11Ops_any (p : Nat) (a : Option Addr) (n cap : Nat) (bs : List Int) (k : Nat) (w : World) (hk : k ≤ 1000) (hr : RdAt w p a n cap bs k) :
    Calls Try.prog 21 #[.pointer (some ⟨p, 0, none⟩)] w fun e w' => ∃ a' m c k', e = .returned (.slice a' m c) ∧ m ≤ 24 ∧ OpsFrom w.heap.size w' a' m ∧ k' ≤ k + 40 ∧ RdAt w' p a n cap bs k' ∧ Mv p w w' := by
  have HR : Hid (RdAt w p a n cap bs k) := hr
  have hp := hr.lt
  clear hr
  go_enter Try.func21, Try.ntmps21
  go_wp2_with fail
  refine (l11Nodes_any p a n cap bs k w hk HR.out).mono ?_
  rintro e w1 ⟨v, l, k1, rfl, hgood, hown, hk1, hr1, hm1⟩
  obtain ⟨la, lcap, rfl, hnds⟩ := OwnNd.is hown
  have HG : Hid (Good l) := hgood
  have HN : Hid (IsNds w1.heap.size w1 la l.length l) := hnds
  have HR1 : Hid (RdAt w1 p a n cap bs k1) := hr1
  have HM1 : Hid (Mv p w w1) := hm1
  obtain ⟨t, lv, hshow, hl24, _⟩ := good_show hgood
  have HSH : Hid (showTo l l.length = some [(t, lv)]) := hshow
  have hsz1 := hm1.size
  clear hgood hown hnds hr1 hm1 hshow HR
  go_wp2_with fail
  refine (l2Of_any (w1.heap.size + 1) la l.length lcap l (some ⟨w1.heap.size, 0, none⟩) 4 4 four _ (by simp) HG.out (by exact (HN.out.below ((Below.refl _ _).alloc (Nat.le_refl _) _)).mono (by omega)) (by exact four_new w1 _) (by decide) (by decide)).mono ?_
  rintro e w2 ⟨hres, hb2⟩
  have HB2 : Hid (Below w1.heap.size w1 w2) := ((Below.refl _ _).alloc (Nat.le_refl _) _).trans (hb2.mono (by simp))
  have HR2 : Hid (RdAt w2 p a n cap bs k1) := HR1.out.below HB2.out
  have HM2 : Hid (Mv p w w2) := HM1.out.trans (Mv.of_below HB2.out)
  have hsz2 : w.heap.size ≤ w2.heap.size := HM2.out.size
  cases hc : codeM four l with
  | none =>
    rw [hc] at hres
    subst hres
    clear hb2 hc HB2 HR1 HM1
    go_wp2_with fail
    go_ret
    have HB3 : Below w2.heap.size w2 (w2.alloc (.cells #[.int .i64 1, .int .i64 1] 53)) := (Below.refl _ _).alloc (Nat.le_refl _) _
    refine ⟨_, 1, 1, k1, rfl, by decide, ⟨w2.heap.size, 0, rfl, hsz2, by simp, [(1, 1)], rfl, .inr ⟨w2.heap.size, 0, rfl, by simp, fun i hi => ?_⟩⟩, by omega, HR2.out.below HB3, HM2.out.trans (Mv.of_below HB3)⟩
    have : i = 0 := by omega
    subst this
    simp
  | some st =>
    rw [hc] at hres
    obtain ⟨v', rfl, hown⟩ := hres
    obtain ⟨i1, i2, _⟩ := code_len HG.out l.length (Nat.le_refl _) hc HSH.out
    simp only [List.length_cons, List.length_nil] at i2
    match st, i2 with
    | z :: r, _ =>
      obtain ⟨g, c, rfl, hg1, hg2, hcc⟩ := hown.at
      have HROW : Hid (OpRowAt w.heap.size w2 g (r.length + 1)) := by
        have := hown.row (n := r.length + 1) rfl
        exact ⟨by have := this.ge; simp at this; omega, this.lt, this.ints, this.open_⟩
      obtain ⟨m, hm⟩ : ∃ m, r.length + 1 = m := ⟨_, rfl⟩
      have hm1 : 1 ≤ m := by omega
      have hm24 : m ≤ 24 := by simp at i1; omega
      rw [hm] at HROW hcc ⊢
      have hpg : p < g := by have := HROW.out.ge; omega
      have hgw : w.heap.size ≤ g := HROW.out.ge
      clear hb2 hc HB2 HR1 HM1 hown hm i1
      go_wp2_with fail
      refine (pick_any p a n cap bs k1 m _ (by omega) (by omega) HR2.out).mono ?_
      rintro e w3 ⟨v3, rfl, v3a, v3b, d3, hw3⟩
      have v3c : v3 < m := v3b (by omega)
      have HR3 : Hid (RdAt w3 p a n cap bs (k1 + 1)) := by rw [hw3]; exact HR2.out.step d3
      have HM3 : Hid (Mv p w w3) := HM2.out.trans (by rw [hw3]; exact Mv.step _ _ _ _)
      have HW3 : Hid (OpRowAt w.heap.size w3 g m) := HROW.out.mv hp (by rw [hw3]; exact Mv.step _ _ _ _)
      clear hw3 v3b HR2 HM2 HROW
      obtain ⟨q, rfl⟩ : ∃ q : Nat, v3 = q := ⟨v3.toNat, by omega⟩
      go_wp2_with fail
      refine (pick_any p a n cap bs (k1 + 1) 10 _ (by omega) (by decide) HR3.out).mono ?_
      rintro e w4 ⟨v4, rfl, v4a, v4b, d4, hw4⟩
      have HR4 : Hid (RdAt w4 p a n cap bs (k1 + 1 + 1)) := by rw [hw4]; exact HR3.out.step d4
      have HM4 : Hid (Mv p w w4) := HM3.out.trans (by rw [hw4]; exact Mv.step _ _ _ _)
      have HW4 : Hid (OpRowAt w.heap.size w4 g m) := HW3.out.mv hp (by rw [hw4]; exact Mv.step _ _ _ _)
      have hgl4 := HW4.out.lt
      clear hw4 v4b HR3 HM3 HW3
      by_cases h0 : v4 = 0
      · subst h0
        go_wp2_with fail
        refine (pick_any p a n cap bs (k1 + 1 + 1) 15 _ (by omega) (by decide) HR4.out).mono ?_
        rintro e w5 ⟨v5, rfl, v5a, v5b, d5, hw5⟩
        have HR5 : Hid (RdAt w5 p a n cap bs (k1 + 1 + 1 + 1)) := by rw [hw5]; exact HR4.out.step d5
        have HM5 : Hid (Mv p w w5) := HM4.out.trans (by rw [hw5]; exact Mv.step _ _ _ _)
        have HW5 : Hid (OpRowAt w.heap.size w5 g m) := HW4.out.mv hp (by rw [hw5]; exact Mv.step _ _ _ _)
        clear hw5 v5b HR4 HM4 HW4
        obtain ⟨x5, c5⟩ := HW5.out.ints (q * 2) (by omega)
        have f5 := HW5.out.open_ (q * 2)
        go_wp2_with fail
        go_ret
        have HW6 := HW5.out.set (q * 2) (by omega) v5
        obtain ⟨zs, hzs⟩ := HW6.ops 0 m (by omega)
        exact ⟨_, m, c, _, rfl, hm24, ⟨g, 0, rfl, hgw, HW6.lt, zs, hzs⟩, by omega, HR5.out.set g _ _ hpg, HM5.out.set g _ _ hgw⟩
      · have e0 : (v4 == 0) = false := by simp [h0]
        by_cases h1 : v4 = 1
        · subst h1
          go_wp2_with fail
          refine (one_newI w4 p a n cap bs (k1 + 1 + 1) [-1, 0, 3, 4, 2147483648, -2147483648] 3 6 (by omega) HR4.out rfl (by decide) (by decide)).mono ?_
          rintro e w5 ⟨v5, rfl, _, hr5, hm5⟩
          have HR5 : Hid (RdAt w5 p a n cap bs (k1 + 1 + 1 + 1)) := hr5
          have HM5 : Hid (Mv p w w5) := HM4.out.trans hm5
          have HW5 : Hid (OpRowAt w.heap.size w5 g m) := HW4.out.mv hp hm5
          clear hr5 hm5 HR4 HM4 HW4
          obtain ⟨x5, c5⟩ := HW5.out.ints (q * 2 + 1) (by omega)
          have f5 := HW5.out.open_ (q * 2 + 1)
          go_wp2_with fail
          go_ret
          have HW6 := HW5.out.set (q * 2 + 1) (by omega) v5
          obtain ⟨zs, hzs⟩ := HW6.ops 0 m (by omega)
          exact ⟨_, m, c, _, rfl, hm24, ⟨g, 0, rfl, hgw, HW6.lt, zs, hzs⟩, by omega, HR5.out.set g _ _ hpg, HM5.out.set g _ _ hgw⟩
        · have e1 : (v4 == 1) = false := by simp [h1]
          by_cases h2 : v4 = 2
          · subst h2
            by_cases hc1 : c = 1
            · have hm1' : m = 1 := by omega
              subst hm1' hc1
              go_wp2_with fail
              go_ret
              exact ⟨_, 0, _, _, rfl, by decide, ⟨g, 0, rfl, hgw, HW4.out.lt, [], rfl, .inl rfl⟩, by omega, HR4.out, HM4.out⟩
            · have hc2 : 2 ≤ c := by omega
              go_wp2_with fail
              go_ret
              obtain ⟨zs, hzs⟩ := HW4.out.ops 1 (m - 1) (by omega)
              exact ⟨_, m - 1, _, _, rfl, by omega, ⟨g, 2, rfl, hgw, HW4.out.lt, zs, hzs⟩, by omega, HR4.out, HM4.out⟩
          · have e2 : (v4 == 2) = false := by simp [h2]
            go_wp2_with fail
            go_ret
            obtain ⟨zs, hzs⟩ := HW4.out.ops 0 m (by omega)
            exact ⟨_, m, c, _, rfl, hm24, ⟨g, 0, rfl, hgw, HW4.out.lt, zs, hzs⟩, by omega, HR4.out, HM4.out⟩

theorem OwnI.ints {B : Nat} {w : World} {v : Value} {l : List Int} (h : OwnI B w v l) : ∃ a c, v = .slice a l.length c ∧ l.length ≤ c ∧ IsInts w.heap.size w a l.length l := by
  have hlt := World.ownsRow.lt h
  have h0 := h
  rcases h.2 with ⟨h1, h2⟩ | ⟨g, cap, cur, h1, _, _, h3, _⟩
  · exact ⟨none, 0, by rw [h1, h2], by omega, rfl, .inl h2⟩
  · refine ⟨_, cap, h1, h3, rfl, .inr ⟨g, 0, rfl, (hlt g (by rw [h1]; rfl)).2, fun i hi => ?_⟩⟩
    unfold OwnI at h0
    rw [h1] at h0
    rw [Nat.zero_add, h0.cellAt i (by omega)]
    simp [hi]

set_option maxHeartbeats 800000 in
set_option maxRecDepth 100000 in
theorem DrawCodeRun_any (a : Option Addr) (n cap : Nat) (bs : List Int) (w : World) (hcap : n ≤ cap) (hn : n ≤ 1048576) (hz : IsBytes w.heap.size w a n bs) :
    Calls Try.prog 7 #[.slice a n cap] w fun e w' => ∃ a1 m1 c1 zs v2 l, e = .returned (.tuple #[.slice a1 m1 c1, v2]) ∧ m1 ≤ 24 ∧ 1 ≤ l.length ∧ l.length ≤ 17 ∧ IsOps w' a1 m1 zs ∧ OwnI w.heap.size w' v2 l ∧ Below w.heap.size w w' := by
  go_enter Try.func7, Try.ntmps7
  go_wp2_with fail
  refine (l11Open_any a n cap bs w hcap hn hz).mono ?_
  rintro e w1 ⟨a', n', cap', bs', rfl, hr1, hb1, hs1⟩
  have HR1 : Hid (RdAt w1 w.heap.size a' n' cap' bs' 0) := hr1
  have HB1 : Hid (Below w.heap.size w w1) := hb1
  clear hr1 hb1
  go_wp2_with fail
  refine (l11Ops_any w.heap.size a' n' cap' bs' 0 w1 (by decide) HR1.out).mono ?_
  rintro e w2 ⟨a1, m1, c1, k1, rfl, hm24, hops, hk1, hr2, hm2⟩
  have HR2 : Hid (RdAt w2 w.heap.size a' n' cap' bs' k1) := hr2
  have HM2 : Hid (Mv w.heap.size w1 w2) := hm2
  have HO2 : Hid (OpsFrom w1.heap.size w2 a1 m1) := hops
  clear hr2 hm2 hops HR1
  go_wp2_with fail
  refine (one_newI w2 w.heap.size a' n' cap' bs' k1 [4, 4, 4, 2, 17] 3 5 (by omega) HR2.out rfl (by decide) (by decide)).mono ?_
  rintro e w3 ⟨y, rfl, hy, hr3, hm3⟩
  have hy17 : 1 ≤ y ∧ y ≤ 17 := by simp at hy; omega
  obtain ⟨q, rfl⟩ : ∃ q : Nat, y = q := ⟨y.toNat, by omega⟩
  have HR3 : Hid (RdAt w3 w.heap.size a' n' cap' bs' (k1 + 1)) := hr3
  have HM3 : Hid (Mv w.heap.size w1 w3) := HM2.out.trans hm3
  have HO3 : Hid (OpsFrom w1.heap.size w3 a1 m1) := HO2.out.mv (by omega) hm3
  clear hr3 hm3 hy HR2 HM2 HO2
  go_wp2_with fail
  refine (l11Vals_any w.heap.size a' n' cap' bs' (k1 + 1) q w3 (by omega) (by omega) HR3.out).mono ?_
  rintro e w4 ⟨v, l, rfl, hl, hown, hr4, hm4⟩
  have HM4 : Hid (Mv w.heap.size w1 w4) := HM3.out.trans hm4
  have HO4 : Hid (OpsFrom w1.heap.size w4 a1 m1) := HO3.out.mv (by omega) hm4
  have HI4 : Hid (OwnI w.heap.size w4 v l) := ownsRow_mono hown (by have := HM3.out.size; omega)
  clear hown hr4 hm4 HM3 HO3 HR3
  go_wp2_with fail
  go_ret2
  obtain ⟨g, off, h1, h2, h3, zs, hzs⟩ := HO4.out
  refine ⟨a1, m1, c1, zs, v, l, rfl, hm24, by omega, by omega, hzs, HI4.out, HB1.out.trans ⟨HM4.out.os, HM4.out.tape, HM4.out.output, HM4.out.size, fun b hb => HM4.out.block b (by omega) (by omega)⟩⟩
end Go.Proofs.Ytmdaiejflolpmaa
