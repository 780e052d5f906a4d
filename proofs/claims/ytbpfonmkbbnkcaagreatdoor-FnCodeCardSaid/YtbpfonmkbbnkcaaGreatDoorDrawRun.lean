/- Drawn nodes, names and values: DrawExprRun. -/
import Derived.Test.YtbpfonmkbbnkcaaGreatDoorLift
import Derived.Test.YtbpfonmkbbnkcaaGreatDoorBunJ
import Derived.Test.YtbpfonmkbbnkcaaGreatDoorBunI
import Derived.OwnWalk
namespace Go.Proofs.YtbpfonmkbbnkcaaGreatDoor
open Go Go.RowKit Go.PlainAid
set_option linter.unusedSimpArgs false
set_option linter.unusedVariables false

def nx : ByteArray := ⟨#[120]⟩
def ny : ByteArray := ⟨#[121]⟩
def nc : ByteArray := ⟨#[99]⟩
def nn : ByteArray := ⟨#[110]⟩
def zzz : ByteArray := ⟨#[122, 122, 122, 122, 122, 122]⟩
/-- the names that are drawn -/
def DrawnNames (names : List ByteArray) : Prop := names = [nx, ny, nc, nn] ∨ names = [nx, ny] ∨ names = [] ∨ names = [nx, nx]
theorem OwnI.ints' {B : Nat} {w : World} {v : Value} {l : List Int} (h : OwnI B w v l) : ∃ a c, v = .slice a l.length c ∧ l.length ≤ c ∧ IsInts w.heap.size w a l.length l := by
  have h0 := h
  obtain ⟨h1, h2⟩ := h
  rcases h2 with ⟨hv, hn⟩ | ⟨g, cap, cur, hv, h3, h4, h5, h6⟩
  · exact ⟨none, 0, by rw [hv, hn], by omega, rfl, .inl hn⟩
  · refine ⟨_, cap, hv, h5, rfl, ?_⟩
    subst hv
    have hlt := (World.ownsRow.lt h0 g rfl).2
    refine .inr ⟨g, 0, rfl, hlt, fun i hi => ?_⟩
    rw [Nat.zero_add, World.ownsRow.cellAt h0 i (by omega)]
    simp [hi]
/-- what is drawn -/
structure Drawn (w w' : World) (b : Option Addr) (m : Nat) (l : List Nd) (a1 : Option Addr) (n1 c1 : Nat) (names : List ByteArray) (a2 : Option Addr) (n2 c2 : Nat) (vals : List Int) : Prop where
  fit : NdFit l
  nds : IsNds w'.heap.size w' b m l
  dn : DrawnNames names
  strs : IsStrs w'.heap.size w' a1 n1 names
  far : ∀ q o, a1 = some ⟨q, o, none⟩ → o = 0 ∧ w.heap.size ≤ q
  ints : IsInts w'.heap.size w' a2 n2 vals
  few : n2 ≤ 5
  own : OwnI w.heap.size w' (.slice a2 n2 c2) vals
  below : Below w.heap.size w w'
theorem IsNds.mv {p : Nat} {w w' : World} {b : Option Addr} {m : Nat} {l : List Nd} {B : Nat} (h : IsNds w.heap.size w b m l) (hfar : ∀ q o, b = some ⟨q, o, none⟩ → B ≤ q) (hp : p < B) (hm : Mv p w w') : IsNds w'.heap.size w' b m l := by
  obtain ⟨h1, h2⟩ := h
  refine ⟨h1, ?_⟩
  rcases h2 with h2 | ⟨q, o, rfl, hlt, hc⟩
  · exact .inl h2
  · have hq := hfar q o rfl
    have he : w'.heap[q]? = w.heap[q]? := hm.block q hlt (by omega)
    refine .inr ⟨q, o, rfl, by have := hm.size; omega, fun i hi => ?_⟩
    obtain ⟨k1, k2, k3⟩ := hc i hi
    exact ⟨(World.cell?_of_block he).trans k1, (World.cell?_of_block he).trans k2, (World.cell?_of_block he).trans k3⟩
theorem IsStrs.mv {p : Nat} {w w' : World} {b : Option Addr} {m : Nat} {l : List ByteArray} {B : Nat} (h : IsStrs w.heap.size w b m l) (hfar : ∀ q o, b = some ⟨q, o, none⟩ → o = 0 ∧ B ≤ q) (hp : p < B) (hm : Mv p w w') : IsStrs w'.heap.size w' b m l := by
  obtain ⟨h1, h2⟩ := h
  refine ⟨h1, ?_⟩
  rcases h2 with h2 | ⟨q, o, rfl, hlt, hc⟩
  · exact .inl h2
  · have hq := (hfar q o rfl).2
    have he : w'.heap[q]? = w.heap[q]? := hm.block q hlt (by omega)
    exact .inr ⟨q, o, rfl, by have := hm.size; omega, fun i hi => (World.cell?_of_block he).trans (hc i hi)⟩

theorem IsNds.mvB {p : Nat} {w w' : World} {b : Option Addr} {m : Nat} {l : List Nd} {B : Nat} (h : IsNds w.heap.size w b m l) (hfar : ∀ q o, b = some ⟨q, o, none⟩ → B ≤ q) (hp : p < B) (hm : Mv p w w') : IsNds w.heap.size w' b m l := by
  obtain ⟨h1, h2⟩ := h
  refine ⟨h1, ?_⟩
  rcases h2 with h2 | ⟨q, o, rfl, hlt, hc⟩
  · exact .inl h2
  · have hq := hfar q o rfl
    have he : w'.heap[q]? = w.heap[q]? := hm.block q hlt (by omega)
    refine .inr ⟨q, o, rfl, hlt, fun i hi => ?_⟩
    obtain ⟨k1, k2, k3⟩ := hc i hi
    exact ⟨(World.cell?_of_block he).trans k1, (World.cell?_of_block he).trans k2, (World.cell?_of_block he).trans k3⟩
theorem IsStrs.mvB {p : Nat} {w w' : World} {b : Option Addr} {m : Nat} {l : List ByteArray} {B : Nat} (h : IsStrs w.heap.size w b m l) (hfar : ∀ q o, b = some ⟨q, o, none⟩ → o = 0 ∧ B ≤ q) (hp : p < B) (hm : Mv p w w') : IsStrs w.heap.size w' b m l := by
  obtain ⟨h1, h2⟩ := h
  refine ⟨h1, ?_⟩
  rcases h2 with h2 | ⟨q, o, rfl, hlt, hc⟩
  · exact .inl h2
  · have hq := (hfar q o rfl).2
    have he : w'.heap[q]? = w.heap[q]? := hm.block q hlt (by omega)
    exact .inr ⟨q, o, rfl, hlt, fun i hi => (World.cell?_of_block he).trans (hc i hi)⟩

set_option maxHeartbeats 1600000 in
set_option maxRecDepth 100000 in
theorem DrawExprRun_any (a : Option Addr) (n cap : Nat) (bs : List Int) (w : World) (hc : n ≤ cap) (hn : n ≤ 1048576) (hz : IsBytes w.heap.size w a n bs) :
    Calls Tryz.prog 19 #[.slice a n cap] w fun e w' => ∃ b m c l a1 n1 c1 names a2 n2 c2 vals, e = .returned (.tuple #[.slice b m c, .slice a1 n1 c1, .slice a2 n2 c2]) ∧ Drawn w w' b m l a1 n1 c1 names a2 n2 c2 vals := by
  have HO := hidOf (l11Open_any a n cap bs w hc hn hz)
  obtain ⟨i0, hi, hz0, hz1, hz2⟩ := info_parts infoInt
  clear hz
  go_enter Tryz.func19, Tryz.ntmps19
  go_wp2_with fail
  refine HO.out.mono ?_
  rintro e w1 ⟨a1, n1, c1, bs1, rfl, hr1, hb1, hs1⟩
  have HB1 : Hid (Below w.heap.size w w1) := hb1
  have HA := hidOf (l11AnyNodes_any w.heap.size a1 n1 c1 bs1 0 w1 (by omega) hr1)
  clear hr1 hb1 HO
  go_wp2_with fail
  refine HA.out.mono ?_
  rintro e w2 ⟨b, m, c, l, k2, rfl, hf, hmc, hi2, hfar, hk2, hr2, hm2⟩
  have HF : Hid (NdFit l) := hf
  have HFar : Hid (∀ q o, b = some ⟨q, o, none⟩ → w1.heap.size ≤ q) := hfar
  have HI2 : Hid (IsNds w2.heap.size w2 b m l) := hi2
  have HR2 : Hid (RdAt w2 w.heap.size a1 n1 c1 bs1 k2) := hr2
  have HM2 : Hid (Mv w.heap.size w1 w2) := hm2
  have hs2 := hm2.size
  clear hf hi2 hr2 hm2 HA hfar
  obtain ⟨W, hW⟩ : ∃ W, W = (((w2.alloc (.cells #[.string ⟨#[120]⟩, .string ⟨#[121]⟩, .string ⟨#[99]⟩, .string ⟨#[110]⟩] 9)).alloc (.cells #[.string ⟨#[120]⟩, .string ⟨#[121]⟩] 9)).alloc (.cells #[.string ⟨#[120]⟩, .string ⟨#[120]⟩] 9)).alloc (.cells #[.slice (some ⟨w2.heap.size, 0, none⟩) 4 4, .slice (some ⟨w2.heap.size + 1, 0, none⟩) 2 2, .slice none 0 0, .slice (some ⟨w2.heap.size + 2, 0, none⟩) 2 2] 31) := ⟨_, rfl⟩
  have HW : Hid (W = (((w2.alloc (.cells #[.string ⟨#[120]⟩, .string ⟨#[121]⟩, .string ⟨#[99]⟩, .string ⟨#[110]⟩] 9)).alloc (.cells #[.string ⟨#[120]⟩, .string ⟨#[121]⟩] 9)).alloc (.cells #[.string ⟨#[120]⟩, .string ⟨#[120]⟩] 9)).alloc (.cells #[.slice (some ⟨w2.heap.size, 0, none⟩) 4 4, .slice (some ⟨w2.heap.size + 1, 0, none⟩) 2 2, .slice none 0 0, .slice (some ⟨w2.heap.size + 2, 0, none⟩) 2 2] 31)) := hW
  have HBW : Hid (Below w2.heap.size w2 W) := by
    show Below _ _ _
    rw [hW]; exact ((((Below.refl _ _).alloc (Nat.le_refl _) _).alloc (by simp) _).alloc (by simp; omega) _).alloc (by simp; omega) _
  have HX : Hid (∀ V : Nat, V < 4 → ∃ aa na ca names, W.cell? ⟨w2.heap.size + 1 + 1 + 1, V, none⟩ = some (.slice aa na ca) ∧ DrawnNames names ∧ IsStrs W.heap.size W aa na names ∧ (∀ q o, aa = some ⟨q, o, none⟩ → o = 0 ∧ w2.heap.size ≤ q) ∧ na ≤ 4 ∧ na ≤ ca) := by
    intro V hV
    have hV' : V = 0 ∨ V = 1 ∨ V = 2 ∨ V = 3 := by omega
    rcases hV' with rfl | rfl | rfl | rfl
    · refine ⟨some ⟨w2.heap.size, 0, none⟩, 4, 4, [nx, ny, nc, nn], by rw [hW]; simp [go_sem], .inl rfl, ⟨rfl, .inr ⟨w2.heap.size, 0, rfl, by rw [hW]; simp <;> omega, fun i hi => ?_⟩⟩, (fun q o e => by cases e; exact ⟨rfl, Nat.le_refl _⟩), by omega, by omega⟩
      have hi' : i = 0 ∨ i = 1 ∨ i = 2 ∨ i = 3 := by simp at hi; omega
      rw [hW]
      rcases hi' with rfl | rfl | rfl | rfl <;> simp [go_sem, nx, ny, nc, nn]
    · refine ⟨some ⟨w2.heap.size + 1, 0, none⟩, 2, 2, [nx, ny], by rw [hW]; simp [go_sem], .inr (.inl rfl), ⟨rfl, .inr ⟨w2.heap.size + 1, 0, rfl, by rw [hW]; simp <;> omega, fun i hi => ?_⟩⟩, (fun q o e => by cases e; exact ⟨rfl, by omega⟩), by omega, by omega⟩
      have hi' : i = 0 ∨ i = 1 := by simp at hi; omega
      rw [hW]
      rcases hi' with rfl | rfl <;> simp [go_sem, nx, ny]
    · exact ⟨none, 0, 0, [], by rw [hW]; simp [go_sem], .inr (.inr (.inl rfl)), ⟨rfl, .inl rfl⟩, (fun q o e => by cases e), by omega, by omega⟩
    · refine ⟨some ⟨w2.heap.size + 2, 0, none⟩, 2, 2, [nx, nx], by rw [hW]; simp [go_sem], .inr (.inr (.inr rfl)), ⟨rfl, .inr ⟨w2.heap.size + 2, 0, rfl, by rw [hW]; simp <;> omega, fun i hi => ?_⟩⟩, (fun q o e => by cases e; exact ⟨rfl, by omega⟩), by omega, by omega⟩
      have hi' : i = 0 ∨ i = 1 := by simp at hi; omega
      rw [hW]
      rcases hi' with rfl | rfl <;> simp [go_sem, nx]
  have hsW : W.heap.size = w2.heap.size + 4 := by rw [hW]; simp
  clear hW
  go_wp2_with fail
  rw [← HW.out]
  have HRW : Hid (RdAt W w.heap.size a1 n1 c1 bs1 k2) := HR2.out.below HBW.out
  refine (pick_any w.heap.size a1 n1 c1 bs1 k2 4 _ (by omega) (by decide) HRW.out).mono ?_
  rintro e w3 ⟨v, rfl, v0, v1, d3, hw3⟩
  have v2 := v1 (by decide)
  have HR3 : Hid (RdAt w3 w.heap.size a1 n1 c1 bs1 (k2 + 1)) := by rw [hw3]; exact HRW.out.step d3
  have HMV3 : Hid (Mv w.heap.size W w3) := by rw [hw3]; exact Mv.step _ _ _ _
  clear hw3 v1 HW HR2
  obtain ⟨V, rfl⟩ : ∃ V : Nat, v = V := ⟨v.toNat, by omega⟩
  obtain ⟨aa, na, ca, names, hcell, hdn, hstr, hfar, hna, hnca⟩ := HX.out V (by omega)
  have hcell3 : w3.cell? ⟨w2.heap.size + 1 + 1 + 1, V, none⟩ = some (.slice aa na ca) := (World.cell?_of_block (HMV3.out.block (w2.heap.size + 1 + 1 + 1) (by omega) (by omega))).trans hcell
  have HS3 : Hid (IsStrs w3.heap.size w3 aa na names) := IsStrs.mv (B := w.heap.size + 1) hstr (fun q o e => ⟨(hfar q o e).1, by have := (hfar q o e).2; omega⟩) (by omega) HMV3.out
  have HDN : Hid (DrawnNames names) := hdn
  have HF1 : Hid (∀ q o, aa = some ⟨q, o, none⟩ → o = 0 ∧ w.heap.size + 1 ≤ q) := fun q o e => ⟨(hfar q o e).1, by have := (hfar q o e).2; omega⟩
  have HI3 : Hid (IsNds w3.heap.size w3 b m l) := IsNds.mv (B := w.heap.size + 1) (HI2.out.below HBW.out |>.mono HBW.out.size) (fun q o e => by have := HFar.out q o e; omega) (by omega) HMV3.out
  have HB3 : Hid (Below w.heap.size w w3) := Mv.fresh HB1.out ((HM2.out.trans (Mv.of_below HBW.out)).trans HMV3.out)
  have hs3 := HMV3.out.size
  clear hcell hstr hdn hfar HX HI2 HBW HRW HMV3 HM2 HB1
  go_wp2_with fail
  refine (one_newI w3 w.heap.size a1 n1 c1 bs1 (k2 + 1) [4, 4, 4, 1, 0] 3 5 (by omega) HR3.out rfl (by decide) (by decide)).mono ?_
  rintro e w4 ⟨y, rfl, hy, hr4, hm4⟩
  have hY : 0 ≤ y ∧ y ≤ 4 := by
    simp only [List.mem_cons, List.not_mem_nil, or_false] at hy
    rcases hy with rfl | rfl | rfl | rfl | rfl <;> decide
  obtain ⟨Y, rfl⟩ : ∃ Y : Nat, y = Y := ⟨y.toNat, by omega⟩
  have HR4 : Hid (RdAt w4 w.heap.size a1 n1 c1 bs1 (k2 + 1 + 1)) := hr4
  have HM4 : Hid (Mv w.heap.size w3 w4) := hm4
  clear hy hr4 hm4 hcell3
  go_wp2_with fail
  refine (l11Vals_any w.heap.size a1 n1 c1 bs1 (k2 + 1 + 1) Y w4 (by omega) (by omega) HR4.out).mono ?_
  rintro e w5 ⟨u, vals, rfl, hvl, hown, hr5, hm5⟩
  have HR5 : Hid (RdAt w5 w.heap.size a1 n1 c1 bs1 (k2 + 1 + 1 + Y)) := hr5
  have HM5 : Hid (Mv w.heap.size w3 w5) := HM4.out.trans hm5
  have HU5 : Hid (OwnI w3.heap.size w5 u vals) := ownsRow_mono hown HM4.out.size
  clear hown hr5 hm5 HM4
  go_wp2_with fail
  refine (pick_any w.heap.size a1 n1 c1 bs1 (k2 + 1 + 1 + Y) 16 _ (by omega) (by decide) HR5.out).mono ?_
  rintro e w6 ⟨z, rfl, z0, z1, d6, hw6⟩
  have HMS : Hid (Mv w.heap.size w5 w6) := by rw [hw6]; exact Mv.step _ _ _ _
  have HM6 : Hid (Mv w.heap.size w3 w6) := HM5.out.trans HMS.out
  have HU6 : Hid (OwnI w3.heap.size w6 u vals) := HU5.out.mv (by omega) HMS.out
  have HO6 : Hid (OwnI w.heap.size w6 u vals) := ownsRow_mono HU6.out (by omega)
  have HI6 : Hid (IsNds w3.heap.size w6 b m l) := IsNds.mvB (B := w.heap.size + 1) HI3.out (fun q o e => by have := HFar.out q o e; omega) (by omega) HM6.out
  have HS6 : Hid (IsStrs w3.heap.size w6 aa na names) := IsStrs.mvB (B := w.heap.size + 1) HS3.out HF1.out (by omega) HM6.out
  have HB6 : Hid (Below w.heap.size w w6) := Mv.fresh HB3.out HM6.out
  have hs36 := HM6.out.size
  clear hw6 z1 HMS HM5 HM6 HU5 HI3 HS3 HB3 HR5 HR4 HR3
  obtain ⟨a6, c6, rfl, hc6, hints6⟩ := OwnI.ints' HO6.out
  have HJ6 : Hid (IsInts w6.heap.size w6 a6 Y vals) := by
    show IsInts _ _ _ _ _
    rw [← hvl]; exact hints6
  rw [hvl] at HO6 HU6 hc6 ⊢
  clear hints6
  have hs6 := HB6.out.size
  by_cases hz16 : z = 0
  · subst hz16
    have HR6 : Hid (w6.ownsRow w3.heap.size 3 1 (.slice a6 Y c6) Y (vals.map (Value.int .i64))) := by
      show World.ownsRow _ _ _ _ _ _ _
      have := HU6.out
      unfold OwnI at this
      rw [hvl] at this; exact this
    go_wp2_with (at_builtin; (refine wpList_append_own _ rfl (.tmp 29) (.tmp 30) 32 rfl w3.heap.size 3 i0 (.int .i64 0) 1 8 Tryz.underlying32 hi hz0 hz1 hz2 rfl (by decide) _ Y (vals.map (Value.int .i64)) rfl (by exact (HR6.out.alloc _)) ⟨w6.heap.size, 0, none⟩ 1 1 [.int .i64 2147483648] rfl rfl (by exact one_new _ _ _) (by intro u hu; simp at hu; subst hu; rfl) (by unfold maxLen; omega) (by omega) (by simp; omega) ?_))
    intro v7 w7 hown7 hgrow7 _
    have HB76 : Hid (Below w3.heap.size w6 w7) := ((Below.refl w3.heap.size w6).alloc hs36 _).grown hgrow7 (by simp; omega) (fun q hq => (World.ownsRow.lt HR6.out q hq).1)
    have HO7 : Hid (OwnI w3.heap.size w7 v7 (vals ++ [2147483648])) := by
      show World.ownsRow _ _ _ _ _ _ _
      simpa [hvl] using hown7
    obtain ⟨a7, c7, rfl, hc7, hints7⟩ := OwnI.ints' HO7.out
    have hl7 : (vals ++ [2147483648]).length = Y + 1 := by rw [List.length_append, hvl]; rfl
    have HJ7 : Hid (IsInts w7.heap.size w7 a7 (Y + 1) (vals ++ [2147483648])) := by
      show IsInts _ _ _ _ _
      rw [← hl7]; exact hints7
    rw [hl7] at HO7 ⊢
    have hs67 := HB76.out.size
    clear hints7 hl7 hown7 hgrow7 hc7
    go_wp2_with fail
    go_ret3
    exact ⟨b, m, c, l, aa, na, ca, names, a7, Y + 1, c7, vals ++ [2147483648], rfl, ⟨HF.out, (HI6.out.below HB76.out).mono (by omega), HDN.out, (HS6.out.below HB76.out).mono (by omega), (fun q o e => ⟨(HF1.out q o e).1, by have := (HF1.out q o e).2; omega⟩), HJ7.out, by omega, ownsRow_mono HO7.out (by omega), HB6.out.trans (HB76.out.mono (by omega))⟩⟩
  · have e0 : (z == 0) = false := by simp [hz16]
    go_wp2_with fail
    go_ret3
    exact ⟨b, m, c, l, aa, na, ca, names, a6, Y, c6, vals, rfl, ⟨HF.out, HI6.out.mono hs36, HDN.out, HS6.out.mono hs36, (fun q o e => ⟨(HF1.out q o e).1, by have := (HF1.out q o e).2; omega⟩), HJ6.out, by omega, HO6.out, HB6.out⟩⟩
end Go.Proofs.YtbpfonmkbbnkcaaGreatDoor
