/- Beats as they lie in memory: three numbers each. -/
import Derived.Test.YtlpdilmdhfemdaaArrMem
import Derived.Test.YtlpdilmdhfemdaaSmall
import Derived.Test.YtlpdilmdhfemdaaOpenMem
import Derived.Deep.RegionHeld3
namespace Go.Proofs.Ytlpdilmdhfemdaa
open Go Go.ChangeShapes Go.WideShapes Go.ChangeAt Go.RowKit Go.Deep Go.PlainAid
set_option linter.unusedSimpArgs false
set_option linter.unusedVariables false

/-- a source, a time from which on, and how far apart -/
abbrev Bt := Int × Int × Int
def QBt (_ : Nat) (_ : World) (cs : List Value) (x : Bt) : Prop := cs = [.int .i64 x.1, .int .i64 x.2.1, .int .i64 x.2.2]
abbrev IsBts (B : Nat) (w : World) (a : Option Addr) (n : Nat) (l : List Bt) : Prop := IsArr 3 QBt B w a n l
theorem IsArr.belowBt {B : Nat} {w w' : World} {a : Option Addr} {n : Nat} {l : List Bt} (h : IsBts B w a n l) (hb : Below B w w') : IsBts B w' a n l := h.below (fun _ _ q => q) hb
theorem IsArr.monoBt {B B' : Nat} {w : World} {a : Option Addr} {n : Nat} {l : List Bt} (h : IsBts B w a n l) (hb : B ≤ B') : IsBts B' w a n l := h.mono (fun _ _ q => q) hb
/-- one of them, cell by cell -/
theorem bts_at {B : Nat} {w : World} {a : Option Addr} {n : Nat} {l : List Bt} (h : IsBts B w a n l) {k : Nat} (hk : k < n) (hl : k < l.length) : ∃ b off, a = some ⟨b, off, none⟩ ∧ b < B ∧ w.cell? ⟨b, off + k * 3, none⟩ = some (.int .i64 (l[k]).1) ∧ w.cell? ⟨b, off + k * 3 + 1, none⟩ = some (.int .i64 (l[k]).2.1) ∧ w.cell? ⟨b, off + k * 3 + 2, none⟩ = some (.int .i64 (l[k]).2.2) := by
  obtain ⟨b, off, cs, rfl, hb, hq, hc⟩ := h.at hk hl
  obtain rfl := hq
  exact ⟨b, off, rfl, hb, hc 0 _ rfl, hc 1 _ rfl, hc 2 _ rfl⟩

/-- the flat cells of beats -/
def btCell (l : List Bt) (j : Nat) : Value := if j % 3 = 0 then .int .i64 (l.getD (j / 3) (0, 0, 0)).1 else if j % 3 = 1 then .int .i64 (l.getD (j / 3) (0, 0, 0)).2.1 else .int .i64 (l.getD (j / 3) (0, 0, 0)).2.2
theorem btCell0 (l : List Bt) (k : Nat) : btCell l (k * 3) = .int .i64 (l.getD k (0, 0, 0)).1 := by
  unfold btCell; rw [if_pos (by omega), show k * 3 / 3 = k from by omega]
theorem btCell1 (l : List Bt) (k : Nat) : btCell l (k * 3 + 1) = .int .i64 (l.getD k (0, 0, 0)).2.1 := by
  unfold btCell; rw [if_neg (by omega), if_pos (by omega), show (k * 3 + 1) / 3 = k from by omega]
theorem btCell2 (l : List Bt) (k : Nat) : btCell l (k * 3 + 2) = .int .i64 (l.getD k (0, 0, 0)).2.2 := by
  unfold btCell; rw [if_neg (by omega), if_neg (by omega), show (k * 3 + 2) / 3 = k from by omega]
theorem getD_at {α : Type} (l : List α) (k : Nat) (d : α) (h : k < l.length) : l.getD k d = l[k] := by simp [h]

theorem infoBt : (Try.prog.info? 34).map (fun i => (i.zero, i.size, i.bytes)) = some (some (.agg #[.int .i64 0, .int .i64 0, .int .i64 0]), 3, 24) := by kernel_rfl

theorem toBeat_any (x y z : Int) (w : World) : Calls Try.prog 38 #[.agg #[.int .i64 x, .int .i64 y, .int .i64 z]] w fun e w' => e = .returned (.agg #[.int .i64 x, .int .i64 y, .int .i64 z]) ∧ Below w.heap.size w w' := by
  go_enter Try.func38, Try.ntmps38
  go_wp2
  go_returns
  refine ⟨rfl, ?_⟩
  go_grown
set_option maxHeartbeats 800000 in
theorem toBeatS_any (B : Nat) (a : Option Addr) (n cap : Nat) (l : List Bt) (w : World) (hn : n ≤ 1048576) (hB : B ≤ w.heap.size) (hz : IsBts B w a n l) :
    Calls Try.prog 19 #[.slice a n cap] w fun e w' => ∃ b, e = .returned (.slice (some ⟨b, 0, none⟩) n n) ∧ w.heap.size ≤ b ∧ b < w'.heap.size ∧ (∀ j, w'.frozen? ⟨b, j, none⟩ = false) ∧ IsBts w'.heap.size w' (some ⟨b, 0, none⟩) n l ∧ Below w.heap.size w w' := by
  have hlen := hz.1
  have HZ := hidOf hz
  clear hz
  obtain ⟨i0, hi, hz0, hz1, hz2⟩ := info_parts infoBt
  have hmk : ∀ u : World, (Instr.makeSlice 23 (.int .i64 (n : Int)) (.int .i64 (n : Int))).run Try.prog u =
      .ok (.slice (some ⟨u.heap.size, 0, none⟩) n n) (u.alloc (.cells (madeCells #[.int .i64 0, .int .i64 0, .int .i64 0] (n * 3)) 34)) := fun u => by
    have h := run_make (P := Try.prog) u 23 34 i0 (.agg #[.int .i64 0, .int .i64 0, .int .i64 0]) Try.underlying23 hi hz0 .i64 .i64 (n : Int) (n : Int) (by omega) (Int.le_refl _) (by rw [hz2]; omega) (by omega)
    have e : ((n : Int)).toNat = n := by omega
    rw [e] at h
    simpa [hz1, Value.cells] using h
  go_enter Try.func19, Try.ntmps19
  go_wp2
  go_loopw [4] (fun i wr => ∃ k : Nat, k ≤ n ∧ i = .int .i64 k ∧ Fill w.heap.size w wr (n * 3) (k * 3) (btCell l)) (fun i _ => n - (intOf i).toNat)
  case atStart =>
    have h := Fill.start w (madeCells #[.int .i64 0, .int .i64 0, .int .i64 0] (n * 3)) 34 (btCell l)
    rw [size_madeCells] at h
    exact ⟨0, Nat.zero_le _, rfl, h⟩
  case round =>
    obtain ⟨k, hk, rfl, hfill⟩ := hrel
    by_cases hlt : k < n
    · obtain ⟨b, off, rfl, hb, q0, q1, q2⟩ := bts_at HZ.out hlt (show k < l.length by omega)
      have c0 := (hfill.below.cell (p := ⟨b, off + k * 3, none⟩) (Nat.lt_of_lt_of_le hb hB)).trans q0
      have c1 := (hfill.below.cell (p := ⟨b, off + k * 3 + 1, none⟩) (Nat.lt_of_lt_of_le hb hB)).trans q1
      have c2 := (hfill.below.cell (p := ⟨b, off + k * 3 + 2, none⟩) (Nat.lt_of_lt_of_le hb hB)).trans q2
      obtain ⟨v0, f0⟩ := hfill.there (k * 3) (by omega)
      obtain ⟨v1, f1⟩ := hfill.there (k * 3 + 1) (by omega)
      obtain ⟨v2, f2⟩ := hfill.there (k * 3 + 2) (by omega)
      have e0 := btCell0 l k
      have e1 := btCell1 l k
      have e2 := btCell2 l k
      rw [getD_at l k _ (by omega)] at e0 e1 e2
      obtain ⟨x, hx⟩ : ∃ x, l[k]'(by omega) = x := ⟨_, rfl⟩
      rw [hx] at c0 c1 c2 e0 e1 e2
      have HE0 := hidOf e0
      have HE1 := hidOf e1
      have HE2 := hidOf e2
      obtain ⟨x0, x1, x2⟩ := x
      have hfz := hfill.open_
      have hsz := hfill.lt
      clear hmk q0 q1 q2 e0 e1 e2 hx
      go_wp2_with (go_at_call 38; refine (toBeat_any _ _ _ _).mono ?_; rintro e w' ⟨rfl, hb1⟩; obtain ⟨hc', hf'⟩ := bcell hb1)
      go_roundw
      case rel => exact ⟨k + 1, by omega, by go_num, by
        rw [show (k + 1) * 3 = k * 3 + 1 + 1 + 1 from by omega]
        exact (((hfill.call hb1).store (by omega) HE0.out.symm).store (by omega) HE1.out.symm).store (by omega) HE2.out.symm⟩
      case measure => simp [intOf]; omega
    · have : k = n := by omega
      subst this
      go_wp2
      go_ret
      refine ⟨_, rfl, Nat.le_refl _, hfill.lt, hfill.open_, ⟨hlen, .inr ⟨_, _, rfl, hfill.lt, fun i hi => ⟨_, rfl, fun j u hu => ?_⟩⟩⟩, hfill.below⟩
      have e0 := btCell0 l i
      have e1 := btCell1 l i
      have e2 := btCell2 l i
      rw [getD_at l i _ hi] at e0 e1 e2
      have d0 := (hfill.done (i * 3) (by omega)).trans (congrArg some e0)
      have d1 := (hfill.done (i * 3 + 1) (by omega)).trans (congrArg some e1)
      have d2 := (hfill.done (i * 3 + 2) (by omega)).trans (congrArg some e2)
      rcases j with _ | _ | _ | j
      · simp at hu; subst hu; exact ⟨by omega, by simpa using d0⟩
      · simp at hu; subst hu; exact ⟨by omega, by simpa using d1⟩
      · simp at hu; subst hu; exact ⟨by omega, by simpa using d2⟩
      · simp at hu

theorem szBeatS_any (a : Option Addr) (n cap : Nat) (left : Int) (w : World) (h0 : 0 ≤ left) (h1 : left ≤ 1048576) (hn : n ≤ 9223372036854775807) :
    Calls Try.prog 18 #[.slice a n cap, .int .i64 left] w fun e w' => e = .returned (.int .i64 (if left < n then -1 else left - n)) ∧ w' = w := by
  by_cases h : left < n
  · go_enter Try.func18, Try.ntmps18
    go_wp2
    go_ret
    exact ⟨rfl, rfl⟩
  · go_enter Try.func18, Try.ntmps18
    go_wp2
    go_ret
    exact ⟨rfl, rfl⟩
end Go.Proofs.Ytlpdilmdhfemdaa
