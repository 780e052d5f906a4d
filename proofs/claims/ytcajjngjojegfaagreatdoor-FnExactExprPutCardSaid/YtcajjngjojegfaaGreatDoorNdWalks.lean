/- The walks for nodes: how many there are, copies, comparisons. -/
import Derived.Test.YtcajjngjojegfaaGreatDoorParSame
namespace Go.Proofs.YtcajjngjojegfaaGreatDoor
open Go.RowKit Go.PlainAid
set_option linter.unusedSimpArgs false
set_option linter.unusedVariables false

theorem toNode_any (x y : Int) (z : ByteArray) (w : World) : Calls Tryz.prog 65 #[.agg #[.int .i64 x, .int .i64 y, .string z]] w fun e w' => e = .returned (.agg #[.int .i64 x, .int .i64 y, .string z]) ∧ Below w.heap.size w w' := by
  go_enter Tryz.func65, Tryz.ntmps65
  go_wp2
  go_returns
  refine ⟨rfl, ?_⟩
  go_grown
theorem eqNode_same (x y : Int) (z : ByteArray) (w : World) : Calls Tryz.prog 62 #[.agg #[.int .i64 x, .int .i64 y, .string z], .agg #[.int .i64 x, .int .i64 y, .string z]] w fun e w' => e = .returned (.bool true) ∧ Below w.heap.size w w' := by
  go_enter Tryz.func62, Tryz.ntmps62
  go_wp2
  go_ret
  refine ⟨ret_bool (by simp), ?_⟩
  go_grown
theorem szNode_any (x y : Int) (z : ByteArray) (left : Int) (w : World) (h0 : 0 ≤ left) (h1 : left ≤ 1048576) (hz : z.size ≤ 9223372036854775807) :
    Calls Tryz.prog 64 #[.agg #[.int .i64 x, .int .i64 y, .string z], .int .i64 left] w fun e w' => e = .returned (.int .i64 (if left < z.size then -1 else left - z.size)) ∧ Below w.heap.size w w' := by
  have hw : IntKind.i64.wrap (left - z.size) = left - z.size := by rw [IntKind.wrap_i64]; omega
  by_cases h : left < z.size
  · go_enter Tryz.func64, Tryz.ntmps64
    go_wp2
    go_ret
    refine ⟨ret_int rfl, ?_⟩
    go_grown
  · go_enter Tryz.func64, Tryz.ntmps64
    go_wp2
    go_ret
    refine ⟨ret_int rfl, ?_⟩
    go_grown

/-- how much is left behind the names of the first k nodes -/
def leftTo (l : List Nd) (left : Int) : Nat → Int
  | 0 => left
  | k + 1 => leftTo l left k - ((l.getD k (0, 0, noName)).2.2.size : Int)

/-- the flat cells of nodes -/
def ndCell (l : List Nd) (j : Nat) : Value := if j % 3 = 0 then .int .i64 (l.getD (j / 3) (0, 0, noName)).1 else if j % 3 = 1 then .int .i64 (l.getD (j / 3) (0, 0, noName)).2.1 else .string (l.getD (j / 3) (0, 0, noName)).2.2
theorem ndCell_0 (l : List Nd) (k : Nat) : ndCell l (k * 3) = .int .i64 (l.getD k (0, 0, noName)).1 := by
  unfold ndCell; rw [if_pos (by omega), show k * 3 / 3 = k from by omega]
theorem ndCell_1 (l : List Nd) (k : Nat) : ndCell l (k * 3 + 1) = .int .i64 (l.getD k (0, 0, noName)).2.1 := by
  unfold ndCell; rw [if_neg (by omega), if_pos (by omega), show (k * 3 + 1) / 3 = k from by omega]
theorem ndCell_2 (l : List Nd) (k : Nat) : ndCell l (k * 3 + 1 + 1) = .string (l.getD k (0, 0, noName)).2.2 := by
  unfold ndCell; rw [if_neg (by omega), if_neg (by omega), show (k * 3 + 1 + 1) / 3 = k from by omega]
theorem nds_at {l : List Nd} {k : Nat} (h : k < l.length) : l.getD k (0, 0, noName) = l[k] := by
  rw [List.getD_eq_getElem?_getD, List.getElem?_eq_getElem h]; rfl

set_option maxHeartbeats 800000 in
set_option maxRecDepth 100000 in
theorem toNodeS_any (B : Nat) (a : Option Addr) (n cap : Nat) (l : List Nd) (w : World) (hn : n ≤ 1048576) (hB : B ≤ w.heap.size) (hz : IsNds B w a n l) :
    Calls Tryz.prog 33 #[.slice a n cap] w fun e w' => ∃ b, e = .returned (.slice (some ⟨b, 0, none⟩) n n) ∧ w.heap.size ≤ b ∧ IsNds w'.heap.size w' (some ⟨b, 0, none⟩) n l ∧ Below w.heap.size w w' := by
  obtain ⟨hlen, hcells⟩ := hz
  obtain ⟨i0, hi, hz0, hz1, hz2⟩ := info_parts infoNode
  have hmk : ∀ u : World, (Instr.makeSlice 23 (.int .i64 (n : Int)) (.int .i64 (n : Int))).run Tryz.prog u =
      .ok (.slice (some ⟨u.heap.size, 0, none⟩) n n) (u.alloc (.cells (madeCells #[.int .i64 0, .int .i64 0, .string ⟨#[]⟩] (n * 3)) 38)) := fun u => by
    have h := run_make (P := Tryz.prog) u 23 38 i0 (.agg #[.int .i64 0, .int .i64 0, .string ⟨#[]⟩]) Tryz.underlying23 hi hz0 .i64 .i64 (n : Int) (n : Int) (by omega) (Int.le_refl _) (by rw [hz2]; omega) (by omega)
    have e : ((n : Int)).toNat = n := by omega
    rw [e] at h
    simpa [hz1, Value.cells] using h
  go_enter Tryz.func33, Tryz.ntmps33
  go_wp2
  go_loopw [4] (fun i wr => ∃ k : Nat, k ≤ n ∧ i = .int .i64 k ∧ Fill w.heap.size w wr (n * 3) (k * 3) (ndCell l)) (fun i _ => n - (intOf i).toNat)
  case atStart =>
    have h := Fill.start w (madeCells #[.int .i64 0, .int .i64 0, .string ⟨#[]⟩] (n * 3)) 38 (ndCell l)
    rw [size_madeCells] at h
    exact ⟨0, Nat.zero_le _, rfl, h⟩
  case round =>
    obtain ⟨k, hk, rfl, hfill⟩ := hrel
    by_cases hlt : k < n
    · rcases hcells with h0 | ⟨b, off, rfl, hb, hc⟩
      · omega
      obtain ⟨x, hx⟩ : ∃ x, l[k]'(by omega) = x := ⟨_, rfl⟩
      have HX : Hid (l.getD k (0, 0, noName) = x) := (nds_at (by omega)).trans hx
      have cc := hc k (by omega)
      rw [hx] at cc
      obtain ⟨xk, xn, xs⟩ := x
      have c0 := (hfill.below.cell (p := ⟨b, off + k * 3, none⟩) (by simp; omega)).trans cc.1
      have c1 := (hfill.below.cell (p := ⟨b, off + k * 3 + 1, none⟩) (by simp; omega)).trans cc.2.1
      have c2 := (hfill.below.cell (p := ⟨b, off + k * 3 + 1 + 1, none⟩) (by simp; omega)).trans cc.2.2
      obtain ⟨v0, f0⟩ := hfill.there (k * 3) (by omega)
      obtain ⟨v1, f1⟩ := hfill.there (k * 3 + 1) (by omega)
      obtain ⟨v2, f2⟩ := hfill.there (k * 3 + 1 + 1) (by omega)
      have hfz := hfill.open_
      have hsz := hfill.lt
      clear hmk hc cc hx
      go_wp2_with (go_at_call 65; refine (toNode_any _ _ _ _).mono ?_; rintro e w' ⟨rfl, hb1⟩; obtain ⟨hc', hf'⟩ := bcell hb1)
      go_roundw
      case rel => exact ⟨k + 1, by omega, by go_num, by
        rw [show (k + 1) * 3 = k * 3 + 1 + 1 + 1 from by omega]
        exact (((hfill.call hb1).store (by omega) (by rw [ndCell_0, HX.out])).store (by omega) (by rw [ndCell_1, HX.out])).store (by omega) (by rw [ndCell_2, HX.out])⟩
      case measure => simp [intOf]; omega
    · have : k = n := by omega
      subst this
      go_wp2
      go_ret
      refine ⟨_, rfl, Nat.le_refl _, ⟨hlen, .inr ⟨_, _, rfl, hfill.lt, fun i hi => ?_⟩⟩, hfill.below⟩
      have g0 := hfill.done (i * 3) (by omega)
      have g1 := hfill.done (i * 3 + 1) (by omega)
      have g2 := hfill.done (i * 3 + 1 + 1) (by omega)
      rw [ndCell_0, nds_at hi] at g0
      rw [ndCell_1, nds_at hi] at g1
      rw [ndCell_2, nds_at hi] at g2
      rw [Nat.zero_add]
      exact ⟨g0, g1, g2⟩

/-- two slices that read as the same nodes are the same -/
theorem eqNodeS_same (B : Nat) (a a' : Option Addr) (n cap cap' : Nat) (l : List Nd) (w : World) (hn : n ≤ 1048576) (hB : B ≤ w.heap.size) (hz : IsNds B w a n l) (hz' : IsNds B w a' n l) :
    Calls Tryz.prog 29 #[.slice a n cap, .slice a' n cap'] w fun e w' => e = .returned (.bool true) ∧ Below w.heap.size w w' := by
  obtain ⟨hlen, hcells⟩ := hz
  obtain ⟨_, hcells'⟩ := hz'
  go_enter Tryz.func29, Tryz.ntmps29
  go_wp2
  go_loopw [5] (fun i wr => ∃ k : Nat, k ≤ n ∧ i = .int .i64 k ∧ Below w.heap.size w wr) (fun i _ => n - (intOf i).toNat)
  case atStart => exact ⟨0, Nat.zero_le _, rfl, Below.refl _ _⟩
  case round =>
    obtain ⟨k, hk, rfl, hbel⟩ := hrel
    by_cases hlt : k < n
    · rcases hcells with h0 | ⟨b, off, rfl, hb, hc⟩
      · omega
      rcases hcells' with h0 | ⟨b', off', rfl, hb', hc'⟩
      · omega
      obtain ⟨⟨xk, xn, xs⟩, hx⟩ : ∃ x, l[k]'(by omega) = x := ⟨_, rfl⟩
      have cc := hc k (by omega)
      have dd := hc' k (by omega)
      rw [hx] at cc dd
      have c0 := (hbel.cell (p := ⟨b, off + k * 3, none⟩) (by simp; omega)).trans cc.1
      have c1 := (hbel.cell (p := ⟨b, off + k * 3 + 1, none⟩) (by simp; omega)).trans cc.2.1
      have c2 := (hbel.cell (p := ⟨b, off + k * 3 + 1 + 1, none⟩) (by simp; omega)).trans cc.2.2
      have d0 := (hbel.cell (p := ⟨b', off' + k * 3, none⟩) (by simp; omega)).trans dd.1
      have d1 := (hbel.cell (p := ⟨b', off' + k * 3 + 1, none⟩) (by simp; omega)).trans dd.2.1
      have d2 := (hbel.cell (p := ⟨b', off' + k * 3 + 1 + 1, none⟩) (by simp; omega)).trans dd.2.2
      have hbr : b < wr.heap.size := by have := hbel.size; omega
      have hbr' : b' < wr.heap.size := by have := hbel.size; omega
      clear hc hc' cc dd hx
      go_wp2
      go_region_held3 (fun w' => w'.cell? ⟨b, off + k * 3, none⟩ = some (.int .i64 xk) ∧ w'.cell? ⟨b, off + k * 3 + 1, none⟩ = some (.int .i64 xn) ∧ w'.cell? ⟨b, off + k * 3 + 1 + 1, none⟩ = some (.string xs) ∧ w'.cell? ⟨b', off' + k * 3, none⟩ = some (.int .i64 xk) ∧ w'.cell? ⟨b', off' + k * 3 + 1, none⟩ = some (.int .i64 xn) ∧ w'.cell? ⟨b', off' + k * 3 + 1 + 1, none⟩ = some (.string xs)) (simp [go_sem, *])
        (first | (go_at_call 62; refine (eqNode_same _ _ _ _).mono ?_; rintro e w' ⟨rfl, hb1⟩; replace hb1 := undrew hb1; obtain ⟨hc1, hf1⟩ := bcell hb1))
      go_wp2
      go_roundw
      case rel => exact ⟨k + 1, by omega, by go_num, hbel.trans (hb1.mono hbel.size)⟩
      case measure => simp [intOf]; omega
    · go_wp2
      go_ret
      exact ⟨rfl, hbel⟩

/-- what szNodeS tells -/
def SzPost (n : Nat) (l : List Nd) (left : Int) (w : World) (e : Ending) (w' : World) : Prop :=
  ∃ r : Int, e = .returned (.int .i64 r) ∧ Below w.heap.size w w' ∧ r ≤ left ∧ -1 ≤ r ∧ (0 ≤ r → n ≤ 1048576 ∧ ∀ x ∈ l, x.2.2.size ≤ 1048576)
set_option maxHeartbeats 800000 in
set_option maxRecDepth 100000 in
theorem szNodeS_any (B : Nat) (a : Option Addr) (n cap : Nat) (l : List Nd) (left : Int) (w : World) (h0 : 0 ≤ left) (h1 : left ≤ 1048576) (hn : n ≤ maxLen) (hB : B ≤ w.heap.size) (hs : ∀ x ∈ l, x.2.2.size ≤ maxLen) (hz : IsNds B w a n l) :
    Calls Tryz.prog 32 #[.slice a n cap, .int .i64 left] w fun e w' => SzPost n l left w e w' := by
  obtain ⟨hlen, hcells⟩ := hz
  unfold maxLen at hn hs
  have hw : IntKind.i64.wrap (left - n) = left - n := by rw [IntKind.wrap_i64]; omega
  by_cases h : left < n
  · clear hcells hs
    go_enter Tryz.func32, Tryz.ntmps32
    go_wp2_with fail
    go_ret
    exact ⟨-1, rfl, Below.refl _ _, by omega, by omega, fun h => by omega⟩
  go_enter Tryz.func32, Tryz.ntmps32
  go_wp2_with fail
  go_loopw [1, 5] (fun v i wr => ∃ (k : Nat) (r : Int), k ≤ n ∧ i = .int .i64 k ∧ v = .int .i64 r ∧ 0 ≤ r ∧ r ≤ left ∧ Hid (∀ j, j < k → (l.getD j (0, 0, noName)).2.2.size ≤ 1048576) ∧ Below w.heap.size w wr) (fun _ i _ => n - (intOf i).toNat)
  case atStart => exact ⟨0, left - n, Nat.zero_le _, rfl, rfl, by omega, by omega, fun j hj => by omega, Below.refl _ _⟩
  case round =>
    obtain ⟨k, r, hk, rfl, rfl, hr0, hr1, hdone, hbel⟩ := hrel
    by_cases hlt : k < n
    · rcases hcells with h0 | ⟨b, off, rfl, hb, hc⟩
      · omega
      obtain ⟨⟨xk, xn, xs⟩, hx⟩ : ∃ x, l[k]'(by omega) = x := ⟨_, rfl⟩
      have cc := hc k (by omega)
      have hxs : xs.size ≤ 9223372036854775807 := by
        have := hs (l[k]'(by omega)) (List.getElem_mem _)
        rw [hx] at this; simp only at this; omega
      rw [hx] at cc
      have HX : Hid (l.getD k (0, 0, noName) = (xk, xn, xs)) := (nds_at (by omega)).trans hx
      have c0 := (hbel.cell (p := ⟨b, off + k * 3, none⟩) (by simp; omega)).trans cc.1
      have c1 := (hbel.cell (p := ⟨b, off + k * 3 + 1, none⟩) (by simp; omega)).trans cc.2.1
      have c2 := (hbel.cell (p := ⟨b, off + k * 3 + 1 + 1, none⟩) (by simp; omega)).trans cc.2.2
      have HZ : Hid (Calls Tryz.prog 64 #[.agg #[.int .i64 xk, .int .i64 xn, .string xs], .int .i64 r] wr fun e w' => e = .returned (.int .i64 (if r < xs.size then -1 else r - xs.size)) ∧ Below wr.heap.size wr w') := szNode_any xk xn xs r wr hr0 (by omega) hxs
      clear hc cc hx hs
      by_cases hrs : r < xs.size
      · rw [if_pos hrs] at HZ
        go_wp2_with (go_at_call 64; refine HZ.out.mono ?_; rintro e w1 ⟨rfl, hb1⟩)
        go_ret
        exact ⟨-1, rfl, hbel.trans (hb1.mono hbel.size), by omega, by omega, fun h => by omega⟩
      · rw [if_neg hrs] at HZ
        obtain ⟨r', hr'⟩ : ∃ r', r - (xs.size : Int) = r' := ⟨_, rfl⟩
        rw [hr'] at HZ
        have q0 : 0 ≤ r' := by omega
        have q1 : r' ≤ left := by omega
        have q2 : xs.size ≤ 1048576 := by omega
        clear hr' hrs
        go_wp2_with (go_at_call 64; refine HZ.out.mono ?_; rintro e w1 ⟨rfl, hb1⟩)
        go_roundw
        case rel =>
          refine ⟨k + 1, r', by omega, by go_num, rfl, q0, q1, ?_, hbel.trans (hb1.mono hbel.size)⟩
          intro j hj
          by_cases e : j = k
          · subst e; rw [HX.out]; exact q2
          · exact hdone.out j (by omega)
        case measure => simp [intOf]; omega
    · have : k = n := by omega
      subst this
      go_wp2_with fail
      go_ret
      refine ⟨r, rfl, hbel, hr1, by omega, fun _ => ⟨by omega, fun x hx => ?_⟩⟩
      obtain ⟨j, hj, rfl⟩ := List.getElem_of_mem hx
      have := hdone.out j (by omega)
      rwa [nds_at hj] at this
end Go.Proofs.YtcajjngjojegfaaGreatDoor
