/- Answers that own their memory (StringS), and the law's marks in them. -/
import Derived.Test.YtchemhjcknkbgaaGreatDoorBunY15
import Derived.Test.YtchemhjcknkbgaaGreatDoorBunY34
import Derived.Test.YtchemhjcknkbgaaGreatDoorBunY32
import Derived.Test.YtchemhjcknkbgaaGreatDoorBunY4
namespace Go.Proofs.YtchemhjcknkbgaaGreatDoor
open Go Go.RowKit Go.PlainAid
set_option linter.unusedSimpArgs false
set_option linter.unusedVariables false

/-- the slice (a, n) reads as l, and its cells, in a block from B on, may be written -/
def FreeS (B : Nat) (w : World) (a : Option Addr) (n : Nat) (l : List ByteArray) : Prop := IsStrs w.heap.size w a n l ∧ (n = 0 ∨ ∃ b, a = some ⟨b, 0, none⟩ ∧ B ≤ b ∧ Open b n w)
/-- the slice (a, n) bears the marks from k on -/
def HeldS (k : Int) (w : World) (a : Option Addr) (n : Nat) : Prop := n = 0 ∨ ∃ b, a = some ⟨b, 0, none⟩ ∧ b < w.heap.size ∧ ∀ i : Nat, i < n → w.cell? ⟨b, i, none⟩ = some (.string (mtx (k + i)))
theorem FreeS.below {B : Nat} {w w' : World} {a : Option Addr} {n : Nat} {l : List ByteArray} (h : FreeS B w a n l) (hb : Below w.heap.size w w') : FreeS B w' a n l := by
  obtain ⟨h1, h2⟩ := h
  refine ⟨(h1.below hb).mono hb.size, ?_⟩
  rcases h2 with h2 | ⟨b, e, hB, ho⟩
  · exact .inl h2
  · exact .inr ⟨b, e, hB, ho.below hb⟩
theorem FreeS.low {B B' : Nat} {w : World} {a : Option Addr} {n : Nat} {l : List ByteArray} (h : FreeS B w a n l) (hB : B' ≤ B) : FreeS B' w a n l := by
  obtain ⟨h1, h2⟩ := h
  refine ⟨h1, ?_⟩
  rcases h2 with h2 | ⟨b, e, hb, ho⟩
  · exact .inl h2
  · exact .inr ⟨b, e, by omega, ho⟩
theorem FreeS.mvR {B L H : Nat} {w w' : World} {a : Option Addr} {n : Nat} {l : List ByteArray} (h : FreeS B w a n l) (hm : MvR L H w w') (hH : H ≤ B) : FreeS B w' a n l := by
  obtain ⟨h1, h2⟩ := h
  rcases h2 with h2 | ⟨b, e, hB, ho⟩
  · exact ⟨⟨h1.1, .inl h2⟩, .inl h2⟩
  · refine ⟨⟨h1.1, ?_⟩, .inr ⟨b, e, hB, ho.mvR hm (by omega)⟩⟩
    rcases h1.2 with h0 | ⟨b', off, e', hlt, hc⟩
    · exact .inl h0
    · rw [e] at e'
      cases e'
      exact .inr ⟨b, 0, e, Nat.lt_of_lt_of_le hlt hm.size, fun i hi => (World.cell?_of_block (hm.block b hlt (by omega))).trans (hc i hi)⟩
theorem HeldS.below {k : Int} {w w' : World} {a : Option Addr} {n : Nat} (h : HeldS k w a n) (hb : Below w.heap.size w w') : HeldS k w' a n := by
  rcases h with h | ⟨b, e, hlt, hc⟩
  · exact .inl h
  · exact .inr ⟨b, e, Nat.lt_of_lt_of_le hlt hb.size, fun i hi => (hb.cell (p := ⟨b, i, none⟩) hlt).trans (hc i hi)⟩
theorem OwnS.free {B : Nat} {w : World} {v : Value} {l : List ByteArray} (h : OwnS B w v l) : ∃ a c, v = .slice a l.length c ∧ l.length ≤ c ∧ FreeS B w a l.length l := by
  obtain ⟨a, c, e, hc, hz, hown⟩ := h.form
  refine ⟨a, c, e, hc, hz, ?_⟩
  have h0 := h
  obtain ⟨h1, h2⟩ := h
  rcases h2 with ⟨hv, hn⟩ | ⟨g, cap, cur, hv, h3, h4, h5, h6⟩
  · exact .inl hn
  · rw [hv] at e
    cases e
    have hlt := World.ownsRow.lt h0 g (by rw [hv]; rfl)
    subst hv
    refine .inr ⟨g, rfl, hlt.1, hlt.2, fun j hj => ⟨⟨_, (World.ownsRow.cellAt h0 j (by omega)).trans (List.getElem?_eq_getElem (by simpa using hj))⟩, World.ownsRow.frozenAt h0 j⟩⟩

theorem markStringS_zero (a : Option Addr) (c : Nat) (k : Int) (w : World) : Calls Tryz.prog 12 #[.slice a 0 c, .int .i64 k] w fun e w' => e = .returned (.int .i64 k) ∧ w' = w := by
  go_enter Tryz.func12, Tryz.ntmps12
  go_wp2_with fail
  go_loopw [1, 5] (fun q i wr => i = .int .i64 0 ∧ q = .int .i64 k ∧ wr = w) (fun _ _ _ => 0)
  case atStart => exact ⟨rfl, rfl, rfl⟩
  case round =>
    obtain ⟨rfl, rfl, rfl⟩ := hrel
    go_wp2_with fail
    go_ret
    exact ⟨rfl, rfl⟩
theorem markStringS_free (B : Nat) (a : Option Addr) (n c : Nat) (l : List ByteArray) (k : Int) (w : World) (hB : B ≤ w.heap.size) (h : FreeS B w a n l) (hl : n ≤ 100000000) (hk0 : 0 < k) (hk1 : k ≤ 10000000000) :
    Calls Tryz.prog 12 #[.slice a n c, .int .i64 k] w fun e w' => e = .returned (.int .i64 (k + n)) ∧ HeldS k w' a n ∧ Below B w w' := by
  rcases h.2 with h0 | ⟨b, rfl, hb, ho⟩
  · subst h0
    exact (markStringS_zero a c k w).mono fun e w' ⟨h1, h2⟩ => ⟨by rw [h1]; simp, .inl rfl, by rw [h2]; exact Below.refl _ _⟩
  · exact (markStringS_kp b n c k w ho hl hk0 hk1).mono fun e w' ⟨h1, h2, _, h3⟩ => ⟨h1, .inr ⟨b, rfl, Nat.lt_of_lt_of_le ho.1 h2.size, h3⟩, (h2.range (L := b) (H := b + 1) (Nat.le_refl _) (Nat.lt_succ_self _)).belowL hb hB⟩
theorem markStringS_rng (B H : Nat) (a : Option Addr) (n c : Nat) (l : List ByteArray) (k : Int) (w : World) (h : FreeS B w a n l) (hu : ∀ b o, a = some ⟨b, o, none⟩ → n ≠ 0 → b < H) (hl : n ≤ 100000000) (hk0 : 0 < k) (hk1 : k ≤ 10000000000) :
    Calls Tryz.prog 12 #[.slice a n c, .int .i64 k] w fun e w' => e = .returned (.int .i64 (k + n)) ∧ HeldS k w' a n ∧ MvR B H w w' := by
  by_cases h0 : n = 0
  · subst h0
    exact (markStringS_zero a c k w).mono fun e w' ⟨h1, h2⟩ => ⟨by rw [h1]; simp, .inl rfl, by rw [h2]; exact MvR.refl _ _ _⟩
  · rcases h.2 with h2 | ⟨b, rfl, hb, ho⟩
    · exact absurd h2 h0
    · exact (markStringS_kp b n c k w ho hl hk0 hk1).mono fun e w' ⟨h1, h2, _, h3⟩ => ⟨h1, .inr ⟨b, rfl, Nat.lt_of_lt_of_le ho.1 h2.size, h3⟩, h2.range hb (hu b 0 rfl h0)⟩
theorem FreeS.upto {B : Nat} {w : World} {a : Option Addr} {n : Nat} {l : List ByteArray} (h : FreeS B w a n l) : ∀ b o, a = some ⟨b, o, none⟩ → n ≠ 0 → b < w.heap.size := fun b o e h0 => by
  rcases h.2 with h2 | ⟨b', e', _, ho⟩
  · exact absurd h2 h0
  · rw [e] at e'
    cases e'
    exact ho.1
theorem heldStringS_free (a : Option Addr) (n c : Nat) (k : Int) (w : World) (h : HeldS k w a n) (hl : n ≤ 100000000) (hk0 : 0 < k) (hk1 : k ≤ 10000000000) :
    Calls Tryz.prog 13 #[.slice a n c, .int .i64 k] w fun e w' => e = .returned (.int .i64 (k + n)) ∧ Below w.heap.size w w' := by
  rcases h with h0 | ⟨b, rfl, hb, hc⟩
  · exact heldStringS_any 0 n c k w (.inl h0) a (.inl h0) hl hk0 hk1
  · exact heldStringS_any b n c k w (.inr ⟨hb, hc⟩) _ (.inr rfl) hl hk0 hk1
end Go.Proofs.YtchemhjcknkbgaaGreatDoor

/- The law's marks in a copied block: only its own blocks move. -/
namespace Go.Proofs.YtchemhjcknkbgaaGreatDoor
open Go Go.RowKit Go.PlainAid
set_option linter.unusedSimpArgs false
set_option linter.unusedVariables false

theorem wsum_map {α β : Type} (f : β → Nat) (g : α → β) (l : List α) : wsum f (l.map g) = wsum (fun x => f (g x)) l := by unfold wsum; rw [List.map_map]; rfl
theorem wsum_bound {α : Type} {f g : α → Nat} {c : Nat} (h : ∀ x, f x ≤ 1 + c * g x) (l : List α) : wsum f l ≤ l.length + c * wsum g l := by
  unfold wsum
  induction l with
  | nil => simp
  | cons x r ih =>
    simp only [List.map_cons, List.sum_cons, List.length_cons]
    have := h x
    rw [Nat.mul_add]
    omega
theorem marks_ports {ps : List Pt} {N : Nat} (h1 : ps.length ≤ N) (h2 : wsum wtPt ps ≤ N) : wsum OPt.wt (ps.map ptN) ≤ 2 * N := by
  rw [wsum_map]
  have := wsum_bound (f := fun x => OPt.wt (ptN x)) (g := wtPt) (c := 1) (fun x => by
    show 1 + x.vals.length ≤ 1 + 1 * (x.name.size + (x.vals.length + wsum wtS x.vals)); omega) ps
  omega
theorem marks_states {ss : List St} {N : Nat} (h1 : ss.length ≤ N) (h2 : wsum wtSt ss ≤ N) : wsum OSt.wt (ss.map stN) ≤ 4 * N := by
  rw [wsum_map]
  have := wsum_bound (f := fun x => OSt.wt (stN x)) (g := wtSt) (c := 3) (fun s => by
    show 1 + 3 * s.moves.length + 3 * s.acts.length ≤ 1 + 3 * (s.name.size + (s.moves.length + wsum wtMo s.moves) + (s.acts.length + wsum wtAc s.acts)); omega) ss
  omega

set_option maxHeartbeats 1600000 in
set_option maxRecDepth 100000 in
theorem markBlock_kp (L H gi go gv gs ni no nv nt : Nat) (x : Bk) (k : Int) (w : World) (hM : MkB L H gi go gv gs x w) (hH : H ≤ w.heap.size) (hwt : wtBk x ≤ 1048576)
    (ei : x.ins.length = ni) (eo : x.outs.length = no) (ev : x.vars.length = nv) (es : x.states.length = nt) (hk0 : 0 < k) (hk1 : k ≤ 500000000) :
    Calls Tryz.prog 11 #[(cpV ni no nv nt gi go gv gs).val x.name, .int .i64 k] w fun e w' => ∃ r : Int, e = .returned (.int .i64 r) ∧ 0 < r ∧ MvR L H w w' := by
  obtain ⟨p0, p1, p2, p3, p4, p5, p6, p7, p8, p9⟩ := wtBk_parts hwt
  have t1 := marks_ports p1 p2
  have t2 := marks_ports p3 p4
  have t3 := marks_states p7 p8
  obtain ⟨m0, m1, m2, m3, m4, ⟨r0, r1, r2, r3, r4, r5⟩, h1, h2, h3, h4⟩ := hM
  obtain ⟨N1, hN1⟩ : ∃ N, wsum OPt.wt (x.ins.map ptN) = N := ⟨_, rfl⟩
  obtain ⟨N2, hN2⟩ : ∃ N, wsum OPt.wt (x.outs.map ptN) = N := ⟨_, rfl⟩
  obtain ⟨N4, hN4⟩ : ∃ N, wsum OSt.wt (x.states.map stN) = N := ⟨_, rfl⟩
  rw [hN1] at t1; rw [hN2] at t2; rw [hN4] at t3
  have H1 : Hid (∀ k W, 0 < k → k ≤ 1000000000 → OPt m0 m1 gi (x.ins.map ptN) W → Calls Tryz.prog 46 #[.slice (some ⟨gi, 0, none⟩) ni ni, .int .i64 k] W fun e w' => e = .returned (.int .i64 (k + N1)) ∧ MvR m0 m1 W w') := fun k W a b h => by
    have := markPortS_kp m0 m1 gi ni ni (x.ins.map ptN) k W (by rw [List.length_map]; exact ei) h (by omega) (by omega) a b
    rw [hN1] at this; exact this
  have H2 : Hid (∀ k W, 0 < k → k ≤ 1000000000 → OPt m1 m2 go (x.outs.map ptN) W → Calls Tryz.prog 46 #[.slice (some ⟨go, 0, none⟩) no no, .int .i64 k] W fun e w' => e = .returned (.int .i64 (k + N2)) ∧ MvR m1 m2 W w') := fun k W a b h => by
    have := markPortS_kp m1 m2 go no no (x.outs.map ptN) k W (by rw [List.length_map]; exact eo) h (by omega) (by omega) a b
    rw [hN2] at this; exact this
  have H3 : Hid (∀ k W, 0 < k → k ≤ 1000000000 → OLf 2 m2 m3 gv x.vars.length W → Calls Tryz.prog 47 #[.slice (some ⟨gv, 0, none⟩) nv nv, .int .i64 k] W fun e w' => e = .returned (.int .i64 (k + 2 * (nv : Nat))) ∧ MvR m2 m3 W w') := fun k W a b h => by
    rw [ev] at h
    exact (markVarS_kp gv nv nv k W h.2.2 (by omega) a (by omega)).mono fun e w' ⟨q1, q2, _⟩ => ⟨q1, q2.range h.1 h.2.1⟩
  have H4 : Hid (∀ k W, 0 < k → k ≤ 1000000000 → OSt m3 m4 gs (x.states.map stN) W → Calls Tryz.prog 48 #[.slice (some ⟨gs, 0, none⟩) nt nt, .int .i64 k] W fun e w' => e = .returned (.int .i64 (k + N4)) ∧ MvR m3 m4 W w') := fun k W a b h => by
    have := markStateS_kp m3 m4 gs nt nt (x.states.map stN) k W (by rw [List.length_map]; exact es) h (by omega) (by omega) a b
    rw [hN4] at this; exact this
  have hnv : nv ≤ 1048576 := by omega
  obtain ⟨X1, hX1⟩ : ∃ X, x.ins.map ptN = X := ⟨_, rfl⟩
  obtain ⟨X2, hX2⟩ : ∃ X, x.outs.map ptN = X := ⟨_, rfl⟩
  obtain ⟨X3, hX3⟩ : ∃ X, x.vars.length = X := ⟨_, rfl⟩
  obtain ⟨X4, hX4⟩ : ∃ X, x.states.map stN = X := ⟨_, rfl⟩
  rw [hX1] at H1 h1; rw [hX2] at H2 h2; rw [hX3] at H3 h3; rw [hX4] at H4 h4
  obtain ⟨xn, hxn⟩ : ∃ n, x.name = n := ⟨_, rfl⟩
  simp only [BkV.val, cpV]
  rw [hxn]
  have BX0 := hidOf (boxAt_new w [.string xn, .slice (some ⟨gi, 0, none⟩) ni ni, .slice (some ⟨go, 0, none⟩) no no, .slice (some ⟨gv, 0, none⟩) nv nv, .slice (some ⟨gs, 0, none⟩) nt nt] 34)
  have hba : Below w.heap.size w (w.alloc (.cells #[.string xn, .slice (some ⟨gi, 0, none⟩) ni ni, .slice (some ⟨go, 0, none⟩) no no, .slice (some ⟨gv, 0, none⟩) nv nv, .slice (some ⟨gs, 0, none⟩) nt nt] 34)) := (Below.refl _ _).alloc (Nat.le_refl _) _
  have K0 := hidOf (h1.below hba)
  have K1 := hidOf (h2.below hba)
  have K2 := hidOf (h3.below hba)
  have K3 := hidOf (h4.below hba)
  have HMA : Hid (MvR L H w (w.alloc (.cells #[.string xn, .slice (some ⟨gi, 0, none⟩) ni ni, .slice (some ⟨go, 0, none⟩) no no, .slice (some ⟨gv, 0, none⟩) nv nv, .slice (some ⟨gs, 0, none⟩) nt nt] 34))) := MvR.of_below hba
  have hws : (w.alloc (.cells #[.string xn, .slice (some ⟨gi, 0, none⟩) ni ni, .slice (some ⟨go, 0, none⟩) no no, .slice (some ⟨gv, 0, none⟩) nv nv, .slice (some ⟨gs, 0, none⟩) nt nt] 34)).heap.size = w.heap.size + 1 := by simp
  have HWS := hidOf hws
  clear hws hba h1 h2 h3 h4 hX1 hX2 hX3 hX4 hxn hN1 hN2 hN4 p0 p1 p2 p3 p4 p5 p6 p7 p8 p9 ei eo ev es hwt
  go_enter Tryz.func11, Tryz.ntmps11
  go_wp2_with fail
  refine (H1.out k _ hk0 (by omega) K0.out).mono ?_
  rintro e w1 ⟨rfl, mv1⟩
  have BX1 := hidOf (BX0.out.mvR mv1 (by omega))
  have A1 := hidOf (K1.out.mvR mv1 (by omega))
  have A2 := hidOf (K2.out.mvR mv1 (by omega))
  have A3 := hidOf (K3.out.mvR mv1 (by omega))
  have M1 := hidOf (HMA.out.trans (mv1.wide (by omega) (by omega)))
  have c0 : w1.cell? ⟨w.heap.size, 0, none⟩ = some (.string xn) := (BX1.out.2 0 _ rfl).1
  have c1 : w1.cell? ⟨w.heap.size, 1, none⟩ = some (.slice (some ⟨gi, 0, none⟩) ni ni) := (BX1.out.2 1 _ rfl).1
  have c2 : w1.cell? ⟨w.heap.size, 2, none⟩ = some (.slice (some ⟨go, 0, none⟩) no no) := (BX1.out.2 2 _ rfl).1
  have c3 : w1.cell? ⟨w.heap.size, 3, none⟩ = some (.slice (some ⟨gv, 0, none⟩) nv nv) := (BX1.out.2 3 _ rfl).1
  have c4 : w1.cell? ⟨w.heap.size, 4, none⟩ = some (.slice (some ⟨gs, 0, none⟩) nt nt) := (BX1.out.2 4 _ rfl).1
  have sx := BX1.out.1
  clear mv1
  go_wp2_with fail
  refine (H2.out _ _ (by omega) (by omega) A1.out).mono ?_
  rintro e w2 ⟨rfl, mv2⟩
  have BX2 := hidOf (BX1.out.mvR mv2 (by omega))
  have B2 := hidOf (A2.out.mvR mv2 (by omega))
  have B3 := hidOf (A3.out.mvR mv2 (by omega))
  have M2 := hidOf (M1.out.trans (mv2.wide (by omega) (by omega)))
  clear mv2 c0 c1 c2 c3 c4 sx
  have c0 : w2.cell? ⟨w.heap.size, 0, none⟩ = some (.string xn) := (BX2.out.2 0 _ rfl).1
  have c1 : w2.cell? ⟨w.heap.size, 1, none⟩ = some (.slice (some ⟨gi, 0, none⟩) ni ni) := (BX2.out.2 1 _ rfl).1
  have c2 : w2.cell? ⟨w.heap.size, 2, none⟩ = some (.slice (some ⟨go, 0, none⟩) no no) := (BX2.out.2 2 _ rfl).1
  have c3 : w2.cell? ⟨w.heap.size, 3, none⟩ = some (.slice (some ⟨gv, 0, none⟩) nv nv) := (BX2.out.2 3 _ rfl).1
  have c4 : w2.cell? ⟨w.heap.size, 4, none⟩ = some (.slice (some ⟨gs, 0, none⟩) nt nt) := (BX2.out.2 4 _ rfl).1
  have sx := BX2.out.1
  go_wp2_with fail
  refine (H3.out _ _ (by omega) (by omega) B2.out).mono ?_
  rintro e w3 ⟨rfl, mv3⟩
  have BX3 := hidOf (BX2.out.mvR mv3 (by omega))
  have C3 := hidOf (B3.out.mvR mv3 (by omega))
  have M3 := hidOf (M2.out.trans (mv3.wide (by omega) (by omega)))
  clear mv3 c0 c1 c2 c3 c4 sx
  have c0 : w3.cell? ⟨w.heap.size, 0, none⟩ = some (.string xn) := (BX3.out.2 0 _ rfl).1
  have c1 : w3.cell? ⟨w.heap.size, 1, none⟩ = some (.slice (some ⟨gi, 0, none⟩) ni ni) := (BX3.out.2 1 _ rfl).1
  have c2 : w3.cell? ⟨w.heap.size, 2, none⟩ = some (.slice (some ⟨go, 0, none⟩) no no) := (BX3.out.2 2 _ rfl).1
  have c3 : w3.cell? ⟨w.heap.size, 3, none⟩ = some (.slice (some ⟨gv, 0, none⟩) nv nv) := (BX3.out.2 3 _ rfl).1
  have c4 : w3.cell? ⟨w.heap.size, 4, none⟩ = some (.slice (some ⟨gs, 0, none⟩) nt nt) := (BX3.out.2 4 _ rfl).1
  have sx := BX3.out.1
  go_wp2_with fail
  refine (H4.out _ _ (by omega) (by omega) C3.out).mono ?_
  rintro e w4 ⟨rfl, mv4⟩
  have M4 := hidOf (M3.out.trans (mv4.wide (by omega) (by omega)))
  clear mv4 c0 c1 c2 c3 c4 sx
  go_wp2_with fail
  go_ret
  exact ⟨_, rfl, by omega, M4.out⟩
end Go.Proofs.YtchemhjcknkbgaaGreatDoor
