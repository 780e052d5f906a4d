/- The law's marks in numbers, and what is held of them. -/
import Derived.Test.YtceokbmejnopoaaGreatDoorBunY15
import Derived.Test.YtceokbmejnopoaaGreatDoorBunY5
import Derived.Deep.RegionHeld3
import Derived.Test.YtceokbmejnopoaaGreatDoorBunY9
import Derived.Test.YtceokbmejnopoaaGreatDoorBunY32
import Derived.Test.YtceokbmejnopoaaGreatDoorBunY4
import Derived.Test.YtceokbmejnopoaaGreatDoorBunY34
namespace Go.Proofs.YtceokbmejnopoaaGreatDoor
open Go Go.RowKit Go.PlainAid
set_option linter.unusedSimpArgs false
set_option linter.unusedVariables false

set_option maxHeartbeats 1600000 in
set_option maxRecDepth 100000 in
theorem markIntS_kp (b n cap : Nat) (k : Int) (w : World) (h : Open b (n) w) (hl : n ≤ 100000000) (hk0 : 0 < k) (hk1 : k ≤ 10000000000) :
    Calls Tryz.prog 33 #[.slice (some ⟨b, 0, none⟩) n cap, .int .i64 k] w fun e w' => e = .returned (.int .i64 (k + n)) ∧ Mv b w w' ∧ Keep b w w' ∧ ∀ i : Nat, i < n → w'.cell? ⟨b, i, none⟩ = some (.int .i64 (k + i)) := by
  have HO := hidOf h
  clear h
  go_enter Tryz.func33, Tryz.ntmps33
  go_wp2_with fail
  go_loopw [1, 5] (fun q i wr => ∃ m : Nat, m ≤ n ∧ i = .int .i64 m ∧ q = .int .i64 (k + m) ∧ Hid (Open b (n) wr) ∧ Mv b w wr ∧ Hid (Keep b w wr) ∧ Hid (∀ i : Nat, i < m → wr.cell? ⟨b, i, none⟩ = some (.int .i64 (k + i)))) (fun _ i _ => n - (intOf i).toNat)
  case atStart => exact ⟨0, Nat.zero_le _, rfl, by simp, HO, Mv.refl _ _, Keep.refl _ _, fun i hi => absurd hi (Nat.not_lt_zero _)⟩
  case round =>
    obtain ⟨m, hm, rfl, rfl, HC, hbel, HKP, HK⟩ := hrel
    have p0 : IntKind.i64.wrap (k + m + 1) = k + m + 1 := IntWalk.i64_in _ ⟨by omega, by omega⟩
    by_cases hlt : m < n
    · have hbs := HC.out.1
      obtain ⟨⟨x0, c0⟩, f0⟩ := HC.out.2 (m) (by omega)
      go_wp2_with fail
      go_roundw
      case rel => exact ⟨m + 1, by omega, by go_num, congrArg (Value.int IntKind.i64) (by push_cast; omega), (HC.out.set _ _ (by omega)), (hbel.cell _ _), (HKP.out.trans (Keep.cell _ _ _ _)), by
          intro i hi
          by_cases e : i = m
          · subst e; exact World.cell?_setCell_same _ _ _ c0
          · rw [setCell_ne _ _ _ _ _ (fun h => e h.symm)]; exact HK.out i (by omega)⟩
      case measure => simp [intOf]; omega
    · have : m = n := by omega
      subst this
      go_wp2_with fail
      go_ret
      exact ⟨rfl, hbel, HKP.out, HK.out⟩

set_option maxHeartbeats 1600000 in
set_option maxRecDepth 100000 in
theorem heldIntS_any (b n cap : Nat) (k : Int) (w : World) (h : n = 0 ∨ (b < w.heap.size ∧ ∀ i : Nat, i < n → w.cell? ⟨b, i, none⟩ = some (.int .i64 (k + i)))) (a : Option Addr) (ha : n = 0 ∨ a = some ⟨b, 0, none⟩) (hl : n ≤ 100000000) (hk0 : 0 < k) (hk1 : k ≤ 10000000000) :
    Calls Tryz.prog 60 #[.slice a n cap, .int .i64 k] w fun e w' => e = .returned (.int .i64 (k + n)) ∧ Below w.heap.size w w' := by
  go_enter Tryz.func60, Tryz.ntmps60
  go_wp2_with fail
  go_loopw [1, 5] (fun q i wr => ∃ m : Nat, m ≤ n ∧ i = .int .i64 m ∧ q = .int .i64 (k + m) ∧ Below w.heap.size w wr) (fun _ i _ => n - (intOf i).toNat)
  case atStart => exact ⟨0, Nat.zero_le _, rfl, by simp, Below.refl _ _⟩
  case round =>
    obtain ⟨m, hm, rfl, rfl, hbel⟩ := hrel
    have p0 : IntKind.i64.wrap (k + m + 1) = k + m + 1 := IntWalk.i64_in _ ⟨by omega, by omega⟩
    by_cases hlt : m < n
    · rcases h with h0 | ⟨hb, hc⟩
      · omega
      rcases ha with h0 | rfl
      · omega
      have c0 := (hbel.cell (p := ⟨b, m, none⟩) hb).trans (hc m hlt)
      have hbr : b < wr.heap.size := by have := hbel.size; omega
      clear hc
      go_wp2_with fail
      go_roundw
      case rel => exact ⟨m + 1, by omega, by go_num, congrArg (Value.int IntKind.i64) (by push_cast; omega), hbel⟩
      case measure => simp [intOf]; omega
    · have : m = n := by omega
      subst this
      go_wp2_with fail
      go_ret
      exact ⟨rfl, hbel⟩
end Go.Proofs.YtceokbmejnopoaaGreatDoor

/- Answers that own their memory (IntS), and the law's marks in them. -/
namespace Go.Proofs.YtceokbmejnopoaaGreatDoor
open Go Go.RowKit Go.PlainAid
set_option linter.unusedSimpArgs false
set_option linter.unusedVariables false

/-- the slice (a, n) reads as l, and its cells, in a block from B on, may be written -/
def FreeI (B : Nat) (w : World) (a : Option Addr) (n : Nat) (l : List Int) : Prop := IsInts w.heap.size w a n l ∧ (n = 0 ∨ ∃ b, a = some ⟨b, 0, none⟩ ∧ B ≤ b ∧ Open b n w)
/-- the slice (a, n) bears the marks from k on -/
def HeldI (k : Int) (w : World) (a : Option Addr) (n : Nat) : Prop := n = 0 ∨ ∃ b, a = some ⟨b, 0, none⟩ ∧ b < w.heap.size ∧ ∀ i : Nat, i < n → w.cell? ⟨b, i, none⟩ = some (.int .i64 (k + i))
theorem FreeI.below {B : Nat} {w w' : World} {a : Option Addr} {n : Nat} {l : List Int} (h : FreeI B w a n l) (hb : Below w.heap.size w w') : FreeI B w' a n l := by
  obtain ⟨h1, h2⟩ := h
  refine ⟨(h1.below hb).mono hb.size, ?_⟩
  rcases h2 with h2 | ⟨b, e, hB, ho⟩
  · exact .inl h2
  · exact .inr ⟨b, e, hB, ho.below hb⟩
theorem FreeI.low {B B' : Nat} {w : World} {a : Option Addr} {n : Nat} {l : List Int} (h : FreeI B w a n l) (hB : B' ≤ B) : FreeI B' w a n l := by
  obtain ⟨h1, h2⟩ := h
  refine ⟨h1, ?_⟩
  rcases h2 with h2 | ⟨b, e, hb, ho⟩
  · exact .inl h2
  · exact .inr ⟨b, e, by omega, ho⟩
theorem FreeI.mvR {B L H : Nat} {w w' : World} {a : Option Addr} {n : Nat} {l : List Int} (h : FreeI B w a n l) (hm : MvR L H w w') (hH : H ≤ B) : FreeI B w' a n l := by
  obtain ⟨h1, h2⟩ := h
  rcases h2 with h2 | ⟨b, e, hB, ho⟩
  · exact ⟨⟨h1.1, .inl h2⟩, .inl h2⟩
  · refine ⟨⟨h1.1, ?_⟩, .inr ⟨b, e, hB, ho.mvR hm (by omega)⟩⟩
    rcases h1.2 with h0 | ⟨b', off, e', hlt, hc⟩
    · exact .inl h0
    · rw [e] at e'
      cases e'
      exact .inr ⟨b, 0, e, Nat.lt_of_lt_of_le hlt hm.size, fun i hi => (World.cell?_of_block (hm.block b hlt (by omega))).trans (hc i hi)⟩
theorem HeldI.below {k : Int} {w w' : World} {a : Option Addr} {n : Nat} (h : HeldI k w a n) (hb : Below w.heap.size w w') : HeldI k w' a n := by
  rcases h with h | ⟨b, e, hlt, hc⟩
  · exact .inl h
  · exact .inr ⟨b, e, Nat.lt_of_lt_of_le hlt hb.size, fun i hi => (hb.cell (p := ⟨b, i, none⟩) hlt).trans (hc i hi)⟩
theorem own_freeI {B : Nat} {w : World} {v : Value} {l : List Int} (h : w.ownsRow B 3 1 v l.length (l.map (Value.int .i64))) : ∃ a c, v = .slice a l.length c ∧ l.length ≤ c ∧ FreeI B w a l.length l := by
  have h0 := h
  obtain ⟨h1, h2⟩ := h
  rcases h2 with ⟨hv, hn⟩ | ⟨g, cap, cur, hv, h3, h4, h5, h6⟩
  · exact ⟨none, 0, by rw [hv, hn], by omega, ⟨rfl, .inl hn⟩, .inl hn⟩
  · subst hv
    have hlt := World.ownsRow.lt h0 g rfl
    have hc : ∀ i, i < l.length → w.cell? ⟨g, i, none⟩ = some (.int .i64 (l.getD i 0)) := fun i hi => by
      rw [World.ownsRow.cellAt h0 i (by omega)]
      simp [hi, List.getD_eq_getElem?_getD]
    exact ⟨_, cap, rfl, h5, ⟨rfl, .inr ⟨g, 0, rfl, hlt.2, fun i hi => by rw [Nat.zero_add]; exact hc i hi⟩⟩, .inr ⟨g, rfl, hlt.1, hlt.2, fun j hj => ⟨⟨_, hc j hj⟩, World.ownsRow.frozenAt h0 j⟩⟩⟩

theorem markIntS_zero (a : Option Addr) (c : Nat) (k : Int) (w : World) : Calls Tryz.prog 33 #[.slice a 0 c, .int .i64 k] w fun e w' => e = .returned (.int .i64 k) ∧ w' = w := by
  go_enter Tryz.func33, Tryz.ntmps33
  go_wp2_with fail
  go_loopw [1, 5] (fun q i wr => i = .int .i64 0 ∧ q = .int .i64 k ∧ wr = w) (fun _ _ _ => 0)
  case atStart => exact ⟨rfl, rfl, rfl⟩
  case round =>
    obtain ⟨rfl, rfl, rfl⟩ := hrel
    go_wp2_with fail
    go_ret
    exact ⟨rfl, rfl⟩
theorem markIntS_free (B : Nat) (a : Option Addr) (n c : Nat) (l : List Int) (k : Int) (w : World) (hB : B ≤ w.heap.size) (h : FreeI B w a n l) (hl : n ≤ 100000000) (hk0 : 0 < k) (hk1 : k ≤ 10000000000) :
    Calls Tryz.prog 33 #[.slice a n c, .int .i64 k] w fun e w' => e = .returned (.int .i64 (k + n)) ∧ HeldI k w' a n ∧ Below B w w' := by
  rcases h.2 with h0 | ⟨b, rfl, hb, ho⟩
  · subst h0
    exact (markIntS_zero a c k w).mono fun e w' ⟨h1, h2⟩ => ⟨by rw [h1]; simp, .inl rfl, by rw [h2]; exact Below.refl _ _⟩
  · exact (markIntS_kp b n c k w ho hl hk0 hk1).mono fun e w' ⟨h1, h2, _, h3⟩ => ⟨h1, .inr ⟨b, rfl, Nat.lt_of_lt_of_le ho.1 h2.size, h3⟩, (h2.range (L := b) (H := b + 1) (Nat.le_refl _) (Nat.lt_succ_self _)).belowL hb hB⟩
theorem markIntS_rng (B H : Nat) (a : Option Addr) (n c : Nat) (l : List Int) (k : Int) (w : World) (h : FreeI B w a n l) (hu : ∀ b o, a = some ⟨b, o, none⟩ → n ≠ 0 → b < H) (hl : n ≤ 100000000) (hk0 : 0 < k) (hk1 : k ≤ 10000000000) :
    Calls Tryz.prog 33 #[.slice a n c, .int .i64 k] w fun e w' => e = .returned (.int .i64 (k + n)) ∧ HeldI k w' a n ∧ MvR B H w w' := by
  by_cases h0 : n = 0
  · subst h0
    exact (markIntS_zero a c k w).mono fun e w' ⟨h1, h2⟩ => ⟨by rw [h1]; simp, .inl rfl, by rw [h2]; exact MvR.refl _ _ _⟩
  · rcases h.2 with h2 | ⟨b, rfl, hb, ho⟩
    · exact absurd h2 h0
    · exact (markIntS_kp b n c k w ho hl hk0 hk1).mono fun e w' ⟨h1, h2, _, h3⟩ => ⟨h1, .inr ⟨b, rfl, Nat.lt_of_lt_of_le ho.1 h2.size, h3⟩, h2.range hb (hu b 0 rfl h0)⟩
theorem FreeI.upto {B : Nat} {w : World} {a : Option Addr} {n : Nat} {l : List Int} (h : FreeI B w a n l) : ∀ b o, a = some ⟨b, o, none⟩ → n ≠ 0 → b < w.heap.size := fun b o e h0 => by
  rcases h.2 with h2 | ⟨b', e', _, ho⟩
  · exact absurd h2 h0
  · rw [e] at e'
    cases e'
    exact ho.1
theorem heldIntS_free (a : Option Addr) (n c : Nat) (k : Int) (w : World) (h : HeldI k w a n) (hl : n ≤ 100000000) (hk0 : 0 < k) (hk1 : k ≤ 10000000000) :
    Calls Tryz.prog 60 #[.slice a n c, .int .i64 k] w fun e w' => e = .returned (.int .i64 (k + n)) ∧ Below w.heap.size w w' := by
  rcases h with h0 | ⟨b, rfl, hb, hc⟩
  · exact heldIntS_any 0 n c k w (.inl h0) a (.inl h0) hl hk0 hk1
  · exact heldIntS_any b n c k w (.inr ⟨hb, hc⟩) _ (.inr rfl) hl hk0 hk1
end Go.Proofs.YtceokbmejnopoaaGreatDoor

/- The law's marks in an Inst that owns its memory; its comparison. -/
namespace Go.Proofs.YtceokbmejnopoaaGreatDoor
open Go Go.RowKit Go.PlainAid
set_option linter.unusedSimpArgs false
set_option linter.unusedVariables false

set_option maxRecDepth 100000 in
theorem markInst_rng (B H : Nat) (i0 : Int) (a : Option Addr) (n c : Nat) (l : List Int) (k : Int) (w : World) (h : FreeI B w a n l) (hu : ∀ b o, a = some ⟨b, o, none⟩ → n ≠ 0 → b < H) (hl : n ≤ 100000000) (hk0 : 0 < k) (hk1 : k ≤ 10000000000) :
    Calls Tryz.prog 22 #[.agg #[.int .i64 i0, .slice a n c], .int .i64 k] w fun e w' => e = .returned (.int .i64 (k + n)) ∧ HeldI k w' a n ∧ MvR B H w w' := by
  have HM : Hid (∀ o, Calls Tryz.prog 33 #[.slice a n c, .int .i64 k] (w.alloc o) fun e w' => e = .returned (.int .i64 (k + n)) ∧ HeldI k w' a n ∧ MvR B H (w.alloc o) w') := fun o => markIntS_rng B H a n c l k (w.alloc o) (h.below ((Below.refl _ _).alloc (Nat.le_refl _) _)) hu hl hk0 hk1
  clear h hu
  go_enter Tryz.func22, Tryz.ntmps22
  go_wp2_with fail
  refine (HM.out _).mono ?_
  rintro e w1 ⟨rfl, hh, hb⟩
  have HH := hidOf hh
  have HB : Hid (MvR B H w w1) := (MvR.of_below ((Below.refl _ _).alloc (Nat.le_refl _) _)).trans hb
  clear hh hb HM
  go_wp2_with fail
  go_ret
  exact ⟨rfl, HH.out, HB.out⟩
set_option maxRecDepth 100000 in
theorem heldInst_free (i0 : Int) (a : Option Addr) (n c : Nat) (k : Int) (w : World) (h : HeldI k w a n) (hl : n ≤ 100000000) (hk0 : 0 < k) (hk1 : k ≤ 10000000000) :
    Calls Tryz.prog 23 #[.agg #[.int .i64 i0, .slice a n c], .int .i64 k] w fun e w' => e = .returned (.int .i64 (k + n)) ∧ Below w.heap.size w w' := by
  have HM : Hid (∀ o, Calls Tryz.prog 60 #[.slice a n c, .int .i64 k] (w.alloc o) fun e w' => e = .returned (.int .i64 (k + n)) ∧ Below (w.alloc o).heap.size (w.alloc o) w') := fun o => heldIntS_free a n c k (w.alloc o) (h.below ((Below.refl _ _).alloc (Nat.le_refl _) _)) hl hk0 hk1
  clear h
  go_enter Tryz.func23, Tryz.ntmps23
  go_wp2_with fail
  refine (HM.out _).mono ?_
  rintro e w1 ⟨rfl, hb⟩
  have HB := hidOf (below_boxed hb)
  clear hb HM
  have hd : decide (k + (n : Int) < 0) = false := decide_eq_false (by omega)
  go_wp2_with fail
  go_ret
  exact ⟨rfl, HB.out⟩
theorem eqInst_free (i0 : Int) (a a' : Option Addr) (n c c' : Nat) (l : List Int) (B B' : Nat) (w : World) (hn : n ≤ 1048576) (h : FreeI B w a n l) (h' : FreeI B' w a' n l) :
    Calls Tryz.prog 21 #[.agg #[.int .i64 i0, .slice a n c], .agg #[.int .i64 i0, .slice a' n c']] w fun e w' => e = .returned (.bool true) ∧ Below w.heap.size w w' :=
  eqInst_gen i0 a n c a' n c' w fun W hb => eqIntS_same a a' n c c' l W hn (h.below hb).1 (h'.below hb).1
end Go.Proofs.YtceokbmejnopoaaGreatDoor

/- The law's marks in a copied block: only its own blocks move. -/
namespace Go.Proofs.YtceokbmejnopoaaGreatDoor
open Go Go.RowKit Go.PlainAid
set_option linter.unusedSimpArgs false
set_option linter.unusedVariables false

theorem wsum_map {α β : Type} (f : β → Nat) (g : α → β) (l : List α) : wsum f (l.map g) = wsum (fun x => f (g x)) l := by unfold wsum; rw [List.map_map]; rfl
theorem wsum_bound {α : Type} {f g : α → Nat} {c : Nat} (h : ∀ x, f x ≤ 1 + c * g x) (l : List α) : wsum f l ≤ l.length + c * wsum g l := by
  unfold wsum
  induction l with
  | nil => simp
  | cons x r ih =>
    simp only [List.map_cons, List.sum_cons, List.length_cons]
    have := h x
    rw [Nat.mul_add]
    omega
theorem marks_ports {ps : List Pt} {N : Nat} (h1 : ps.length ≤ N) (h2 : wsum wtPt ps ≤ N) : wsum OPt.wt (ps.map ptN) ≤ 2 * N := by
  rw [wsum_map]
  have := wsum_bound (f := fun x => OPt.wt (ptN x)) (g := wtPt) (c := 1) (fun x => by
    show 1 + x.vals.length ≤ 1 + 1 * (x.name.size + (x.vals.length + wsum wtS x.vals)); omega) ps
  omega
theorem marks_states {ss : List St} {N : Nat} (h1 : ss.length ≤ N) (h2 : wsum wtSt ss ≤ N) : wsum OSt.wt (ss.map stN) ≤ 4 * N := by
  rw [wsum_map]
  have := wsum_bound (f := fun x => OSt.wt (stN x)) (g := wtSt) (c := 3) (fun s => by
    show 1 + 3 * s.moves.length + 3 * s.acts.length ≤ 1 + 3 * (s.name.size + (s.moves.length + wsum wtMo s.moves) + (s.acts.length + wsum wtAc s.acts)); omega) ss
  omega

set_option maxHeartbeats 1600000 in
set_option maxRecDepth 100000 in
theorem markBlock_kp (L H gi go gv gs ni no nv nt : Nat) (x : Bk) (k : Int) (w : World) (hM : MkB L H gi go gv gs x w) (hH : H ≤ w.heap.size) (hwt : wtBk x ≤ 1048576)
    (ei : x.ins.length = ni) (eo : x.outs.length = no) (ev : x.vars.length = nv) (es : x.states.length = nt) (hk0 : 0 < k) (hk1 : k ≤ 500000000) :
    Calls Tryz.prog 14 #[(cpV ni no nv nt gi go gv gs).val x.name, .int .i64 k] w fun e w' => ∃ r : Int, e = .returned (.int .i64 r) ∧ 0 < r ∧ MvR L H w w' := by
  obtain ⟨p0, p1, p2, p3, p4, p5, p6, p7, p8, p9⟩ := wtBk_parts hwt
  have t1 := marks_ports p1 p2
  have t2 := marks_ports p3 p4
  have t3 := marks_states p7 p8
  obtain ⟨m0, m1, m2, m3, m4, ⟨r0, r1, r2, r3, r4, r5⟩, h1, h2, h3, h4⟩ := hM
  obtain ⟨N1, hN1⟩ : ∃ N, wsum OPt.wt (x.ins.map ptN) = N := ⟨_, rfl⟩
  obtain ⟨N2, hN2⟩ : ∃ N, wsum OPt.wt (x.outs.map ptN) = N := ⟨_, rfl⟩
  obtain ⟨N4, hN4⟩ : ∃ N, wsum OSt.wt (x.states.map stN) = N := ⟨_, rfl⟩
  rw [hN1] at t1; rw [hN2] at t2; rw [hN4] at t3
  have H1 : Hid (∀ k W, 0 < k → k ≤ 1000000000 → OPt m0 m1 gi (x.ins.map ptN) W → Calls Tryz.prog 49 #[.slice (some ⟨gi, 0, none⟩) ni ni, .int .i64 k] W fun e w' => e = .returned (.int .i64 (k + N1)) ∧ MvR m0 m1 W w') := fun k W a b h => by
    have := markPortS_kp m0 m1 gi ni ni (x.ins.map ptN) k W (by rw [List.length_map]; exact ei) h (by omega) (by omega) a b
    rw [hN1] at this; exact this
  have H2 : Hid (∀ k W, 0 < k → k ≤ 1000000000 → OPt m1 m2 go (x.outs.map ptN) W → Calls Tryz.prog 49 #[.slice (some ⟨go, 0, none⟩) no no, .int .i64 k] W fun e w' => e = .returned (.int .i64 (k + N2)) ∧ MvR m1 m2 W w') := fun k W a b h => by
    have := markPortS_kp m1 m2 go no no (x.outs.map ptN) k W (by rw [List.length_map]; exact eo) h (by omega) (by omega) a b
    rw [hN2] at this; exact this
  have H3 : Hid (∀ k W, 0 < k → k ≤ 1000000000 → OLf 2 m2 m3 gv x.vars.length W → Calls Tryz.prog 50 #[.slice (some ⟨gv, 0, none⟩) nv nv, .int .i64 k] W fun e w' => e = .returned (.int .i64 (k + 2 * (nv : Nat))) ∧ MvR m2 m3 W w') := fun k W a b h => by
    rw [ev] at h
    exact (markVarS_kp gv nv nv k W h.2.2 (by omega) a (by omega)).mono fun e w' ⟨q1, q2, _⟩ => ⟨q1, q2.range h.1 h.2.1⟩
  have H4 : Hid (∀ k W, 0 < k → k ≤ 1000000000 → OSt m3 m4 gs (x.states.map stN) W → Calls Tryz.prog 51 #[.slice (some ⟨gs, 0, none⟩) nt nt, .int .i64 k] W fun e w' => e = .returned (.int .i64 (k + N4)) ∧ MvR m3 m4 W w') := fun k W a b h => by
    have := markStateS_kp m3 m4 gs nt nt (x.states.map stN) k W (by rw [List.length_map]; exact es) h (by omega) (by omega) a b
    rw [hN4] at this; exact this
  have hnv : nv ≤ 1048576 := by omega
  obtain ⟨X1, hX1⟩ : ∃ X, x.ins.map ptN = X := ⟨_, rfl⟩
  obtain ⟨X2, hX2⟩ : ∃ X, x.outs.map ptN = X := ⟨_, rfl⟩
  obtain ⟨X3, hX3⟩ : ∃ X, x.vars.length = X := ⟨_, rfl⟩
  obtain ⟨X4, hX4⟩ : ∃ X, x.states.map stN = X := ⟨_, rfl⟩
  rw [hX1] at H1 h1; rw [hX2] at H2 h2; rw [hX3] at H3 h3; rw [hX4] at H4 h4
  obtain ⟨xn, hxn⟩ : ∃ n, x.name = n := ⟨_, rfl⟩
  simp only [BkV.val, cpV]
  rw [hxn]
  have BX0 := hidOf (boxAt_new w [.string xn, .slice (some ⟨gi, 0, none⟩) ni ni, .slice (some ⟨go, 0, none⟩) no no, .slice (some ⟨gv, 0, none⟩) nv nv, .slice (some ⟨gs, 0, none⟩) nt nt] 34)
  have hba : Below w.heap.size w (w.alloc (.cells #[.string xn, .slice (some ⟨gi, 0, none⟩) ni ni, .slice (some ⟨go, 0, none⟩) no no, .slice (some ⟨gv, 0, none⟩) nv nv, .slice (some ⟨gs, 0, none⟩) nt nt] 34)) := (Below.refl _ _).alloc (Nat.le_refl _) _
  have K0 := hidOf (h1.below hba)
  have K1 := hidOf (h2.below hba)
  have K2 := hidOf (h3.below hba)
  have K3 := hidOf (h4.below hba)
  have HMA : Hid (MvR L H w (w.alloc (.cells #[.string xn, .slice (some ⟨gi, 0, none⟩) ni ni, .slice (some ⟨go, 0, none⟩) no no, .slice (some ⟨gv, 0, none⟩) nv nv, .slice (some ⟨gs, 0, none⟩) nt nt] 34))) := MvR.of_below hba
  have hws : (w.alloc (.cells #[.string xn, .slice (some ⟨gi, 0, none⟩) ni ni, .slice (some ⟨go, 0, none⟩) no no, .slice (some ⟨gv, 0, none⟩) nv nv, .slice (some ⟨gs, 0, none⟩) nt nt] 34)).heap.size = w.heap.size + 1 := by simp
  have HWS := hidOf hws
  clear hws hba h1 h2 h3 h4 hX1 hX2 hX3 hX4 hxn hN1 hN2 hN4 p0 p1 p2 p3 p4 p5 p6 p7 p8 p9 ei eo ev es hwt
  go_enter Tryz.func14, Tryz.ntmps14
  go_wp2_with fail
  refine (H1.out k _ hk0 (by omega) K0.out).mono ?_
  rintro e w1 ⟨rfl, mv1⟩
  have BX1 := hidOf (BX0.out.mvR mv1 (by omega))
  have A1 := hidOf (K1.out.mvR mv1 (by omega))
  have A2 := hidOf (K2.out.mvR mv1 (by omega))
  have A3 := hidOf (K3.out.mvR mv1 (by omega))
  have M1 := hidOf (HMA.out.trans (mv1.wide (by omega) (by omega)))
  have c0 : w1.cell? ⟨w.heap.size, 0, none⟩ = some (.string xn) := (BX1.out.2 0 _ rfl).1
  have c1 : w1.cell? ⟨w.heap.size, 1, none⟩ = some (.slice (some ⟨gi, 0, none⟩) ni ni) := (BX1.out.2 1 _ rfl).1
  have c2 : w1.cell? ⟨w.heap.size, 2, none⟩ = some (.slice (some ⟨go, 0, none⟩) no no) := (BX1.out.2 2 _ rfl).1
  have c3 : w1.cell? ⟨w.heap.size, 3, none⟩ = some (.slice (some ⟨gv, 0, none⟩) nv nv) := (BX1.out.2 3 _ rfl).1
  have c4 : w1.cell? ⟨w.heap.size, 4, none⟩ = some (.slice (some ⟨gs, 0, none⟩) nt nt) := (BX1.out.2 4 _ rfl).1
  have sx := BX1.out.1
  clear mv1
  go_wp2_with fail
  refine (H2.out _ _ (by omega) (by omega) A1.out).mono ?_
  rintro e w2 ⟨rfl, mv2⟩
  have BX2 := hidOf (BX1.out.mvR mv2 (by omega))
  have B2 := hidOf (A2.out.mvR mv2 (by omega))
  have B3 := hidOf (A3.out.mvR mv2 (by omega))
  have M2 := hidOf (M1.out.trans (mv2.wide (by omega) (by omega)))
  clear mv2 c0 c1 c2 c3 c4 sx
  have c0 : w2.cell? ⟨w.heap.size, 0, none⟩ = some (.string xn) := (BX2.out.2 0 _ rfl).1
  have c1 : w2.cell? ⟨w.heap.size, 1, none⟩ = some (.slice (some ⟨gi, 0, none⟩) ni ni) := (BX2.out.2 1 _ rfl).1
  have c2 : w2.cell? ⟨w.heap.size, 2, none⟩ = some (.slice (some ⟨go, 0, none⟩) no no) := (BX2.out.2 2 _ rfl).1
  have c3 : w2.cell? ⟨w.heap.size, 3, none⟩ = some (.slice (some ⟨gv, 0, none⟩) nv nv) := (BX2.out.2 3 _ rfl).1
  have c4 : w2.cell? ⟨w.heap.size, 4, none⟩ = some (.slice (some ⟨gs, 0, none⟩) nt nt) := (BX2.out.2 4 _ rfl).1
  have sx := BX2.out.1
  go_wp2_with fail
  refine (H3.out _ _ (by omega) (by omega) B2.out).mono ?_
  rintro e w3 ⟨rfl, mv3⟩
  have BX3 := hidOf (BX2.out.mvR mv3 (by omega))
  have C3 := hidOf (B3.out.mvR mv3 (by omega))
  have M3 := hidOf (M2.out.trans (mv3.wide (by omega) (by omega)))
  clear mv3 c0 c1 c2 c3 c4 sx
  have c0 : w3.cell? ⟨w.heap.size, 0, none⟩ = some (.string xn) := (BX3.out.2 0 _ rfl).1
  have c1 : w3.cell? ⟨w.heap.size, 1, none⟩ = some (.slice (some ⟨gi, 0, none⟩) ni ni) := (BX3.out.2 1 _ rfl).1
  have c2 : w3.cell? ⟨w.heap.size, 2, none⟩ = some (.slice (some ⟨go, 0, none⟩) no no) := (BX3.out.2 2 _ rfl).1
  have c3 : w3.cell? ⟨w.heap.size, 3, none⟩ = some (.slice (some ⟨gv, 0, none⟩) nv nv) := (BX3.out.2 3 _ rfl).1
  have c4 : w3.cell? ⟨w.heap.size, 4, none⟩ = some (.slice (some ⟨gs, 0, none⟩) nt nt) := (BX3.out.2 4 _ rfl).1
  have sx := BX3.out.1
  go_wp2_with fail
  refine (H4.out _ _ (by omega) (by omega) C3.out).mono ?_
  rintro e w4 ⟨rfl, mv4⟩
  have M4 := hidOf (M3.out.trans (mv4.wide (by omega) (by omega)))
  clear mv4 c0 c1 c2 c3 c4 sx
  go_wp2_with fail
  go_ret
  exact ⟨_, rfl, by omega, M4.out⟩
end Go.Proofs.YtceokbmejnopoaaGreatDoor
