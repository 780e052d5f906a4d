/- Answers that own their memory (StringS), and the law's marks in them. -/
import Derived.Test.YtceokbmejnopoaaGreatDoorBunY15
import Derived.Test.YtceokbmejnopoaaGreatDoorBunY33
import Derived.Test.YtceokbmejnopoaaGreatDoorInstImpl
namespace Go.Proofs.YtceokbmejnopoaaGreatDoor
open Go Go.RowKit Go.PlainAid
set_option linter.unusedSimpArgs false
set_option linter.unusedVariables false

/-- the slice (a, n) reads as l, and its cells, in a block from B on, may be written -/
def FreeS (B : Nat) (w : World) (a : Option Addr) (n : Nat) (l : List ByteArray) : Prop := IsStrs w.heap.size w a n l ∧ (n = 0 ∨ ∃ b, a = some ⟨b, 0, none⟩ ∧ B ≤ b ∧ Open b n w)
/-- the slice (a, n) bears the marks from k on -/
def HeldS (k : Int) (w : World) (a : Option Addr) (n : Nat) : Prop := n = 0 ∨ ∃ b, a = some ⟨b, 0, none⟩ ∧ b < w.heap.size ∧ ∀ i : Nat, i < n → w.cell? ⟨b, i, none⟩ = some (.string (mtx (k + i)))
theorem FreeS.below {B : Nat} {w w' : World} {a : Option Addr} {n : Nat} {l : List ByteArray} (h : FreeS B w a n l) (hb : Below w.heap.size w w') : FreeS B w' a n l := by
  obtain ⟨h1, h2⟩ := h
  refine ⟨(h1.below hb).mono hb.size, ?_⟩
  rcases h2 with h2 | ⟨b, e, hB, ho⟩
  · exact .inl h2
  · exact .inr ⟨b, e, hB, ho.below hb⟩
theorem FreeS.low {B B' : Nat} {w : World} {a : Option Addr} {n : Nat} {l : List ByteArray} (h : FreeS B w a n l) (hB : B' ≤ B) : FreeS B' w a n l := by
  obtain ⟨h1, h2⟩ := h
  refine ⟨h1, ?_⟩
  rcases h2 with h2 | ⟨b, e, hb, ho⟩
  · exact .inl h2
  · exact .inr ⟨b, e, by omega, ho⟩
theorem FreeS.mvR {B L H : Nat} {w w' : World} {a : Option Addr} {n : Nat} {l : List ByteArray} (h : FreeS B w a n l) (hm : MvR L H w w') (hH : H ≤ B) : FreeS B w' a n l := by
  obtain ⟨h1, h2⟩ := h
  rcases h2 with h2 | ⟨b, e, hB, ho⟩
  · exact ⟨⟨h1.1, .inl h2⟩, .inl h2⟩
  · refine ⟨⟨h1.1, ?_⟩, .inr ⟨b, e, hB, ho.mvR hm (by omega)⟩⟩
    rcases h1.2 with h0 | ⟨b', off, e', hlt, hc⟩
    · exact .inl h0
    · rw [e] at e'
      cases e'
      exact .inr ⟨b, 0, e, Nat.lt_of_lt_of_le hlt hm.size, fun i hi => (World.cell?_of_block (hm.block b hlt (by omega))).trans (hc i hi)⟩
theorem HeldS.below {k : Int} {w w' : World} {a : Option Addr} {n : Nat} (h : HeldS k w a n) (hb : Below w.heap.size w w') : HeldS k w' a n := by
  rcases h with h | ⟨b, e, hlt, hc⟩
  · exact .inl h
  · exact .inr ⟨b, e, Nat.lt_of_lt_of_le hlt hb.size, fun i hi => (hb.cell (p := ⟨b, i, none⟩) hlt).trans (hc i hi)⟩
theorem OwnS.free {B : Nat} {w : World} {v : Value} {l : List ByteArray} (h : OwnS B w v l) : ∃ a c, v = .slice a l.length c ∧ l.length ≤ c ∧ FreeS B w a l.length l := by
  obtain ⟨a, c, e, hc, hz, hown⟩ := h.form
  refine ⟨a, c, e, hc, hz, ?_⟩
  have h0 := h
  obtain ⟨h1, h2⟩ := h
  rcases h2 with ⟨hv, hn⟩ | ⟨g, cap, cur, hv, h3, h4, h5, h6⟩
  · exact .inl hn
  · rw [hv] at e
    cases e
    have hlt := World.ownsRow.lt h0 g (by rw [hv]; rfl)
    subst hv
    refine .inr ⟨g, rfl, hlt.1, hlt.2, fun j hj => ⟨⟨_, (World.ownsRow.cellAt h0 j (by omega)).trans (List.getElem?_eq_getElem (by simpa using hj))⟩, World.ownsRow.frozenAt h0 j⟩⟩

theorem markStringS_zero (a : Option Addr) (c : Nat) (k : Int) (w : World) : Calls Tryz.prog 15 #[.slice a 0 c, .int .i64 k] w fun e w' => e = .returned (.int .i64 k) ∧ w' = w := by
  go_enter Tryz.func15, Tryz.ntmps15
  go_wp2_with fail
  go_loopw [1, 5] (fun q i wr => i = .int .i64 0 ∧ q = .int .i64 k ∧ wr = w) (fun _ _ _ => 0)
  case atStart => exact ⟨rfl, rfl, rfl⟩
  case round =>
    obtain ⟨rfl, rfl, rfl⟩ := hrel
    go_wp2_with fail
    go_ret
    exact ⟨rfl, rfl⟩
theorem markStringS_free (B : Nat) (a : Option Addr) (n c : Nat) (l : List ByteArray) (k : Int) (w : World) (hB : B ≤ w.heap.size) (h : FreeS B w a n l) (hl : n ≤ 100000000) (hk0 : 0 < k) (hk1 : k ≤ 10000000000) :
    Calls Tryz.prog 15 #[.slice a n c, .int .i64 k] w fun e w' => e = .returned (.int .i64 (k + n)) ∧ HeldS k w' a n ∧ Below B w w' := by
  rcases h.2 with h0 | ⟨b, rfl, hb, ho⟩
  · subst h0
    exact (markStringS_zero a c k w).mono fun e w' ⟨h1, h2⟩ => ⟨by rw [h1]; simp, .inl rfl, by rw [h2]; exact Below.refl _ _⟩
  · exact (markStringS_kp b n c k w ho hl hk0 hk1).mono fun e w' ⟨h1, h2, _, h3⟩ => ⟨h1, .inr ⟨b, rfl, Nat.lt_of_lt_of_le ho.1 h2.size, h3⟩, (h2.range (L := b) (H := b + 1) (Nat.le_refl _) (Nat.lt_succ_self _)).belowL hb hB⟩
theorem markStringS_rng (B H : Nat) (a : Option Addr) (n c : Nat) (l : List ByteArray) (k : Int) (w : World) (h : FreeS B w a n l) (hu : ∀ b o, a = some ⟨b, o, none⟩ → n ≠ 0 → b < H) (hl : n ≤ 100000000) (hk0 : 0 < k) (hk1 : k ≤ 10000000000) :
    Calls Tryz.prog 15 #[.slice a n c, .int .i64 k] w fun e w' => e = .returned (.int .i64 (k + n)) ∧ HeldS k w' a n ∧ MvR B H w w' := by
  by_cases h0 : n = 0
  · subst h0
    exact (markStringS_zero a c k w).mono fun e w' ⟨h1, h2⟩ => ⟨by rw [h1]; simp, .inl rfl, by rw [h2]; exact MvR.refl _ _ _⟩
  · rcases h.2 with h2 | ⟨b, rfl, hb, ho⟩
    · exact absurd h2 h0
    · exact (markStringS_kp b n c k w ho hl hk0 hk1).mono fun e w' ⟨h1, h2, _, h3⟩ => ⟨h1, .inr ⟨b, rfl, Nat.lt_of_lt_of_le ho.1 h2.size, h3⟩, h2.range hb (hu b 0 rfl h0)⟩
theorem FreeS.upto {B : Nat} {w : World} {a : Option Addr} {n : Nat} {l : List ByteArray} (h : FreeS B w a n l) : ∀ b o, a = some ⟨b, o, none⟩ → n ≠ 0 → b < w.heap.size := fun b o e h0 => by
  rcases h.2 with h2 | ⟨b', e', _, ho⟩
  · exact absurd h2 h0
  · rw [e] at e'
    cases e'
    exact ho.1
theorem heldStringS_free (a : Option Addr) (n c : Nat) (k : Int) (w : World) (h : HeldS k w a n) (hl : n ≤ 100000000) (hk0 : 0 < k) (hk1 : k ≤ 10000000000) :
    Calls Tryz.prog 16 #[.slice a n c, .int .i64 k] w fun e w' => e = .returned (.int .i64 (k + n)) ∧ Below w.heap.size w w' := by
  rcases h with h0 | ⟨b, rfl, hb, hc⟩
  · exact heldStringS_any 0 n c k w (.inl h0) a (.inl h0) hl hk0 hk1
  · exact heldStringS_any b n c k w (.inr ⟨hb, hc⟩) _ (.inr rfl) hl hk0 hk1
end Go.Proofs.YtceokbmejnopoaaGreatDoor

/- BlockNames, by the model and by the program. -/
namespace Go.Proofs.YtceokbmejnopoaaGreatDoor
open Go Go.RowKit Go.PlainAid
set_option linter.unusedSimpArgs false
set_option linter.unusedVariables false

def bnM (x : Bk) : List ByteArray := if checkM x = 0 then namesM x else []

theorem specBlockNames_any (B : Nat) (v : BkV) (x : Bk) (w : World) (hB : B ≤ w.heap.size) (hwt : wtBk x ≤ 1048576) (hx : IsBk B w v x) :
    Calls Tryz.prog 9 #[v.val x.name] w fun e w' => ∃ a c, e = .returned (.slice a (bnM x).length c) ∧ FreeS w.heap.size w' a (bnM x).length (bnM x) ∧ Below w.heap.size w w' := by
  have HX := hidOf hx
  have HC : Hid (∀ W, Below w.heap.size w W → Calls Tryz.prog 39 #[v.val x.name] W fun e w' => e = .returned (.int .i64 (checkM x)) ∧ Below W.heap.size W w') := fun W hb => l3Check_any B v x W (by have := hb.size; omega) hwt (HX.out.below (hb.mono hB))
  have HN : Hid (checkM x = 0 → ∀ W, Below w.heap.size w W → Calls Tryz.prog 40 #[v.val x.name] W fun e w' => ∃ u, e = .returned u ∧ OwnS W.heap.size w' u (bnM x) ∧ Below W.heap.size W w') := fun hz W hb => by
    have e : bnM x = namesM x := by unfold bnM; rw [if_pos hz]
    rw [e]
    exact l3Names_any B v x W (by have := hb.size; omega) hwt (HX.out.below (hb.mono hB))
  have hno : checkM x ≠ 0 → bnM x = [] := fun h => by unfold bnM; rw [if_neg h]
  obtain ⟨N, hN⟩ : ∃ N, bnM x = N := ⟨_, rfl⟩
  obtain ⟨P, hP⟩ : ∃ P, checkM x = P := ⟨_, rfl⟩
  rw [hN] at HN hno ⊢
  rw [hP] at HC HN hno
  clear hN hP hx HX
  obtain ⟨ai, ni, ci, ao, no, co, av, nv, cv, at_, nt, ct⟩ := v
  obtain ⟨xn, hxn⟩ : ∃ n, x.name = n := ⟨_, rfl⟩
  simp only [BkV.val] at HC HN ⊢
  rw [hxn] at HC HN ⊢
  clear hxn
  have BX0 := hidOf (boxAt_new w [.string xn, .slice ai ni ci, .slice ao no co, .slice av nv cv, .slice at_ nt ct] 34)
  by_cases h0 : P = 0
  · subst h0
    clear hno
    go_enter Tryz.func9, Tryz.ntmps9
    go_wp2_with fail
    refine (HC.out _ (by go_grown)).mono ?_
    rintro e w1 ⟨rfl, b1⟩
    have HB1 := hidOf (below_boxed b1)
    have BX1 := hidOf (BX0.out.below b1)
    have c0 : w1.cell? ⟨w.heap.size, 0, none⟩ = some (.string xn) := (BX1.out.2 0 _ rfl).1
    have c1 : w1.cell? ⟨w.heap.size, 1, none⟩ = some (.slice ai ni ci) := (BX1.out.2 1 _ rfl).1
    have c2 : w1.cell? ⟨w.heap.size, 2, none⟩ = some (.slice ao no co) := (BX1.out.2 2 _ rfl).1
    have c3 : w1.cell? ⟨w.heap.size, 3, none⟩ = some (.slice av nv cv) := (BX1.out.2 3 _ rfl).1
    have c4 : w1.cell? ⟨w.heap.size, 4, none⟩ = some (.slice at_ nt ct) := (BX1.out.2 4 _ rfl).1
    have sx : w.heap.size < w1.heap.size := BX1.out.1
    clear b1
    go_wp2_with fail
    refine (HN.out trivial _ HB1.out).mono ?_
    rintro e w2 ⟨u, rfl, o2, b2⟩
    obtain ⟨a2, c2', e2, _, f2⟩ := o2.free
    subst e2
    have HF := hidOf (f2.low HB1.out.size)
    have HB2 : Hid (Below w.heap.size w w2) := HB1.out.trans (b2.mono HB1.out.size)
    clear o2 b2 f2
    go_wp2_with fail
    go_ret
    exact ⟨_, _, rfl, HF.out, HB2.out⟩
  · have h0' : (P != 0) = true := by simp [h0]
    have e0 := hno h0
    subst e0
    clear hno
    go_enter Tryz.func9, Tryz.ntmps9
    go_wp2_with fail
    refine (HC.out _ (by go_grown)).mono ?_
    rintro e w1 ⟨rfl, b1⟩
    have HB1 := hidOf (below_boxed b1)
    clear b1
    go_wp2_with fail
    go_ret
    exact ⟨none, 0, rfl, ⟨⟨rfl, .inl rfl⟩, .inl rfl⟩, HB1.out⟩

theorem implBlockNames_any (B : Nat) (v : BkV) (x : Bk) (w : World) (hB : B ≤ w.heap.size) (hwt : wtBk x ≤ 1048576) (hx : IsBk B w v x) (hT : Tabs w) :
    Calls Tryz.prog 11 #[v.val x.name] w fun e w' => ∃ a c, e = .returned (.slice a (bnM x).length c) ∧ FreeS w.heap.size w' a (bnM x).length (bnM x) ∧ Below w.heap.size w w' := by
  have HX := hidOf hx
  have HC : Hid (∀ W, Below w.heap.size w W → Calls Tryz.prog 44 #[v.val x.name] W fun e w' => e = .returned (.int .i64 (checkM x)) ∧ Below W.heap.size W w') := fun W hb => implBlockCheck_any B v x W (hT.below hb) (by have := hb.size; omega) hwt (HX.out.below (hb.mono hB))
  have HN : Hid (checkM x = 0 → ∀ W, Below w.heap.size w W → Calls Tryz.prog 45 #[v.val x.name] W fun e w' => ∃ u, e = .returned u ∧ OwnS W.heap.size w' u (bnM x) ∧ Below W.heap.size W w') := fun hz W hb => by
    have e : bnM x = namesM x := by unfold bnM; rw [if_pos hz]
    rw [e]
    rw [names_eq (check_names hz)]
    exact namesOf_any B v x W (by have := hb.size; omega) hwt (check_few hz) (HX.out.below (hb.mono hB))
  have hno : checkM x ≠ 0 → bnM x = [] := fun h => by unfold bnM; rw [if_neg h]
  obtain ⟨N, hN⟩ : ∃ N, bnM x = N := ⟨_, rfl⟩
  obtain ⟨P, hP⟩ : ∃ P, checkM x = P := ⟨_, rfl⟩
  rw [hN] at HN hno ⊢
  rw [hP] at HC HN hno
  clear hN hP hx HX hT
  obtain ⟨ai, ni, ci, ao, no, co, av, nv, cv, at_, nt, ct⟩ := v
  obtain ⟨xn, hxn⟩ : ∃ n, x.name = n := ⟨_, rfl⟩
  simp only [BkV.val] at HC HN ⊢
  rw [hxn] at HC HN ⊢
  clear hxn
  have BX0 := hidOf (boxAt_new w [.string xn, .slice ai ni ci, .slice ao no co, .slice av nv cv, .slice at_ nt ct] 34)
  by_cases h0 : P = 0
  · subst h0
    clear hno
    go_enter Tryz.func11, Tryz.ntmps11
    go_wp2_with fail
    refine (HC.out _ (by go_grown)).mono ?_
    rintro e w1 ⟨rfl, b1⟩
    have HB1 := hidOf (below_boxed b1)
    have BX1 := hidOf (BX0.out.below b1)
    have c0 : w1.cell? ⟨w.heap.size, 0, none⟩ = some (.string xn) := (BX1.out.2 0 _ rfl).1
    have c1 : w1.cell? ⟨w.heap.size, 1, none⟩ = some (.slice ai ni ci) := (BX1.out.2 1 _ rfl).1
    have c2 : w1.cell? ⟨w.heap.size, 2, none⟩ = some (.slice ao no co) := (BX1.out.2 2 _ rfl).1
    have c3 : w1.cell? ⟨w.heap.size, 3, none⟩ = some (.slice av nv cv) := (BX1.out.2 3 _ rfl).1
    have c4 : w1.cell? ⟨w.heap.size, 4, none⟩ = some (.slice at_ nt ct) := (BX1.out.2 4 _ rfl).1
    have sx : w.heap.size < w1.heap.size := BX1.out.1
    clear b1
    go_wp2_with fail
    refine (HN.out trivial _ HB1.out).mono ?_
    rintro e w2 ⟨u, rfl, o2, b2⟩
    obtain ⟨a2, c2', e2, _, f2⟩ := o2.free
    subst e2
    have HF := hidOf (f2.low HB1.out.size)
    have HB2 : Hid (Below w.heap.size w w2) := HB1.out.trans (b2.mono HB1.out.size)
    clear o2 b2 f2
    go_wp2_with fail
    go_ret
    exact ⟨_, _, rfl, HF.out, HB2.out⟩
  · have h0' : (P != 0) = true := by simp [h0]
    have e0 := hno h0
    subst e0
    clear hno
    go_enter Tryz.func11, Tryz.ntmps11
    go_wp2_with fail
    refine (HC.out _ (by go_grown)).mono ?_
    rintro e w1 ⟨rfl, b1⟩
    have HB1 := hidOf (below_boxed b1)
    clear b1
    go_wp2_with fail
    go_ret
    exact ⟨none, 0, rfl, ⟨⟨rfl, .inl rfl⟩, .inl rfl⟩, HB1.out⟩
end Go.Proofs.YtceokbmejnopoaaGreatDoor
