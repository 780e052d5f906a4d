/- The model's InstOk: whether a block can be so. -/
import Derived.Test.YtchemhjcknkbgaaGreatDoorBunY38
import Derived.Test.YtchemhjcknkbgaaGreatDoorAll32
import Derived.Deep.RegionHeld3
namespace Go.Proofs.YtchemhjcknkbgaaGreatDoor
open Go Go.RowKit Go.PlainAid
set_option linter.unusedSimpArgs false
set_option linter.unusedVariables false

/-- whether a block that is ok can be so -/
def instB (x : Bk) (st : Int) (vs : List Int) : Bool := decide (0 ≤ st ∧ st ≤ (x.states.length : Int) - 1) && (decide (vs.length = (namesM x).length) && all32 vs)
def instOkB (x : Bk) (st : Int) (vs : List Int) : Bool := decide (checkM x = 0) && instB x st vs

set_option maxHeartbeats 1600000 in
set_option maxRecDepth 100000 in
theorem l4Ok_any (B : Nat) (v : BkV) (x : Bk) (st : Int) (a : Option Addr) (n c : Nat) (vs : List Int) (w : World) (hB : B ≤ w.heap.size) (hwt : wtBk x ≤ 1048576) (hx : IsBk B w v x) (hn : n ≤ maxLen) (hz : IsInts B w a n vs) :
    Calls Tryz.prog 93 #[v.val x.name, .agg #[.int .i64 st, .slice a n c]] w fun e w' => e = .returned (.bool (instB x st vs)) ∧ Below w.heap.size w w' := by
  have HX := hidOf hx
  have hnt : x.states.length = v.nt := hx.states.1
  have hnb : v.nt ≤ 1048576 := by have := (wtBk_parts hwt).2.2.2.2.2.2.2.1; omega
  have HV : Hid (∀ W, Below w.heap.size w W → Calls Tryz.prog 53 #[.slice a n c] W fun e w' => e = .returned (.bool (all32 vs)) ∧ Below W.heap.size W w') := fun W hb => l4Vals_any B a n c vs W hn (by have := hb.size; omega) (hz.below (hb.mono hB))
  have HNM : Hid (∀ W, Below w.heap.size w W → Calls Tryz.prog 33 #[v.val x.name] W fun e w' => ∃ a' c', e = .returned (.slice a' (namesM x).length c') ∧ Below W.heap.size W w') := fun W hb => (l3Names_any B v x W (by have := hb.size; omega) hwt (HX.out.below (hb.mono hB))).mono fun e w' ⟨u, h1, h2, h3⟩ => by
    obtain ⟨a', c', e', _⟩ := h2.form
    exact ⟨a', c', by rw [h1, e'], h3⟩
  have HIN := hidOf (fun w => l1In_any st 0 ((v.nt : Int) - 1) w)
  have hw : IntKind.i64.wrap ((v.nt : Int) - 1) = v.nt - 1 := by rw [IntKind.wrap_i64]; omega
  unfold instB
  rw [hnt, hz.1]
  obtain ⟨NN, hNN⟩ : ∃ k, (namesM x).length = k := ⟨_, rfl⟩
  rw [hNN] at HNM ⊢
  obtain ⟨D, hD⟩ : ∃ D, all32 vs = D := ⟨_, rfl⟩
  rw [hD] at HV ⊢
  obtain ⟨P, hP⟩ : ∃ P, decide (0 ≤ st ∧ st ≤ (v.nt : Int) - 1) = P := ⟨_, rfl⟩
  rw [hP] at HIN ⊢
  unfold maxLen at hn
  clear hNN hD hP hz hwt hx HX hnt
  obtain ⟨ai, ni, ci, ao, no, co, av, nv, cv, at_, nt, ct⟩ := v
  obtain ⟨xn, hxn⟩ : ∃ n, x.name = n := ⟨_, rfl⟩
  simp only [BkV.val] at HNM ⊢
  rw [hxn] at HNM ⊢
  clear hxn
  simp only [] at HIN hw hnb
  have HB0 : Hid (Below w.heap.size w ((w.alloc (.cells #[.string xn, .slice ai ni ci, .slice ao no co, .slice av nv cv, .slice at_ nt ct] 34)).alloc (.cells #[.int .i64 st, .slice a n c] 45))) := ((Below.refl _ _).alloc (Nat.le_refl _) _).alloc (by simp) _
  cases P with
  | false =>
    go_enter Tryz.func93, Tryz.ntmps93
    go_wp2_with fail
    go_quiet ((go_at_call 52; exact Calls.quiet_of_same (HIN.out _)))
    go_wp2_with fail
    go_ret
    exact ⟨rfl, drewN HB0.out _⟩
  | true =>
    by_cases hne : n = NN
    · subst hne
      go_enter Tryz.func93, Tryz.ntmps93
      go_wp2_with fail
      go_region_held3 (fun w' => w'.cell? ⟨w.heap.size, 0, none⟩ = some (.string xn) ∧ w'.cell? ⟨w.heap.size, 1, none⟩ = some (.slice ai ni ci) ∧ w'.cell? ⟨w.heap.size, 2, none⟩ = some (.slice ao no co) ∧ w'.cell? ⟨w.heap.size, 3, none⟩ = some (.slice av nv cv) ∧ w'.cell? ⟨w.heap.size, 4, none⟩ = some (.slice at_ nt ct) ∧ w'.cell? ⟨w.heap.size + 1, 0, none⟩ = some (.int .i64 st) ∧ w'.cell? ⟨w.heap.size + 1, 1, none⟩ = some (.slice a n c)) (simp [go_sem, *])
        (first
         | (go_at_call 52; refine (HIN.out _).mono ?_; rintro e w' ⟨rfl, hw'⟩; rw [hw']; clear hw' w')
         | (go_at_call 33; refine (HNM.out _ (by first | exact HB0.out | exact below_drew1 HB0.out | exact drewN HB0.out _)).mono ?_; rintro e w1 ⟨a', c', rfl, b1⟩; have HB1 : Hid (Below w.heap.size w w1) := HB0.out.trans ((undrew b1).mono HB0.out.size); have hs1 : w.heap.size + 1 < w1.heap.size := (by have := b1.size; simp at this; omega); have ht1 : w.heap.size < w1.heap.size := (by omega); obtain ⟨hc1, hf1⟩ := bcell (undrew b1); clear b1 hf1)
         | (go_at_call 53; refine (HV.out _ HB1.out).mono ?_; rintro e w2 ⟨rfl, b2⟩; have HB2 : Hid (Below w.heap.size w w2) := HB1.out.trans (b2.mono HB1.out.size); obtain ⟨hc2, hf2⟩ := bcell b2; clear b2 hf2))
      all_goals
        go_wp2_with fail
        go_ret
        exact ⟨ret_bool (by simp), HB2.out⟩
    · have hne' : ((n : Int) == NN) = false := by simp; omega
      go_enter Tryz.func93, Tryz.ntmps93
      go_wp2_with fail
      first
        | go_region_with (first
            | (go_at_call 52; refine (HIN.out _).mono ?_; rintro e w' ⟨rfl, hw'⟩; rw [hw']; clear hw' w')
            | (go_at_call 33; refine (HNM.out _ (by first | exact HB0.out | exact below_drew1 HB0.out | exact drewN HB0.out _)).mono ?_; rintro e w1 ⟨a', c', rfl, b1⟩; have HB1 : Hid (Below w.heap.size w w1) := HB0.out.trans ((undrew b1).mono HB0.out.size); have hs1 : w.heap.size + 1 < w1.heap.size := (by have := b1.size; simp at this; omega); have ht1 : w.heap.size < w1.heap.size := (by omega); obtain ⟨hc1, hf1⟩ := bcell (undrew b1); clear b1 hf1))
        | fail
      all_goals
        go_wp2_with fail
        go_ret
        exact ⟨ret_bool (by simp [hne]), HB1.out⟩

theorem specInstOk_any (B : Nat) (v : BkV) (x : Bk) (st : Int) (a : Option Addr) (n c : Nat) (vs : List Int) (w : World) (hB : B ≤ w.heap.size) (hwt : wtBk x ≤ 1048576) (hx : IsBk B w v x) (hn : n ≤ maxLen) (hz : IsInts B w a n vs) :
    Calls Tryz.prog 51 #[v.val x.name, .agg #[.int .i64 st, .slice a n c]] w fun e w' => e = .returned (.bool (instOkB x st vs)) ∧ Below w.heap.size w w' := by
  have HX := hidOf hx
  have HZ := hidOf hz
  have HC : Hid (∀ W, Below w.heap.size w W → Calls Tryz.prog 30 #[v.val x.name] W fun e w' => e = .returned (.int .i64 (checkM x)) ∧ Below W.heap.size W w') := fun W hb => l3Check_any B v x W (by have := hb.size; omega) hwt (HX.out.below (hb.mono hB))
  have HO : Hid (∀ W, Below w.heap.size w W → Calls Tryz.prog 93 #[v.val x.name, .agg #[.int .i64 st, .slice a n c]] W fun e w' => e = .returned (.bool (instB x st vs)) ∧ Below W.heap.size W w') := fun W hb => l4Ok_any B v x st a n c vs W (by have := hb.size; omega) hwt (HX.out.below (hb.mono hB)) hn (HZ.out.below (hb.mono hB))
  unfold instOkB
  obtain ⟨D, hD⟩ : ∃ D, instB x st vs = D := ⟨_, rfl⟩
  rw [hD] at HO ⊢
  obtain ⟨P, hP⟩ : ∃ P, checkM x = P := ⟨_, rfl⟩
  rw [hP] at HC ⊢
  clear hD hP hx HX hz HZ
  obtain ⟨ai, ni, ci, ao, no, co, av, nv, cv, at_, nt, ct⟩ := v
  obtain ⟨xn, hxn⟩ : ∃ n, x.name = n := ⟨_, rfl⟩
  simp only [BkV.val] at HC HO ⊢
  rw [hxn] at HC HO ⊢
  clear hxn
  have HB0 : Hid (Below w.heap.size w ((w.alloc (.cells #[.string xn, .slice ai ni ci, .slice ao no co, .slice av nv cv, .slice at_ nt ct] 34)).alloc (.cells #[.int .i64 st, .slice a n c] 45))) := ((Below.refl _ _).alloc (Nat.le_refl _) _).alloc (by simp) _
  have BX0 : Hid (BoxAt w.heap.size [.string xn, .slice ai ni ci, .slice ao no co, .slice av nv cv, .slice at_ nt ct] ((w.alloc (.cells #[.string xn, .slice ai ni ci, .slice ao no co, .slice av nv cv, .slice at_ nt ct] 34)).alloc (.cells #[.int .i64 st, .slice a n c] 45))) := (boxAt_new w [.string xn, .slice ai ni ci, .slice ao no co, .slice av nv cv, .slice at_ nt ct] 34).below ((Below.refl _ _).alloc (Nat.le_refl _) _)
  have BY0 : Hid (BoxAt (w.heap.size + 1) [.int .i64 st, .slice a n c] ((w.alloc (.cells #[.string xn, .slice ai ni ci, .slice ao no co, .slice av nv cv, .slice at_ nt ct] 34)).alloc (.cells #[.int .i64 st, .slice a n c] 45))) := by
    have := boxAt_new (w.alloc (.cells #[.string xn, .slice ai ni ci, .slice ao no co, .slice av nv cv, .slice at_ nt ct] 34)) [.int .i64 st, .slice a n c] 45
    show BoxAt _ _ _
    simpa using this
  by_cases h0 : P = 0
  · subst h0
    go_enter Tryz.func51, Tryz.ntmps51
    go_wp2_with fail
    refine (HC.out _ HB0.out).mono ?_
    rintro e w1 ⟨rfl, b1⟩
    have HB1 : Hid (Below w.heap.size w w1) := HB0.out.trans (b1.mono HB0.out.size)
    have BX1 := hidOf (BX0.out.below b1)
    have BY1 := hidOf (BY0.out.below b1)
    have c0 : w1.cell? ⟨w.heap.size, 0, none⟩ = some (.string xn) := (BX1.out.2 0 _ rfl).1
    have c1 : w1.cell? ⟨w.heap.size, 1, none⟩ = some (.slice ai ni ci) := (BX1.out.2 1 _ rfl).1
    have c2 : w1.cell? ⟨w.heap.size, 2, none⟩ = some (.slice ao no co) := (BX1.out.2 2 _ rfl).1
    have c3 : w1.cell? ⟨w.heap.size, 3, none⟩ = some (.slice av nv cv) := (BX1.out.2 3 _ rfl).1
    have c4 : w1.cell? ⟨w.heap.size, 4, none⟩ = some (.slice at_ nt ct) := (BX1.out.2 4 _ rfl).1
    have d0 : w1.cell? ⟨w.heap.size + 1, 0, none⟩ = some (.int .i64 st) := (BY1.out.2 0 _ rfl).1
    have d1 : w1.cell? ⟨w.heap.size + 1, 1, none⟩ = some (.slice a n c) := (BY1.out.2 1 _ rfl).1
    have sx : w.heap.size < w1.heap.size := BX1.out.1
    have sy : w.heap.size + 1 < w1.heap.size := BY1.out.1
    clear b1
    go_wp2_with fail
    refine (HO.out _ HB1.out).mono ?_
    rintro e w2 ⟨rfl, b2⟩
    have HB2 : Hid (Below w.heap.size w w2) := HB1.out.trans (b2.mono HB1.out.size)
    clear b2
    go_wp2_with fail
    go_ret
    exact ⟨ret_bool (by simp), HB2.out⟩
  · have h0' : (P == 0) = false := by simp [h0]
    go_enter Tryz.func51, Tryz.ntmps51
    go_wp2_with fail
    refine (HC.out _ HB0.out).mono ?_
    rintro e w1 ⟨rfl, b1⟩
    have HB1 : Hid (Below w.heap.size w w1) := HB0.out.trans (b1.mono HB0.out.size)
    clear b1
    go_wp2_with fail
    go_ret
    exact ⟨ret_bool (by simp [h0]), HB1.out⟩
end Go.Proofs.YtchemhjcknkbgaaGreatDoor
