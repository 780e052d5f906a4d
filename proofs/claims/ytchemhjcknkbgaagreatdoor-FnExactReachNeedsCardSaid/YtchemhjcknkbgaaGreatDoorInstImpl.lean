/- The program's InstOk. -/
import Derived.Test.YtchemhjcknkbgaaGreatDoorInstSpec
import Derived.Test.YtchemhjcknkbgaaGreatDoorBunY45
namespace Go.Proofs.YtchemhjcknkbgaaGreatDoor
open Go Go.RowKit Go.PlainAid
set_option linter.unusedSimpArgs false
set_option linter.unusedVariables false

theorem check_names {x : Bk} (h : checkM x = 0) : NamesOk x := by
  by_cases hn : NamesOk x
  · exact hn
  · unfold checkM at h
    rw [if_pos hn] at h
    cases h
theorem check_few {x : Bk} (h : checkM x = 0) : FewNames x := few_of (check_names h).1.2.1 (check_names h).1.2.2.1 (check_names h).1.2.2.2.1

set_option maxHeartbeats 1600000 in
set_option maxRecDepth 100000 in
theorem isInst_any (B : Nat) (v : BkV) (x : Bk) (st : Int) (a : Option Addr) (n c : Nat) (vs : List Int) (w : World) (hok : checkM x = 0) (hB : B ≤ w.heap.size) (hwt : wtBk x ≤ 1048576) (hx : IsBk B w v x) (hn : n ≤ maxLen) (hz : IsInts B w a n vs) :
    Calls Tryz.prog 99 #[v.val x.name, .agg #[.int .i64 st, .slice a n c]] w fun e w' => e = .returned (.bool (instB x st vs)) ∧ Below w.heap.size w w' := by
  have HX := hidOf hx
  have hnt : x.states.length = v.nt := hx.states.1
  have hnb : v.nt ≤ 1048576 := by have := (wtBk_parts hwt).2.2.2.2.2.2.2.1; omega
  have HV : Hid (∀ m : Nat, ∀ W, Below w.heap.size w W → Calls Tryz.prog 56 #[.slice a n c, .int .i64 m] W fun e w' => e = .returned (.bool (decide (n = m) && all32 vs)) ∧ w' = W) := fun m W hb => areValues_any B a n c m vs W hn (hz.below (hb.mono hB))
  have HNM : Hid (∀ W, Below w.heap.size w W → Calls Tryz.prog 41 #[v.val x.name] W fun e w' => ∃ a' c', e = .returned (.slice a' (namesM x).length c') ∧ Below W.heap.size W w') := fun W hb => (namesOf_any B v x W (by have := hb.size; omega) hwt (check_few hok) (HX.out.below (hb.mono hB))).mono fun e w' ⟨u, h1, h2, h3⟩ => by
    obtain ⟨a', c', e', _⟩ := h2.form
    exact ⟨a', c', by rw [h1, e', names_eq (check_names hok)], h3⟩
  unfold instB
  rw [hnt, hz.1]
  obtain ⟨NN, hNN⟩ : ∃ k, (namesM x).length = k := ⟨_, rfl⟩
  rw [hNN] at HNM ⊢
  obtain ⟨D, hD⟩ : ∃ D, all32 vs = D := ⟨_, rfl⟩
  rw [hD] at HV ⊢
  unfold maxLen at hn
  clear hNN hD hz hwt hx HX hnt hok
  obtain ⟨ai, ni, ci, ao, no, co, av, nv, cv, at_, nt, ct⟩ := v
  obtain ⟨xn, hxn⟩ : ∃ n, x.name = n := ⟨_, rfl⟩
  simp only [BkV.val] at HNM ⊢
  rw [hxn] at HNM ⊢
  clear hxn
  simp only [] at hnb
  have HB0 : Hid (Below w.heap.size w ((w.alloc (.cells #[.string xn, .slice ai ni ci, .slice ao no co, .slice av nv cv, .slice at_ nt ct] 34)).alloc (.cells #[.int .i64 st, .slice a n c] 45))) := ((Below.refl _ _).alloc (Nat.le_refl _) _).alloc (by simp) _
  by_cases h1 : 0 ≤ st
  · by_cases h2 : st < nt
    · have hP : decide (0 ≤ st ∧ st ≤ (nt : Int) - 1) = true := decide_eq_true ⟨h1, by omega⟩
      rw [hP]
      clear hP
      go_enter Tryz.func99, Tryz.ntmps99
      go_wp2_with fail
      go_region_held3 (fun w' => w'.cell? ⟨w.heap.size, 0, none⟩ = some (.string xn) ∧ w'.cell? ⟨w.heap.size, 1, none⟩ = some (.slice ai ni ci) ∧ w'.cell? ⟨w.heap.size, 2, none⟩ = some (.slice ao no co) ∧ w'.cell? ⟨w.heap.size, 3, none⟩ = some (.slice av nv cv) ∧ w'.cell? ⟨w.heap.size, 4, none⟩ = some (.slice at_ nt ct) ∧ w'.cell? ⟨w.heap.size + 1, 0, none⟩ = some (.int .i64 st) ∧ w'.cell? ⟨w.heap.size + 1, 1, none⟩ = some (.slice a n c)) (simp [go_sem, *])
        (first
         | (go_at_call 41; refine (HNM.out _ (by first | exact HB0.out | exact below_drew1 HB0.out | exact drewN HB0.out _)).mono ?_; rintro e w1 ⟨a', c', rfl, b1⟩; have HB1 : Hid (Below w.heap.size w w1) := HB0.out.trans ((undrew b1).mono HB0.out.size); have hs1 : w.heap.size + 1 < w1.heap.size := (by have := b1.size; simp at this; omega); have ht1 : w.heap.size < w1.heap.size := (by omega); obtain ⟨hc1, hf1⟩ := bcell (undrew b1); clear b1 hf1)
         | (go_at_call 56; refine (HV.out _ _ HB1.out).mono ?_; rintro e w' ⟨rfl, hw'⟩; rw [hw']; clear hw' w'))
      all_goals
        go_wp2_with fail
        go_ret
        exact ⟨ret_bool (by simp), HB1.out⟩
    · have hP : decide (0 ≤ st ∧ st ≤ (nt : Int) - 1) = false := decide_eq_false (by omega)
      rw [hP]
      clear hP
      have h1d : decide (0 ≤ st) = true := decide_eq_true h1
      have h2d : decide (st < (nt : Int)) = false := decide_eq_false h2
      go_enter Tryz.func99, Tryz.ntmps99
      go_wp2_with fail
      go_quiet (fail)
      go_wp2_with fail
      go_ret
      exact ⟨rfl, drewN HB0.out _⟩
  · have hP : decide (0 ≤ st ∧ st ≤ (nt : Int) - 1) = false := decide_eq_false (by omega)
    rw [hP]
    clear hP
    have h1d : decide (0 ≤ st) = false := decide_eq_false h1
    go_enter Tryz.func99, Tryz.ntmps99
    go_wp2_with fail
    go_quiet (fail)
    go_wp2_with fail
    go_ret
    exact ⟨rfl, drewN HB0.out _⟩

theorem implInstOk_any (B : Nat) (v : BkV) (x : Bk) (st : Int) (a : Option Addr) (n c : Nat) (vs : List Int) (w : World) (hB : B ≤ w.heap.size) (hwt : wtBk x ≤ 1048576) (hx : IsBk B w v x) (hn : n ≤ maxLen) (hz : IsInts B w a n vs) (hT : Tabs w) :
    Calls Tryz.prog 55 #[v.val x.name, .agg #[.int .i64 st, .slice a n c]] w fun e w' => e = .returned (.bool (instOkB x st vs)) ∧ Below w.heap.size w w' := by
  have HX := hidOf hx
  have HZ := hidOf hz
  have HC : Hid (∀ W, Below w.heap.size w W → Calls Tryz.prog 38 #[v.val x.name] W fun e w' => e = .returned (.int .i64 (checkM x)) ∧ Below W.heap.size W w') := fun W hb => implBlockCheck_any B v x W (hT.below hb) (by have := hb.size; omega) hwt (HX.out.below (hb.mono hB))
  have HO : Hid (checkM x = 0 → ∀ W, Below w.heap.size w W → Calls Tryz.prog 99 #[v.val x.name, .agg #[.int .i64 st, .slice a n c]] W fun e w' => e = .returned (.bool (instB x st vs)) ∧ Below W.heap.size W w') := fun hok W hb => isInst_any B v x st a n c vs W hok (by have := hb.size; omega) hwt (HX.out.below (hb.mono hB)) hn (HZ.out.below (hb.mono hB))
  unfold instOkB
  obtain ⟨D, hD⟩ : ∃ D, instB x st vs = D := ⟨_, rfl⟩
  rw [hD] at HO ⊢
  obtain ⟨P, hP⟩ : ∃ P, checkM x = P := ⟨_, rfl⟩
  rw [hP] at HC HO ⊢
  clear hD hP hx HX hz HZ hT
  obtain ⟨ai, ni, ci, ao, no, co, av, nv, cv, at_, nt, ct⟩ := v
  obtain ⟨xn, hxn⟩ : ∃ n, x.name = n := ⟨_, rfl⟩
  simp only [BkV.val] at HC HO ⊢
  rw [hxn] at HC HO ⊢
  clear hxn
  have HB0 : Hid (Below w.heap.size w ((w.alloc (.cells #[.string xn, .slice ai ni ci, .slice ao no co, .slice av nv cv, .slice at_ nt ct] 34)).alloc (.cells #[.int .i64 st, .slice a n c] 45))) := ((Below.refl _ _).alloc (Nat.le_refl _) _).alloc (by simp) _
  have BX0 : Hid (BoxAt w.heap.size [.string xn, .slice ai ni ci, .slice ao no co, .slice av nv cv, .slice at_ nt ct] ((w.alloc (.cells #[.string xn, .slice ai ni ci, .slice ao no co, .slice av nv cv, .slice at_ nt ct] 34)).alloc (.cells #[.int .i64 st, .slice a n c] 45))) := (boxAt_new w [.string xn, .slice ai ni ci, .slice ao no co, .slice av nv cv, .slice at_ nt ct] 34).below ((Below.refl _ _).alloc (Nat.le_refl _) _)
  have BY0 : Hid (BoxAt (w.heap.size + 1) [.int .i64 st, .slice a n c] ((w.alloc (.cells #[.string xn, .slice ai ni ci, .slice ao no co, .slice av nv cv, .slice at_ nt ct] 34)).alloc (.cells #[.int .i64 st, .slice a n c] 45))) := by
    have := boxAt_new (w.alloc (.cells #[.string xn, .slice ai ni ci, .slice ao no co, .slice av nv cv, .slice at_ nt ct] 34)) [.int .i64 st, .slice a n c] 45
    show BoxAt _ _ _
    simpa using this
  by_cases h0 : P = 0
  · subst h0
    go_enter Tryz.func55, Tryz.ntmps55
    go_wp2_with fail
    refine (HC.out _ HB0.out).mono ?_
    rintro e w1 ⟨rfl, b1⟩
    have HB1 : Hid (Below w.heap.size w w1) := HB0.out.trans (b1.mono HB0.out.size)
    have BX1 := hidOf (BX0.out.below b1)
    have BY1 := hidOf (BY0.out.below b1)
    have c0 : w1.cell? ⟨w.heap.size, 0, none⟩ = some (.string xn) := (BX1.out.2 0 _ rfl).1
    have c1 : w1.cell? ⟨w.heap.size, 1, none⟩ = some (.slice ai ni ci) := (BX1.out.2 1 _ rfl).1
    have c2 : w1.cell? ⟨w.heap.size, 2, none⟩ = some (.slice ao no co) := (BX1.out.2 2 _ rfl).1
    have c3 : w1.cell? ⟨w.heap.size, 3, none⟩ = some (.slice av nv cv) := (BX1.out.2 3 _ rfl).1
    have c4 : w1.cell? ⟨w.heap.size, 4, none⟩ = some (.slice at_ nt ct) := (BX1.out.2 4 _ rfl).1
    have d0 : w1.cell? ⟨w.heap.size + 1, 0, none⟩ = some (.int .i64 st) := (BY1.out.2 0 _ rfl).1
    have d1 : w1.cell? ⟨w.heap.size + 1, 1, none⟩ = some (.slice a n c) := (BY1.out.2 1 _ rfl).1
    have sx : w.heap.size < w1.heap.size := BX1.out.1
    have sy : w.heap.size + 1 < w1.heap.size := BY1.out.1
    clear b1
    go_wp2_with fail
    refine (HO.out trivial _ HB1.out).mono ?_
    rintro e w2 ⟨rfl, b2⟩
    have HB2 : Hid (Below w.heap.size w w2) := HB1.out.trans (b2.mono HB1.out.size)
    clear b2
    go_wp2_with fail
    go_ret
    exact ⟨ret_bool (by simp), HB2.out⟩
  · have h0' : (P == 0) = false := by simp [h0]
    go_enter Tryz.func55, Tryz.ntmps55
    go_wp2_with fail
    refine (HC.out _ HB0.out).mono ?_
    rintro e w1 ⟨rfl, b1⟩
    have HB1 : Hid (Below w.heap.size w w1) := HB0.out.trans (b1.mono HB0.out.size)
    clear b1
    go_wp2_with fail
    go_ret
    exact ⟨ret_bool (by simp [h0]), HB1.out⟩
end Go.Proofs.YtchemhjcknkbgaaGreatDoor
