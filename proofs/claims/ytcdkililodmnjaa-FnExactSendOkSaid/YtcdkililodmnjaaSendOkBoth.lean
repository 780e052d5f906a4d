/- SendOk, by the program and by the model. -/
import Derived.Test.YtcdkililodmnjaaEndLists
namespace Go.Proofs.Ytcdkililodmnjaa
open Go Go.RowKit Go.PlainAid
set_option linter.unusedSimpArgs false
set_option linter.unusedVariables false

theorem lists_boxedSend {B : Nat} {w : World} {a : Option Addr} {n : Nat} {l : List (List Int)} (h : IsArr 1 QIs B w a n l) (hB : B ≤ w.heap.size) (o : Obj) : IsArr 1 QIs B (w.alloc o) a n l :=
  h.below (QIs.below ((Below.refl _ _).alloc hB _)) ((Below.refl _ _).alloc hB _)
set_option maxHeartbeats 800000 in
set_option maxRecDepth 100000 in
theorem l8SendOk_any (B : Nat) (b : Int) (a : Option Addr) (n c : Nat) (l : List (List Int)) (w : World) (hn : n ≤ maxLen) (hB : B ≤ w.heap.size) (hz : IsArr 1 QIs B w a n l) :
    Calls Try.prog 33 #[.agg #[.int .i64 b, .slice a n c]] w fun e w' => e = .returned (.bool (sendB b l)) ∧ Below w.heap.size w w' := by
  have hl := hz.1
  have HV : Hid (∀ o, Calls Try.prog 41 #[.slice a n c] (w.alloc o) fun e w' => e = .returned (.bool (listsB l)) ∧ Below (w.alloc o).heap.size (w.alloc o) w') := fun o => l8Lists_any B a n c l (w.alloc o) hn (by simp; omega) (lists_boxedSend hz hB o)
  have HI := hidOf (fun w => l1In_any b 0 (9999 - (n : Int)) w)
  unfold sendB
  rw [hl]
  have hL : listsB l = true → n ≤ 3 := by unfold listsB; rw [hl]; intro h; simp at h; exact h.1
  obtain ⟨D, hD⟩ : ∃ D, listsB l = D := ⟨_, rfl⟩
  rw [hD] at HV hL ⊢
  clear hD hz
  unfold maxLen at hn
  have BX := hidOf (boxAt_new w [.int .i64 b, .slice a n c] 38)
  cases D with
  | false =>
    go_enter Try.func33, Try.ntmps33
    go_wp2_with fail
    refine (HV.out _).mono ?_
    rintro e w1 ⟨rfl, hb1⟩
    have HB1 := hidOf (below_boxed hb1)
    clear hb1 hL
    go_wp2_with fail
    go_ret
    exact ⟨ret_bool (by simp), HB1.out⟩
  | true =>
    have hn3 := hL rfl
    clear hL
    have hw : IntKind.i64.wrap (9999 - (n : Int)) = 9999 - n := by rw [IntKind.wrap_i64]; omega
    go_enter Try.func33, Try.ntmps33
    go_wp2_with fail
    refine (HV.out _).mono ?_
    rintro e w1 ⟨rfl, hb1⟩
    have HB1 := hidOf (below_boxed hb1)
    have BX1 := hidOf (BX.out.below hb1)
    have c0 : w1.cell? ⟨w.heap.size, 0, none⟩ = some (.int .i64 b) := (BX1.out.2 0 _ rfl).1
    have c1 : w1.cell? ⟨w.heap.size, 1, none⟩ = some (.slice a n c) := (BX1.out.2 1 _ rfl).1
    have s1 := BX1.out.1
    clear hb1
    go_wp2_with fail
    refine (HI.out _).mono ?_
    rintro e w' ⟨rfl, rfl⟩
    go_wp2_with fail
    go_ret
    exact ⟨ret_bool (by simp), HB1.out⟩
theorem specSendOk_any (B : Nat) (b : Int) (a : Option Addr) (n c : Nat) (l : List (List Int)) (w : World) (hn : n ≤ maxLen) (hB : B ≤ w.heap.size) (hz : IsArr 1 QIs B w a n l) :
    Calls Try.prog 15 #[.agg #[.int .i64 b, .slice a n c]] w fun e w' => e = .returned (.bool (sendB b l)) ∧ Below w.heap.size w w' := by
  have HO : Hid (∀ o, Calls Try.prog 33 #[.agg #[.int .i64 b, .slice a n c]] (w.alloc o) fun e w' => e = .returned (.bool (sendB b l)) ∧ Below (w.alloc o).heap.size (w.alloc o) w') := fun o => l8SendOk_any B b a n c l _ hn (by simp; omega) (lists_boxedSend hz hB o)
  clear hz
  go_enter Try.func15, Try.ntmps15
  go_wp2_with fail
  refine (HO.out _).mono ?_
  rintro e w1 ⟨rfl, hb⟩
  have HB := hidOf (below_boxed hb)
  clear hb
  go_wp2_with fail
  go_ret
  exact ⟨rfl, HB.out⟩
set_option maxHeartbeats 800000 in
set_option maxRecDepth 100000 in
theorem implSendOk_any (B : Nat) (b : Int) (a : Option Addr) (n c : Nat) (l : List (List Int)) (w : World) (hn : n ≤ maxLen) (hB : B ≤ w.heap.size) (hz : IsArr 1 QIs B w a n l) :
    Calls Try.prog 17 #[.agg #[.int .i64 b, .slice a n c]] w fun e w' => e = .returned (.bool (sendB b l)) ∧ Below w.heap.size w w' := by
  have hl := hz.1
  have HV : Hid (∀ o, Calls Try.prog 35 #[.slice a n c] (w.alloc o) fun e w' => e = .returned (.bool (listsB l)) ∧ w' = w.alloc o) := fun o => areAtEnd_any B a n c l (w.alloc o) hn (lists_boxedSend hz hB o)
  unfold sendB
  rw [hl]
  have hL : listsB l = true → n ≤ 3 := by unfold listsB; rw [hl]; intro h; simp at h; exact h.1
  obtain ⟨D, hD⟩ : ∃ D, listsB l = D := ⟨_, rfl⟩
  rw [hD] at HV hL ⊢
  clear hD hz
  unfold maxLen at hn
  cases D with
  | false =>
    go_enter Try.func17, Try.ntmps17
    go_wp2_with fail
    refine (HV.out _).mono ?_
    rintro e w' ⟨rfl, hw'⟩
    rw [hw']
    clear hw' w' hL
    go_wp2_with fail
    go_ret
    exact ⟨ret_bool (by simp), by go_grown⟩
  | true =>
    have hn3 := hL rfl
    clear hL
    have hw : IntKind.i64.wrap (9999 - (n : Int)) = 9999 - n := by rw [IntKind.wrap_i64]; omega
    by_cases h1 : 0 ≤ b
    · go_enter Try.func17, Try.ntmps17
      go_wp2_with fail
      refine (HV.out _).mono ?_
      rintro e w' ⟨rfl, hw'⟩
      rw [hw']
      clear hw' w'
      go_wp2_with fail
      go_ret
      exact ⟨ret_bool (by by_cases h2 : b ≤ 9999 - (n : Int) <;> simp [h1, h2]), by go_grown⟩
    · go_enter Try.func17, Try.ntmps17
      go_wp2_with fail
      refine (HV.out _).mono ?_
      rintro e w' ⟨rfl, hw'⟩
      rw [hw']
      clear hw' w'
      go_wp2_with fail
      go_ret
      exact ⟨ret_bool (by simp [h1]; try omega), by go_grown⟩
end Go.Proofs.Ytcdkililodmnjaa
