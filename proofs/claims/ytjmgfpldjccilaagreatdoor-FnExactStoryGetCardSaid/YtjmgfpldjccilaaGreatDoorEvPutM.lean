/- How the model writes an event. -/
import Derived.Test.YtjmgfpldjccilaaGreatDoorEvOkM
import Derived.Test.YtjmgfpldjccilaaGreatDoorEvPutR
namespace Go.Proofs.YtjmgfpldjccilaaGreatDoor
open Go Go.RowKit Go.PlainAid
set_option linter.unusedSimpArgs false
set_option linter.unusedVariables false

theorem l26Words_any (w : World) : Calls Tryz.prog 53 #[] w fun e w' => e = .returned (.slice (some ⟨w.heap.size, 0, none⟩) 10 10) ∧ IsStrs w'.heap.size w' (some ⟨w.heap.size, 0, none⟩) 10 (wordsL.map bt8) ∧ Below w.heap.size w w' := by
  go_enter Tryz.func53, Tryz.ntmps53
  go_wp2_with fail
  go_ret
  refine ⟨rfl, ⟨rfl, .inr ⟨_, 0, rfl, by simp, fun i hi => ?_⟩⟩, (Below.refl _ _).alloc (Nat.le_refl _) _⟩
  rw [Nat.zero_add]
  match i, hi with
  | 0, _ => simp [go_sem, wordsL, bt8]
  | 1, _ => simp [go_sem, wordsL, bt8]
  | 2, _ => simp [go_sem, wordsL, bt8]
  | 3, _ => simp [go_sem, wordsL, bt8]
  | 4, _ => simp [go_sem, wordsL, bt8]
  | 5, _ => simp [go_sem, wordsL, bt8]
  | 6, _ => simp [go_sem, wordsL, bt8]
  | 7, _ => simp [go_sem, wordsL, bt8]
  | 8, _ => simp [go_sem, wordsL, bt8]
  | 9, _ => simp [go_sem, wordsL, bt8]
  | i + 10, h => simp [wordsL] at h; omega

theorem sp8' : (⟨#[32]⟩ : ByteArray) = bt8 [32] := rfl
set_option maxHeartbeats 6400000 in
set_option maxRecDepth 100000 in
theorem l26Put_any (B : Nat) (k t m : Int) (a : Option Addr) (n c : Nat) (l : List Int) (w : World) (hB : B ≤ w.heap.size) (hz : IsInts B w a n l) (hok : okE (k, t, m, l) = true) :
    Calls Tryz.prog 39 #[.agg #[.int .i64 k, .int .i64 t, .int .i64 m, .slice a n c]] w fun e w' => e = .returned (.string (bt8 (evT (k, t, m, l)))) ∧ Below w.heap.size w w' := by
  have ok := okE_iff.1 hok
  have ok1 := ok.kind
  have ok2 := ok.at_
  have ok3 := ok.num
  have ok5 := ok.push
  simp only [] at ok1 ok2 ok3 ok5
  obtain ⟨kk, rfl⟩ : ∃ kk : Nat, k = kk := ⟨k.toNat, by omega⟩
  have hkk : kk < 10 := by omega
  have hl := hz.1
  have HR : Hid (evT (kk, t, m, l) = wd kk ++ 32 :: (Lib.itoa t ++ tailT (kk, t, m, l))) := rfl
  have hb0 : Below w.heap.size w (w.alloc (.cells #[.int .i64 kk, .int .i64 t, .int .i64 m, .slice a n c] 26)) := (Below.refl _ _).alloc (Nat.le_refl _) _
  have BX0 := hidOf (boxAt_new w [.int .i64 kk, .int .i64 t, .int .i64 m, .slice a n c] 26)
  have HIT := hidOf (fun W => l1Dec_any t W (by simp [in32]; omega))
  have HIM := hidOf (fun W => l1Dec_any m W (by simp [in32]; omega))
  have HVT : Hid (l ≠ [] → ∀ W, Below w.heap.size w W → Calls Tryz.prog 68 #[.slice a n c] W fun e w' => e = .returned (.string (bt8 (valsT l))) ∧ Below W.heap.size W w') := fun hne W hb =>
    l7Vals_any B a n c l W (Nat.le_trans hB hb.size) (hz.below (hb.mono hB)) (by
      rcases ok5 with h | h
      · exact absurd h hne
      · exact h.2.2) (by
      rcases ok5 with h | h
      · exact absurd h hne
      · exact h.2.1) hne
  obtain ⟨X, hX⟩ : ∃ X, bt8 (wd kk) = X := ⟨_, rfl⟩
  obtain ⟨Y, hY⟩ : ∃ Y, bt8 (Lib.itoa t) = Y := ⟨_, rfl⟩
  obtain ⟨Z, hZ⟩ : ∃ Z, bt8 (Lib.itoa m) = Z := ⟨_, rfl⟩
  obtain ⟨V, hV⟩ : ∃ V, bt8 (valsT l) = V := ⟨_, rfl⟩
  have sX : X.size ≤ 5 := by rw [← hX, bt8_size]; exact wd_len _ (by omega)
  have sY : Y.size ≤ 6 := by rw [← hY, bt8_size]; exact itoa_len6 ok2.1 ok2.2
  have sZ : Z.size ≤ 6 := by rw [← hZ, bt8_size]; exact itoa_len6 ok3.1 ok3.2
  have sV : V.size ≤ 36 := by
    rw [← hV, bt8_size]
    rcases ok5 with h | h
    · rw [h]; simp [valsT, Lib.join]
    · have := valsT_len l h.2.2; omega
  have HWO : Hid (∀ W, Calls Tryz.prog 53 #[] W fun e w' => ∃ g, e = .returned (.slice (some ⟨g, 0, none⟩) 10 10) ∧ g < w'.heap.size ∧ w'.cell? ⟨g, kk, none⟩ = some (.string X) ∧ Below W.heap.size W w') := fun W =>
    (l26Words_any W).mono fun e w' ⟨h1, h2, h3⟩ => by
      rcases h2.2 with h0 | ⟨b, o, e1, hlt, hc⟩
      · cases h0
      · cases e1
        refine ⟨_, h1, hlt, ?_, h3⟩
        have := hc kk (by simp [wordsL]; omega)
        rw [Nat.zero_add] at this
        rw [this, ← hX]
        congr 2
        rw [List.getElem_map]
        unfold wd
        rw [List.getD_eq_getElem?_getD, List.getElem?_eq_getElem (by simp [wordsL]; omega)]
        rfl
  rw [hY] at HIT
  rw [hZ] at HIM
  rw [hV] at HVT
  have HX := hidOf hX
  have HY := hidOf hY
  have HZ := hidOf hZ
  have HV := hidOf hV
  have HLNE : Hid (n = 0 ↔ l = []) := ⟨fun e => List.length_eq_zero_iff.1 (by omega), fun e => by rw [← hl, e]; rfl⟩
  have H75 : Hid (l ≠ [] → (kk : Int) = 7 → False) := fun h1 h2 => by
    rcases ok5 with h | h
    · exact h1 h
    · omega
  have q1 : ¬ 9223372036854775807 < X.size + 1 := by omega
  have q2 : ¬ 9223372036854775807 < X.size + 1 + Y.size := by omega
  have q3 : (kk : Int) < 10 := by omega
  obtain ⟨w1, hw1⟩ : ∃ w1, w.alloc (.cells #[.int .i64 kk, .int .i64 t, .int .i64 m, .slice a n c] 26) = w1 := ⟨_, rfl⟩
  rw [hw1] at hb0 BX0
  have HW1 := hidOf hw1
  have HB1 := hidOf hb0
  have c0 : w1.cell? ⟨w.heap.size, 0, none⟩ = some (.int .i64 kk) := (BX0.out.2 0 _ rfl).1
  have c1 : w1.cell? ⟨w.heap.size, 1, none⟩ = some (.int .i64 t) := (BX0.out.2 1 _ rfl).1
  have s1 := BX0.out.1
  clear hz ok hX hY hZ hV hl ok5 hok hw1 hb0
  go_enter Tryz.func39, Tryz.ntmps39
  go_wp2_with fail
  rw [HW1.out]
  refine regionXEP w.heap.size kk t X Y s1 q3 q1 q2 c0 c1 HWO.out (fun W _ => HIT.out W) ?_
  intro x4 x5 x6 x7 x8 x9 x10 x11 x12 x13 w2 hb2
  have HB2 := hidOf (HB1.out.trans (hb2.mono HB1.out.size))
  have BX2 := hidOf (BX0.out.below hb2)
  have d0 : w2.cell? ⟨w.heap.size, 0, none⟩ = some (.int .i64 kk) := (BX2.out.2 0 _ rfl).1
  have d2 : w2.cell? ⟨w.heap.size, 2, none⟩ = some (.int .i64 m) := (BX2.out.2 2 _ rfl).1
  have d3 : w2.cell? ⟨w.heap.size, 3, none⟩ = some (.slice a n c) := (BX2.out.2 3 _ rfl).1
  have s2 := BX2.out.1
  obtain ⟨P, hP⟩ : ∃ P, X ++ (⟨#[32]⟩ : ByteArray) ++ Y = P := ⟨_, rfl⟩
  have sP : P.size ≤ 12 := by rw [← hP, ByteArray.size_append, ByteArray.size_append]; have : (⟨#[32]⟩ : ByteArray).size = 1 := rfl; omega
  have HP : Hid (P = bt8 (wd kk ++ 32 :: Lib.itoa t)) := by
    show _ = _
    rw [← hP, ← HX.out, ← HY.out, sp8', bt8_app, bt8_app]
    simp
  rw [hP]
  clear hP c0 c1 hb2
  have u1 : ¬ 9223372036854775807 < P.size + 1 := by omega
  have u2 : ¬ 9223372036854775807 < P.size + 1 + Z.size := by omega
  have u3 : ¬ 9223372036854775807 < P.size + 1 + V.size := by omega
  by_cases h0 : n = 0
  · have HE := hidOf (HLNE.out.1 h0)
    subst h0
    by_cases h7 : (kk : Int) = 7
    · have H7 := hidOf h7
      have h7b : ((kk : Int) == 7) = true := by simp [h7]
      clear h7
      go_wp2_with fail
      refine (HIM.out _).mono ?_
      rintro e w3 ⟨rfl, hb3⟩
      have HB3 := hidOf (HB2.out.trans (hb3.mono HB2.out.size))
      clear hb3
      go_wp2_with fail
      go_ret
      refine ⟨ret_txt' ?_, HB3.out⟩
      rw [HR.out, HP.out, ← HZ.out, sp8', bt8_app, bt8_app]
      unfold tailT
      rw [if_pos H7.out]
      simp
    · have H7 := hidOf h7
      have h7b : ((kk : Int) == 7) = false := by simp [h7]
      clear h7
      go_wp2_with fail
      go_ret
      refine ⟨ret_txt' ?_, HB2.out⟩
      rw [HR.out, HP.out]
      unfold tailT
      rw [if_neg H7.out, if_pos HE.out]
      simp
  · have HE : Hid (¬ l = []) := fun e => h0 (HLNE.out.2 e)
    have H7 : Hid (¬ (kk : Int) = 7) := fun h => H75.out HE.out h
    have h7b : ((kk : Int) == 7) = false := by simpa using H7.out
    have h0c : (0 : Int) < n := by omega
    go_wp2_with fail
    refine (HVT.out HE.out _ HB2.out).mono ?_
    rintro e w3 ⟨rfl, hb3⟩
    have HB3 := hidOf (HB2.out.trans (hb3.mono HB2.out.size))
    have BX3 := hidOf (BX2.out.below hb3)
    have e0 : w3.cell? ⟨w.heap.size, 0, none⟩ = some (.int .i64 kk) := (BX3.out.2 0 _ rfl).1
    have s3 := BX3.out.1
    clear hb3
    go_wp2_with fail
    go_ret
    refine ⟨ret_txt' ?_, HB3.out⟩
    rw [HR.out, HP.out, ← HV.out, sp8', bt8_app, bt8_app]
    unfold tailT
    rw [if_neg H7.out, if_neg HE.out]
    simp

set_option maxHeartbeats 1600000 in
set_option maxRecDepth 100000 in
theorem specEventPut_any (B : Nat) (k t m : Int) (a : Option Addr) (n c : Nat) (l : List Int) (w : World) (hB : B ≤ w.heap.size) (hn : n ≤ 1048577) (hz : IsInts B w a n l) :
    Calls Tryz.prog 24 #[.agg #[.int .i64 k, .int .i64 t, .int .i64 m, .slice a n c]] w fun e w' => e = .returned (.string (bt8 (putE (k, t, m, l)))) ∧ Below w.heap.size w w' := by
  have hb0 : Below w.heap.size w (w.alloc (.cells #[.int .i64 k, .int .i64 t, .int .i64 m, .slice a n c] 26)) := (Below.refl _ _).alloc (Nat.le_refl _) _
  have BX0 := hidOf (boxAt_new w [.int .i64 k, .int .i64 t, .int .i64 m, .slice a n c] 26)
  have HO := hidOf (l26Ok_any B k t m a n c l _ (by simp; omega) hn (hz.below (hb0.mono hB)))
  have HB0 := hidOf hb0
  obtain ⟨K, hK⟩ : ∃ K, okE (k, t, m, l) = K := ⟨_, rfl⟩
  rw [hK] at HO
  clear hb0
  cases K with
  | false =>
    have HR : Hid (putE (k, t, m, l) = []) := by show _ = _; unfold putE; rw [hK]; rfl
    clear hK hz
    go_enter Tryz.func24, Tryz.ntmps24
    go_wp2_with fail
    refine HO.out.mono ?_
    rintro e w1 ⟨rfl, hb1⟩
    have HB1 := hidOf (HB0.out.trans (hb1.mono HB0.out.size))
    clear hb1
    go_wp2_with fail
    go_ret
    exact ⟨ret_txt' (by rw [HR.out]; rfl), HB1.out⟩
  | true =>
    have HR : Hid (putE (k, t, m, l) = evT (k, t, m, l)) := by show _ = _; unfold putE; rw [hK]; rfl
    have HP : Hid (∀ W, Below w.heap.size w W → Calls Tryz.prog 39 #[.agg #[.int .i64 k, .int .i64 t, .int .i64 m, .slice a n c]] W fun e w' => e = .returned (.string (bt8 (evT (k, t, m, l)))) ∧ Below W.heap.size W w') := fun W hb =>
      l26Put_any B k t m a n c l W (Nat.le_trans hB hb.size) (hz.below (hb.mono hB)) hK
    clear hK hz
    go_enter Tryz.func24, Tryz.ntmps24
    go_wp2_with fail
    refine HO.out.mono ?_
    rintro e w1 ⟨rfl, hb1⟩
    have HB1 := hidOf (HB0.out.trans (hb1.mono HB0.out.size))
    have BX1 := hidOf (BX0.out.below hb1)
    have c0 : w1.cell? ⟨w.heap.size, 0, none⟩ = some (.int .i64 k) := (BX1.out.2 0 _ rfl).1
    have c1 : w1.cell? ⟨w.heap.size, 1, none⟩ = some (.int .i64 t) := (BX1.out.2 1 _ rfl).1
    have c2 : w1.cell? ⟨w.heap.size, 2, none⟩ = some (.int .i64 m) := (BX1.out.2 2 _ rfl).1
    have c3 : w1.cell? ⟨w.heap.size, 3, none⟩ = some (.slice a n c) := (BX1.out.2 3 _ rfl).1
    have s1 := BX1.out.1
    clear hb1
    go_wp2_with fail
    refine (HP.out _ HB1.out).mono ?_
    rintro e w2 ⟨rfl, hb2⟩
    have HB2 := hidOf (HB1.out.trans (hb2.mono HB1.out.size))
    clear hb2
    go_wp2_with fail
    go_ret
    exact ⟨ret_txt' (by rw [HR.out]), HB2.out⟩
end Go.Proofs.YtjmgfpldjccilaaGreatDoor
