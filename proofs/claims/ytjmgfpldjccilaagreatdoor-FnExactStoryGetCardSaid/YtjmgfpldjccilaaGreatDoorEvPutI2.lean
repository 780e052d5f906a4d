/- EventPut of the program. -/
import Derived.Test.YtjmgfpldjccilaaGreatDoorEvPutI
namespace Go.Proofs.YtjmgfpldjccilaaGreatDoor
open Go Go.RowKit Go.PlainAid
set_option linter.unusedSimpArgs false
set_option linter.unusedVariables false

theorem sp8 : (⟨#[32]⟩ : ByteArray) = bt8 [32] := rfl
set_option maxHeartbeats 6400000 in
set_option maxRecDepth 100000 in
theorem implEventPut_any (B : Nat) (k t m : Int) (a : Option Addr) (n c : Nat) (l : List Int) (w : World) (hT : TbP w) (hB : B ≤ w.heap.size) (hn : n ≤ 1048577) (hz : IsInts B w a n l) :
    Calls Tryz.prog 12 #[.agg #[.int .i64 k, .int .i64 t, .int .i64 m, .slice a n c]] w fun e w' => e = .returned (.string (bt8 (putE (k, t, m, l)))) ∧ Below w.heap.size w w' := by
  obtain ⟨W0, hW0⟩ : ∃ W0, w.alloc (.cells #[.int .i64 k, .int .i64 t, .int .i64 m, .slice a n c] 26) = W0 := ⟨_, rfl⟩
  have hb0 : Below w.heap.size w W0 := by rw [← hW0]; exact (Below.refl _ _).alloc (Nat.le_refl _) _
  have hs0 : W0.heap.size = w.heap.size + 1 := by rw [← hW0]; simp
  have hx0 : BoxAt w.heap.size [.int .i64 k, .int .i64 t, .int .i64 m, .slice a n c] W0 := by rw [← hW0]; exact boxAt_new w _ _
  have HW0 := hidOf hW0
  clear hW0
  have hz0 := hz.below (hb0.mono hB)
  have HI := hidOf (isWritten_any B k t m a n c l W0 (by omega) hn hz0)
  obtain ⟨K, hK⟩ : ∃ K, okE (k, t, m, l) = K := ⟨_, rfl⟩
  rw [hK] at HI
  have hl := hz.1
  cases K with
  | false =>
    have HR : Hid (putE (k, t, m, l) = []) := by show _ = _; unfold putE; rw [hK]; rfl
    clear hK hz hz0 hT
    go_enter Tryz.func12, Tryz.ntmps12
    go_wp2_with fail
    rw [HW0.out]
    refine HI.out.mono ?_
    rintro e w1 ⟨rfl, hb1⟩
    have HB1 := hidOf (hb0.trans (hb1.mono (by omega)))
    clear hb1
    go_wp2_with fail
    go_ret
    exact ⟨ret_txt (by rw [HR.out]; rfl), HB1.out⟩
  | true =>
    have ok := okE_iff.1 hK
    have ok1 := ok.kind
    have ok2 := ok.at_
    have ok3 := ok.num
    have ok5 := ok.push
    simp only [] at ok1 ok2 ok3 ok5
    have HR : Hid (putE (k, t, m, l) = wd k ++ 32 :: (Lib.itoa t ++ tailT (k, t, m, l))) := by show _ = _; unfold putE; rw [hK]; rfl
    obtain ⟨kk, rfl⟩ : ∃ kk : Nat, k = kk := ⟨k.toNat, by omega⟩
    have hkk : kk < 10 := by omega
    have HTB : Hid (∀ W, Below w.heap.size w W → TbP W) := fun W hb => hT.up hb
    have HIT : Hid (∀ W, Below w.heap.size w W → Calls Tryz.prog 32 #[.int .i64 t] W fun e w' => e = .returned (.string (bt8 (Lib.itoa t))) ∧ Below W.heap.size W w') := fun W hb => itoa_any t W (hT.up hb) (by omega) (by omega)
    have HIM : Hid (∀ W, Below w.heap.size w W → Calls Tryz.prog 32 #[.int .i64 m] W fun e w' => e = .returned (.string (bt8 (Lib.itoa m))) ∧ Below W.heap.size W w') := fun W hb => itoa_any m W (hT.up hb) (by omega) (by omega)
    have HVT : Hid (l ≠ [] → ∀ W, Below w.heap.size w W → Calls Tryz.prog 33 #[.slice a n c] W fun e w' => e = .returned (.string (bt8 (valsT l))) ∧ Below W.heap.size W w') := fun hne W hb =>
      valuesText_any B a n c l W (hT.up hb) (Nat.le_trans hB hb.size) (hz.below (hb.mono hB)) (by
        rcases ok5 with h | h
        · exact absurd h hne
        · simp only [sentB, all32, h.2.2, Bool.and_true, decide_eq_true_eq]; exact h.2.1) hne
    obtain ⟨X, hX⟩ : ∃ X, bt8 (wd kk) = X := ⟨_, rfl⟩
    obtain ⟨Y, hY⟩ : ∃ Y, bt8 (Lib.itoa t) = Y := ⟨_, rfl⟩
    obtain ⟨Z, hZ⟩ : ∃ Z, bt8 (Lib.itoa m) = Z := ⟨_, rfl⟩
    obtain ⟨V, hV⟩ : ∃ V, bt8 (valsT l) = V := ⟨_, rfl⟩
    have sX : X.size ≤ 5 := by rw [← hX, bt8_size]; exact wd_len _ (by omega)
    have sY : Y.size ≤ 6 := by rw [← hY, bt8_size]; exact itoa_len6 ok2.1 ok2.2
    have sZ : Z.size ≤ 6 := by rw [← hZ, bt8_size]; exact itoa_len6 ok3.1 ok3.2
    have sV : V.size ≤ 36 := by
      rw [← hV, bt8_size]
      rcases ok5 with h | h
      · rw [h]; simp [valsT, Lib.join]
      · have := valsT_len l h.2.2; omega
    have HWORD : Hid (∀ W, Below w.heap.size w W → W.cell? ⟨0, kk, none⟩ = some (.string X)) := fun W hb => by
      rw [(hT.up hb).words kk hkk, ← hX]; rfl
    have hg0 : 0 < w.heap.size := hT.lt
    rw [hY] at HIT
    rw [hZ] at HIM
    rw [hV] at HVT
    have HX := hidOf hX
    have HY := hidOf hY
    have HZ := hidOf hZ
    have HV := hidOf hV
    have HLNE : Hid (n = 0 ↔ l = []) := ⟨fun e => List.length_eq_zero_iff.1 (by omega), fun e => by rw [← hl, e]; rfl⟩
    have s1 : (X ++ (⟨#[32]⟩ : ByteArray)).size ≤ 6 := by rw [ByteArray.size_append]; have : (⟨#[32]⟩ : ByteArray).size = 1 := rfl; omega
    clear hK hz hz0 hT ok hX hY hZ hV hl ok5
    go_enter Tryz.func12, Tryz.ntmps12
    go_wp2_with fail
    rw [HW0.out]
    refine HI.out.mono ?_
    rintro e w1 ⟨rfl, hb1⟩
    have HB1 : Hid (Below w.heap.size w w1) := hb0.trans (hb1.mono (by omega))
    have BX1 := hidOf (hx0.below hb1)
    have c0 : w1.cell? ⟨w.heap.size, 0, none⟩ = some (.int .i64 kk) := (BX1.out.2 0 _ rfl).1
    have c1 : w1.cell? ⟨w.heap.size, 1, none⟩ = some (.int .i64 t) := (BX1.out.2 1 _ rfl).1
    have c2 : w1.cell? ⟨w.heap.size, 2, none⟩ = some (.int .i64 m) := (BX1.out.2 2 _ rfl).1
    have c3 : w1.cell? ⟨w.heap.size, 3, none⟩ = some (.slice a n c) := (BX1.out.2 3 _ rfl).1
    have s1' := BX1.out.1
    have cw := HWORD.out w1 HB1.out
    have hgw : 0 < w1.heap.size := by omega
    clear hb1 hb0 hx0
    go_wp2_with fail
    have HI1 : Hid (∀ W, Below w1.heap.size w1 W → Calls Tryz.prog 32 #[.int .i64 t] W fun e w' => e = .returned (.string Y) ∧ Below W.heap.size W w') := fun W hb => HIT.out W (HB1.out.trans (hb.mono HB1.out.size))
    have q1 : ¬ 9223372036854775807 < X.size + 1 := by omega
    have q2 : ¬ 9223372036854775807 < X.size + 1 + Y.size := by omega
    have q3 : (kk : Int) < 10 := by omega
    go_region_held3 (fun w' => w'.cell? ⟨w.heap.size, 0, none⟩ = some (.int .i64 kk) ∧ w'.cell? ⟨w.heap.size, 1, none⟩ = some (.int .i64 t) ∧ w'.cell? ⟨0, kk, none⟩ = some (.string X)) (simp [go_sem, *])
      (first
        | (go_at_call 32; refine (HI1.out _ (by first | exact drewN (Below.refl _ _) 1 | go_grown)).mono ?_; rintro e w2 ⟨rfl, hb2⟩; replace hb2 : Below w1.heap.size w1 w2 := undrew hb2; have HB2 := hidOf hb2; have s2 : w.heap.size < w2.heap.size := Nat.lt_of_lt_of_le s1' hb2.size; have g2 : 0 < w2.heap.size := Nat.lt_of_lt_of_le hgw hb2.size; obtain ⟨hc1, hf1⟩ := bcell hb2; clear hb2))
    have HBW : Hid (Below w.heap.size w w2) := HB1.out.trans (HB2.out.mono HB1.out.size)
    have BX2 := hidOf (BX1.out.below HB2.out)
    have d0 : w2.cell? ⟨w.heap.size, 0, none⟩ = some (.int .i64 kk) := (BX2.out.2 0 _ rfl).1
    have d2 : w2.cell? ⟨w.heap.size, 2, none⟩ = some (.int .i64 m) := (BX2.out.2 2 _ rfl).1
    have d3 : w2.cell? ⟨w.heap.size, 3, none⟩ = some (.slice a n c) := (BX2.out.2 3 _ rfl).1
    obtain ⟨P, hP⟩ : ∃ P, X ++ (⟨#[32]⟩ : ByteArray) ++ Y = P := ⟨_, rfl⟩
    have sP : P.size ≤ 12 := by rw [← hP, ByteArray.size_append]; omega
    have HP : Hid (P = bt8 (wd kk ++ 32 :: Lib.itoa t)) := by
      show _ = _
      rw [← hP, ← HX.out, ← HY.out, sp8, bt8_app, bt8_app]
      simp
    rw [hP]
    clear hP c0 c1 c2 c3 cw hc1 hf1
    have u1 : ¬ 9223372036854775807 < P.size + 1 := by omega
    have u2 : ¬ 9223372036854775807 < P.size + 1 + Z.size := by omega
    have u3 : ¬ 9223372036854775807 < P.size + 1 + V.size := by omega
    by_cases h7 : (kk : Int) = 7
    · have H7 := hidOf h7
      have h7b : ((kk : Int) == 7) = true := by simp [h7]
      clear h7
      go_wp2_with fail
      refine (HIM.out _ HBW.out).mono ?_
      rintro e w3 ⟨rfl, hb3⟩
      have HB3 := hidOf (HBW.out.trans (hb3.mono HBW.out.size))
      clear hb3
      go_wp2_with fail
      go_ret
      refine ⟨ret_txt ?_, HB3.out⟩
      rw [HR.out, HP.out, ← HZ.out, sp8, bt8_app, bt8_app]
      unfold tailT
      rw [if_pos H7.out]
      simp
    · have H7 := hidOf h7
      have h7b : ((kk : Int) == 7) = false := by simp [h7]
      clear h7
      by_cases h0 : n = 0
      · have HE := hidOf (HLNE.out.1 h0)
        subst h0
        go_wp2_with fail
        go_ret
        refine ⟨ret_txt ?_, HBW.out⟩
        rw [HR.out, HP.out]
        unfold tailT
        rw [if_neg H7.out, if_pos HE.out]
        simp
      · have HE : Hid (¬ l = []) := fun e => h0 (HLNE.out.2 e)
        have h0b : (n : Int) > 0 := by omega
        have h0c : (0 : Int) < n := by omega
        go_wp2_with fail
        refine (HVT.out HE.out _ HBW.out).mono ?_
        rintro e w3 ⟨rfl, hb3⟩
        have HB3 := hidOf (HBW.out.trans (hb3.mono HBW.out.size))
        clear hb3
        go_wp2_with fail
        go_ret
        refine ⟨ret_txt ?_, HB3.out⟩
        rw [HR.out, HP.out, ← HV.out, sp8, bt8_app, bt8_app]
        unfold tailT
        rw [if_neg H7.out, if_neg HE.out]
        simp
end Go.Proofs.YtjmgfpldjccilaaGreatDoor
