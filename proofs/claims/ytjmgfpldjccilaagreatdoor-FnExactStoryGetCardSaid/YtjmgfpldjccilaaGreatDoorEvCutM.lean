/- The model's l1Cut: a text cut at a byte, so many times at most. -/
import Derived.Test.YtjmgfpldjccilaaGreatDoorEvTab
import Derived.Lib.IndexBytes
namespace Go.Proofs.YtjmgfpldjccilaaGreatDoor
open Go Go.RowKit Go.PlainAid
set_option linter.unusedSimpArgs false
set_option linter.unusedVariables false

def cutS (c : UInt8) (most : Nat) (s : ByteArray) : List ByteArray := (Lib.splitK [c] 0 most s.data.toList).map bt8
theorem bt_byte (s : ByteArray) (k : Nat) (h : k < s.size) (hl : k < s.data.toList.length) : bt s k = ((s.data.toList[k]'hl).toNat : Int) := by
  rw [← get_bt s k h]
  rfl
theorem drop_next {l : List UInt8} {f k : Nat} (hf : f ≤ k) (hk : k < l.length) : (l.drop f).take (k + 1 - f) = (l.drop f).take (k - f) ++ [l[k]] := by
  rw [show k + 1 - f = (k - f) + 1 by omega, List.take_succ_eq_append_getElem (by rw [List.length_drop]; omega)]
  congr 2
  rw [List.getElem_drop]
  congr 1
  omega
theorem drop_at {l : List UInt8} {f k : Nat} (hf : f ≤ k) (hk : k < l.length) : l.drop f = (l.drop f).take (k - f) ++ l[k] :: l.drop (k + 1) := by
  conv => lhs; rw [← List.take_append_drop (k - f) (l.drop f)]
  congr 1
  rw [List.drop_drop, show f + (k - f) = k by omega]
  exact List.drop_eq_getElem_cons hk

theorem cutS_len (c : UInt8) (most : Nat) (s : ByteArray) : 1 ≤ (cutS c most s).length ∧ (cutS c most s).length ≤ most + 1 := by
  have h : ∀ (k : Nat) (l : List UInt8), 1 ≤ (Lib.splitK [c] 0 k l).length ∧ (Lib.splitK [c] 0 k l).length ≤ k + 1 := by
    intro k
    induction k with
    | zero => intro l; exact ⟨Nat.le_refl _, Nat.le_refl _⟩
    | succ k ih =>
      intro l
      have e : Lib.splitK [c] 0 (k + 1) l = if Lib.index l [c] == -1 then [l] else l.take ((Lib.index l [c]).toNat + 0) :: Lib.splitK [c] 0 k (l.drop ((Lib.index l [c]).toNat + [c].length)) := rfl
      rw [e]
      split
      · simp
      · have := ih (l.drop ((Lib.index l [c]).toNat + [c].length))
        exact ⟨Nat.succ_le_succ (Nat.zero_le _), Nat.succ_le_succ this.2⟩
  unfold cutS
  rw [List.length_map]
  exact h most _
theorem cutS_sizes (c : UInt8) (most : Nat) (s : ByteArray) : ∀ x ∈ cutS c most s, x.size ≤ s.size := by
  have h : ∀ (k : Nat) (l : List UInt8), ∀ x ∈ Lib.splitK [c] 0 k l, x.length ≤ l.length := by
    intro k
    induction k with
    | zero => intro l x hx; rw [List.mem_singleton.1 hx]; exact Nat.le_refl _
    | succ k ih =>
      intro l x hx
      have e : Lib.splitK [c] 0 (k + 1) l = if Lib.index l [c] == -1 then [l] else l.take ((Lib.index l [c]).toNat + 0) :: Lib.splitK [c] 0 k (l.drop ((Lib.index l [c]).toNat + [c].length)) := rfl
      rw [e] at hx
      split at hx
      · rw [List.mem_singleton.1 hx]; exact Nat.le_refl _
      · rcases List.mem_cons.1 hx with rfl | hx
        · rw [List.length_take]; omega
        · have := ih _ x hx
          rw [List.length_drop] at this
          omega
  intro x hx
  unfold cutS at hx
  obtain ⟨y, hy, rfl⟩ := List.mem_map.1 hx
  rw [bt8_size, Lib.size_eq]
  exact h _ _ y hy

set_option maxHeartbeats 3200000 in
set_option maxRecDepth 100000 in
theorem l1Cut_any (s : ByteArray) (c : UInt8) (most : Nat) (w : World) (hs : s.size ≤ 1048576) (hm : most ≤ 1048576) :
    Calls Tryz.prog 41 #[.string s, .int .u8 (c.toNat : Int), .int .i64 (most : Int)] w fun e w' => ∃ u, e = .returned u ∧ OwnS w.heap.size w' u (cutS c most s) ∧ Below w.heap.size w w' := by
  obtain ⟨i0, hi, hz0, hz1, hz2⟩ := info_parts infoStr'
  have hb := get_bt s
  have hsl : s.data.toList.length = s.size := (Lib.size_eq s).symm
  obtain ⟨C, hC⟩ : ∃ C : Int, (c.toNat : Int) = C := ⟨_, rfl⟩
  have HC := hidOf hC
  rw [hC]
  clear hC
  go_enter Tryz.func41, Tryz.ntmps41
  go_wp2_with fail
  go_loopw [7, 8, 9] (fun u fr i wr => ∃ (k f : Nat) (L : List ByteArray), k ≤ s.size ∧ f ≤ k ∧ i = .int .i64 k ∧ fr = .int .i64 f ∧ L.length ≤ most ∧ Hid (OwnS w.heap.size wr u L) ∧ Hid (cutS c most s = L ++ (Lib.splitK [c] 0 (most - L.length) (s.data.toList.drop f)).map bt8) ∧ Hid (NoB c ((s.data.toList.drop f).take (k - f))) ∧ Below w.heap.size w wr) (fun _ _ i _ => s.size - (intOf i).toNat)
  case atStart =>
    exact ⟨0, 0, [], Nat.zero_le _, Nat.le_refl _, rfl, rfl, Nat.zero_le _, World.ownsRow_made w #[] 0 (Nat.le_refl _) (Nat.zero_le _) rfl, rfl, by show NoB _ _; simp [NoB], (Below.refl _ _).alloc (Nat.le_refl _) _⟩
  case round =>
    obtain ⟨k, f, L, hk, hf, rfl, rfl, hL, HO, HE, HN, hbel⟩ := hrel
    have hws := hbel.size
    have how := HO.out
    unfold OwnS at how
    obtain ⟨n0, hn0⟩ : ∃ n, L.length = n := ⟨_, rfl⟩
    rw [hn0] at how hL
    obtain ⟨ad, cp, hu, hcp⟩ : ∃ a c, u7 = .slice a n0 c ∧ n0 ≤ c := by
      rcases how.2 with ⟨h1, h2⟩ | ⟨g, cap, cur, h1, _, _, h4, _⟩
      · exact ⟨none, 0, by rw [h1, h2], by omega⟩
      · exact ⟨_, cap, h1, h4⟩
    subst hu
    have HOW := hidOf how
    have HN0 := hidOf hn0
    clear how hn0
    by_cases hlt : k < s.size
    · by_cases hmo : n0 < most
      · have hkl : k < s.data.toList.length := by omega
        have hbk := bt_byte s k hlt hkl
        have hda := drop_at (l := s.data.toList) hf hkl
        have hdn := drop_next (l := s.data.toList) hf hkl
        obtain ⟨y, hy⟩ : ∃ y, s.data.toList[k]'hkl = y := ⟨_, rfl⟩
        rw [hy] at hbk hda hdn
        by_cases hyc : y = c
        · have hbc : bt s k = C := by rw [hbk, hyc, HC.out]
          have HX : Hid (s.extract f k = bt8 ((s.data.toList.drop f).take (k - f))) := by
            show _ = _
            rw [← bt8_of (s.extract f k), Lib.extract_data]
          have HE2 : Hid (cutS c most s = (L ++ [s.extract f k]) ++ (Lib.splitK [c] 0 (most - (n0 + 1)) (s.data.toList.drop (k + 1))).map bt8) := by
            show _ = _
            rw [HE.out, HN0.out, show most - n0 = (most - (n0 + 1)) + 1 by omega, hda, hyc, splitK_at _ _ _ _ HN.out, List.map_cons, HX.out]
            simp
          have hbcb : (bt s k == C) = true := by simp [hbc]
          have HBC := hidOf hbc
          clear hda hdn hy hyc hbk hbc
          go_wp2_with (at_builtin; (refine wpList_append_own _ rfl (.tmp 28) (.tmp 33) 53 rfl w.heap.size 9 i0 (.string ByteArray.empty) 1 16 Tryz.underlying53 hi hz0 hz1 hz2 rfl (by decide) _ n0 (L.map Value.string) rfl (by exact (HOW.out.alloc _)) ⟨wr.heap.size, 0, none⟩ 1 1 [.string (s.extract f k)] rfl rfl (by exact one_new _ _ _) (by intro u hu; simp at hu; subst hu; rfl) (by unfold maxLen; omega) (by omega) (by simp; omega) ?_))
          intro v' w2 hown' hgrow' _
          have HB2 : Hid (Below w.heap.size w w2) := (hbel.alloc (by omega) _).grown hgrow' (by simp; omega) (fun q hq => (World.ownsRow.lt HOW.out q hq).1)
          have HO2 : Hid (OwnS w.heap.size w2 v' (L ++ [s.extract f k])) := by
            show World.ownsRow _ _ _ _ _ _ _
            rw [List.length_append, HN0.out, List.map_append]
            exact hown'
          clear hown' hgrow'
          go_wp2_with fail
          go_roundw
          case rel =>
            refine ⟨k + 1, k + 1, L ++ [s.extract f k], by omega, Nat.le_refl _, by go_num, by go_num, by rw [List.length_append, HN0.out]; exact hmo, HO2, ?_, by show NoB _ _; simp [NoB], HB2.out⟩
            show _ = _
            rw [List.length_append, HN0.out]
            exact HE2.out
          case measure => simp [intOf]; omega
        · have hbc : (bt s k == C) = false := by
            simp only [beq_eq_false_iff_ne, ne_eq]
            rw [hbk, ← HC.out]
            intro e
            exact hyc (UInt8.toNat_inj.1 (by omega))
          have HN2 : Hid (NoB c ((s.data.toList.drop f).take (k + 1 - f))) := by
            show NoB _ _
            rw [hdn]
            intro h
            rcases List.mem_append.1 h with h | h
            · exact HN.out h
            · exact hyc (List.mem_singleton.1 h).symm
          clear hda hdn hy hyc hbk
          go_wp2_with fail
          go_roundw
          case rel => exact ⟨k + 1, f, L, by omega, by omega, by go_num, rfl, by rw [HN0.out]; exact hL, HO, HE, HN2, hbel⟩
          case measure => simp [intOf]; omega
      · have : n0 = most := by omega
        subst this
        have HR : Hid (cutS c n0 s = L ++ [s.extract f s.size]) := by
          show _ = _
          rw [HE.out, HN0.out, Nat.sub_self]
          show L ++ [bt8 (s.data.toList.drop f)] = _
          rw [← bt8_of (s.extract f s.size), Lib.extract_to_end]
        go_wp2_with (at_builtin; (refine wpList_append_own _ rfl (.tmp 37) (.tmp 41) 53 rfl w.heap.size 9 i0 (.string ByteArray.empty) 1 16 Tryz.underlying53 hi hz0 hz1 hz2 rfl (by decide) _ n0 (L.map Value.string) rfl (by exact (HOW.out.alloc _)) ⟨wr.heap.size, 0, none⟩ 1 1 [.string (s.extract f s.size)] rfl rfl (by exact one_new _ _ _) (by intro u hu; simp at hu; subst hu; rfl) (by unfold maxLen; omega) (by omega) (by simp; omega) ?_))
        intro v' w2 hown' hgrow' _
        have HB2 : Hid (Below w.heap.size w w2) := (hbel.alloc (by omega) _).grown hgrow' (by simp; omega) (fun q hq => (World.ownsRow.lt HOW.out q hq).1)
        have HO2 : Hid (OwnS w.heap.size w2 v' (L ++ [s.extract f s.size])) := by
          show World.ownsRow _ _ _ _ _ _ _
          rw [List.length_append, HN0.out, List.map_append]
          exact hown'
        clear hown' hgrow'
        go_wp2_with fail
        go_ret
        exact ⟨_, rfl, by rw [HR.out]; exact HO2.out, HB2.out⟩
    · have : k = s.size := by omega
      subst this
      have HR : Hid (cutS c most s = L ++ [s.extract f s.size]) := by
        show _ = _
        have h1 : NoB c (s.data.toList.drop f) := by
          have h2 := HN.out
          rw [List.take_of_length_le (by rw [List.length_drop]; omega)] at h2
          exact h2
        rw [HE.out, splitK_no c _ _ h1]
        show L ++ [bt8 (s.data.toList.drop f)] = _
        rw [← bt8_of (s.extract f s.size), Lib.extract_to_end]
      go_wp2_with (at_builtin; (refine wpList_append_own _ rfl (.tmp 37) (.tmp 41) 53 rfl w.heap.size 9 i0 (.string ByteArray.empty) 1 16 Tryz.underlying53 hi hz0 hz1 hz2 rfl (by decide) _ n0 (L.map Value.string) rfl (by exact (HOW.out.alloc _)) ⟨wr.heap.size, 0, none⟩ 1 1 [.string (s.extract f s.size)] rfl rfl (by exact one_new _ _ _) (by intro u hu; simp at hu; subst hu; rfl) (by unfold maxLen; omega) (by omega) (by simp; omega) ?_))
      intro v' w2 hown' hgrow' _
      have HB2 : Hid (Below w.heap.size w w2) := (hbel.alloc (by omega) _).grown hgrow' (by simp; omega) (fun q hq => (World.ownsRow.lt HOW.out q hq).1)
      have HO2 : Hid (OwnS w.heap.size w2 v' (L ++ [s.extract f s.size])) := by
        show World.ownsRow _ _ _ _ _ _ _
        rw [List.length_append, HN0.out, List.map_append]
        exact hown'
      clear hown' hgrow'
      go_wp2_with fail
      go_ret
      exact ⟨_, rfl, by rw [HR.out]; exact HO2.out, HB2.out⟩
end Go.Proofs.YtjmgfpldjccilaaGreatDoor
