/- The reader's unary: signs ahead. -/
import Derived.Test.YtchemhjcknkbgaaGreatDoorParPrim
import Derived.Lib.Strings
import Derived.Test.YtchemhjcknkbgaaGreatDoorBunY9
import Derived.Test.YtchemhjcknkbgaaGreatDoorBunY7
import Derived.Deep.RegionWith
import Derived.Test.YtchemhjcknkbgaaGreatDoorBunY4
import Derived.Test.YtchemhjcknkbgaaGreatDoorBunY2
namespace Go.Proofs.YtchemhjcknkbgaaGreatDoor
open Go.RowKit Go.PlainAid
set_option linter.unusedSimpArgs false
set_option linter.unusedVariables false

theorem infoInt' : (Tryz.prog.info? 3).map (fun i => (i.zero, i.size, i.bytes)) = some (some (.int .i64 0), 1, 8) := by kernel_rfl

theorem own_of_block {w w' : World} {B : Nat} {e : TypeId} {size : Nat} {v : Value} {n : Nat} {xs : List Value} (h : w.ownsRow B e size v n xs) (hb : ∀ g, v.ownBlock = some g → w'.heap[g]? = w.heap[g]?) : w'.ownsRow B e size v n xs := by
  obtain ⟨h1, h2⟩ := h
  refine ⟨h1, ?_⟩
  rcases h2 with h2 | ⟨g, cap, cur, hv, h3, h4, h5⟩
  · exact .inl h2
  · exact .inr ⟨g, cap, cur, hv, h3, by rw [hb g (by rw [hv]; rfl)]; exact h4, h5⟩
theorem ParAt.of_block {p : Nat} {w w' : World} {s : ByteArray} {st : Par} {v : Value} (h : ParAt p w s st v) (hp : w'.heap[p]? = w.heap[p]?) (hv : ∀ g, v.ownBlock = some g → w'.heap[g]? = w.heap[g]?) : ParAt p w' s st v := by
  have hc : ∀ j, w'.cell? ⟨p, j, none⟩ = w.cell? ⟨p, j, none⟩ := fun j => World.cell?_of_block hp
  have hf : ∀ j, w'.frozen? ⟨p, j, none⟩ = w.frozen? ⟨p, j, none⟩ := fun j => World.frozen?_of_block hp
  exact ⟨(hc 0).trans h.c0, (hc 1).trans h.c1, (hc 2).trans h.c2, (hc 3).trans h.c3, (hc 4).trans h.c4, fun j => (hf j).trans (h.open_ j), own_of_block h.own hv⟩

theorem hasAt_one {s : ByteArray} {k : Nat} (c : UInt8) (hc : c ≠ 0) : hasAt s k ⟨#[c]⟩ = (bt s k == (c.toNat : Int)) := by
  unfold hasAt
  have e : (⟨#[c]⟩ : ByteArray).size = 1 := rfl
  rw [e]
  by_cases h : k + 1 ≤ s.size
  · have hk : k < s.data.toList.length := by simp; omega
    have h1 : (s.extract k (k + 1)).toList = [s[k]] := by
      rw [Lib.extract_toList, show k + 1 - k = 1 from by omega, List.drop_eq_getElem_cons hk]
      rfl
    rw [decide_eq_true h, h1, ← get_bt s k (by omega), Lib.toList_data]
    simp only [Bool.true_and]
    rw [Bool.eq_iff_iff]
    simp
    exact ⟨fun h => by rw [h], fun h => UInt8.toNat_inj.1 (by omega)⟩
  · have hc0 : c.toNat ≠ 0 := fun h => hc (UInt8.toNat_inj.1 h)
    rw [decide_eq_false h, bt_end s (by omega)]
    simp only [Bool.false_and]
    symm
    simp
    omega

theorem aheadF_eq (s : ByteArray) (f : Nat) : ∀ g a, s.size - a + 1 ≤ f → s.size - a + 1 ≤ g → a ≤ s.size → aheadF s f a = aheadF s g a := by
  induction f with
  | zero => intro g a h; omega
  | succ f ih =>
    intro g a hf hg ha
    obtain ⟨g, rfl⟩ : ∃ g', g = g' + 1 := ⟨g - 1, by omega⟩
    have h1 := skipTo_mono s a
    unfold aheadF
    split
    · rename_i hb
      have h2 := bt_lt hb (by decide)
      rw [ih g _ (by omega) (by omega) (by omega)]
    · split
      · rename_i hb
        have h2 := bt_lt hb (by decide)
        rw [ih g _ (by omega) (by omega) (by omega)]
      · rfl
def ints (l : List Int) : List Value := l.map (Value.int .i64)
theorem aheadTo_minus {s : ByteArray} {a : Nat} (ha : a ≤ s.size) (h : bt s (skipTo s a) = 45) : aheadTo s a = (3 :: (aheadTo s (skipTo s a + 1)).1, (aheadTo s (skipTo s a + 1)).2) := by
  have h1 := skipTo_mono s a
  have h2 := bt_lt h (by decide)
  have key : ∀ f g, s.size - (skipTo s a + 1) + 1 ≤ f → s.size - (skipTo s a + 1) + 1 ≤ g → aheadF s f (skipTo s a + 1) = aheadF s g (skipTo s a + 1) := by
    intro f g hf hg
    exact aheadF_eq s f g _ hf hg (by omega)
  unfold aheadTo
  rw [aheadF, if_pos h, key (s.size - a) (s.size - (skipTo s a + 1) + 1) (by omega) (Nat.le_refl _)]
theorem aheadTo_bang {s : ByteArray} {a : Nat} (ha : a ≤ s.size) (h : bt s (skipTo s a) = 33) : aheadTo s a = (4 :: (aheadTo s (skipTo s a + 1)).1, (aheadTo s (skipTo s a + 1)).2) := by
  have h1 := skipTo_mono s a
  have h2 := bt_lt h (by decide)
  have key : ∀ f g, s.size - (skipTo s a + 1) + 1 ≤ f → s.size - (skipTo s a + 1) + 1 ≤ g → aheadF s f (skipTo s a + 1) = aheadF s g (skipTo s a + 1) := by
    intro f g hf hg
    exact aheadF_eq s f g _ hf hg (by omega)
  unfold aheadTo
  rw [aheadF, if_neg (by omega), if_pos h, key (s.size - a) (s.size - (skipTo s a + 1) + 1) (by omega) (Nat.le_refl _)]
theorem aheadTo_none {s : ByteArray} {a : Nat} (h1 : bt s (skipTo s a) ≠ 45) (h2 : bt s (skipTo s a) ≠ 33) : aheadTo s a = ([], skipTo s a) := by
  unfold aheadTo
  rw [aheadF, if_neg h1, if_neg h2]
end Go.Proofs.YtchemhjcknkbgaaGreatDoor

/- The reader's unary, walked. -/
namespace Go.Proofs.YtchemhjcknkbgaaGreatDoor
open Go.RowKit Go.PlainAid
set_option linter.unusedSimpArgs false
set_option linter.unusedVariables false

theorem touch_grown {p : Nat} {v v' : Value} {w wr w1 : World} {row : Option Nat} (h : Touch p v w wr v') (hg : wr.grownBy w1 row) (hrow : ∀ g, row = some g → w.heap.size ≤ g) : Touch p v w w1 v' :=
  ⟨hg.os.trans h.os, hg.tape.trans h.tape, hg.output.trans h.output, Nat.le_trans h.size hg.size,
    fun k hk hp hv => (hg.block k (Nat.lt_of_lt_of_le hk h.size) (fun e => by have := hrow k e.symm; omega)).trans (h.block k hk hp hv), h.own⟩
theorem one_new' (W : World) (v : Value) (t : TypeId) (N : Nat) (hN : N = W.heap.size) : ∀ j u, [v][j]? = some u → (W.alloc (.cells #[v] t)).cell? ((⟨N, 0, none⟩ : Addr).add j) = some u := by
  subst hN
  intro j u hj
  match j, hj with
  | 0, hj => simp at hj; subst hj; simp [Addr.add]
theorem ints_snoc (l : List Int) (x : Int) : ints (l ++ [x]) = ints l ++ [.int .i64 x] := by simp [ints]

set_option maxHeartbeats 1600000 in
set_option maxRecDepth 100000 in
theorem unary_any (s : ByteArray) (f : Nat) (hsum : SumOk s f) (hs : s.size ≤ 1048576) (p : Nat) (st : Par) (v : Value) (w : World) (hf : 7 * (s.size - st.at_) ≤ f) (ha : st.at_ ≤ s.size) (hd : st.deep ≤ st.at_) (hl : st.out.length ≤ 24) (h : ParAt p w s st v) :
    Calls Tryz.prog 158 #[.pointer (some ⟨p, 0, none⟩)] w fun e w' => e = .returned (.tuple #[]) ∧ ∃ v', ParAt p w' s (unaryM (sumF s f) s st) v' ∧ Touch p v w w' v' := by
  have HP : Hid (ParAt p w s st v) := h
  have HS : Hid (SumOk s f) := hsum
  have hplt := h.lt
  have HV : Hid (∀ g, v.ownBlock = some g → g < w.heap.size) := fun g hg => (h.own.lt g hg).2
  obtain ⟨i0, hi, hz0, hz1, hz2⟩ := info_parts infoInt'
  clear h hsum
  go_enter Tryz.func158, Tryz.ntmps158
  go_wp2_with fail
  go_loopw [2] (fun vs wr => ∃ (L : List Int) (a g c : Nat), vs = .slice (some ⟨g, 0, none⟩) L.length c ∧ a ≤ s.size ∧ st.at_ ≤ a ∧ L.length ≤ a ∧ Hid (aheadTo s st.at_ = (L ++ (aheadTo s a).1, (aheadTo s a).2)) ∧
      Hid (wr.ownsRow w.heap.size 3 1 (.slice (some ⟨g, 0, none⟩) L.length c) L.length (ints L)) ∧ Hid (ParAt p wr s { st with at_ := a } v) ∧ Touch p v w wr v ∧ w.heap.size ≤ wr.heap.size)
    (fun _ wr => s.size - (intOf ((wr.cell? ⟨p, 1, none⟩).getD undef)).toNat)
  case atStart => exact ⟨[], st.at_, w.heap.size, 0, rfl, ha, Nat.le_refl _, Nat.zero_le _, rfl, World.ownsRow_made w #[] 0 (Nat.le_refl _) (Nat.zero_le _) rfl, HP.out.alloc _, (Touch.refl p v w).alloc _, by simp⟩
  case round =>
    obtain ⟨L, a, g, c, rfl, haz, hsa, hLa, HA, HO, HR, ht, hwz⟩ := hrel
    have HG : Hid (w.heap.size ≤ g ∧ g < wr.heap.size) := World.ownsRow.lt HO.out g rfl
    have c1 := HR.out.c1
    simp only at c1
    have hk1 := skipTo_le haz
    obtain ⟨k, hk⟩ : ∃ k, skipTo s a = k := ⟨_, rfl⟩
    have HK : Hid (skipTo s a = k) := hk
    have HI : Hid (skipTo s k = k) := by
      show skipTo s k = k
      rw [← hk]; exact skipTo_idem s a
    rw [hk] at hk1
    clear hk
    by_cases h45 : bt s k = 45
    · have e45 : (bt s k == 45) = true := by simp [h45]
      have hklt := bt_lt h45 (by decide)
      have HH : Hid (hasAt s k minus = true) := by
        show hasAt s k minus = true
        unfold minus; rw [hasAt_one 45 (by decide)]; exact e45
      have HT : Hid (takeAt s k minus = k + 1) := by
        show takeAt s k minus = _
        unfold takeAt; rw [HH.out]; rfl
      have HA2 : Hid (aheadTo s st.at_ = ((L ++ [3]) ++ (aheadTo s (k + 1)).1, (aheadTo s (k + 1)).2)) := by
        show aheadTo s st.at_ = _
        rw [HA.out, aheadTo_minus haz (by rw [HK.out]; exact h45), HK.out]; simp
      clear h45
      go_wp2_with fail
      refine (look_any p s { st with at_ := a } v _ (by unfold maxLen; omega) haz HR.out).mono ?_
      simp only
      rw [HK.out]
      rintro e w1 ⟨rfl, hp1, ht1⟩
      have HP1 : Hid (ParAt p w1 s { st with at_ := k } v) := hp1
      clear hp1
      go_wp2_with fail
      refine (take_any p s minus { st with at_ := k } v _ hs (by decide) hk1.2 HP1.out).mono ?_
      simp only
      rw [HI.out, HH.out, HT.out]
      rintro e w2 ⟨rfl, hp2, ht2⟩
      have HP2 : Hid (ParAt p w2 s { st with at_ := k + 1 } v) := hp2
      have HT2 : Hid (Touch p v wr w2 v) := ht1.trans ht2
      clear hp2 ht1 ht2
      have HO2 : Hid (w2.ownsRow w.heap.size 3 1 (.slice (some ⟨g, 0, none⟩) L.length c) L.length (ints L)) :=
        own_of_block HO.out (fun g' hg' => by
          have : g' = g := by simpa [Value.ownBlock] using hg'.symm
          subst this
          exact HT2.out.block g' HG.out.2 (by have := HG.out.1; omega) (fun e => by have := HV.out g' e.symm; have := HG.out.1; omega))
      have hz2w := HT2.out.size
      go_wp2_with (at_builtin; refine wpList_append_own _ rfl _ _ 41 rfl w.heap.size 3 i0 (.int .i64 0) 1 8 Tryz.underlying41 hi hz0 hz1 hz2 rfl (by decide) _ _ _ rfl (World.ownsRow.alloc HO2.out _) ⟨w2.heap.size, 0, none⟩ 1 1 [.int .i64 3] rfl rfl (by exact one_new' _ _ _ _ rfl) (by intro u hu; simp at hu; subst hu; rfl) (by unfold maxLen; omega) (by omega) (by simp; omega) ?_)
      intro v' w5 hown5 hgrow5 _
      obtain ⟨g5, c5, hv5⟩ := own_form hown5 (by omega)
      subst hv5
      have hg5 := hgrow5
      rw [← ints_snoc] at hown5
      have HO5 : Hid (w5.ownsRow w.heap.size 3 1 (.slice (some ⟨g5, 0, none⟩) (L ++ [3]).length c5) (L ++ [3]).length (ints (L ++ [3]))) := by
        show World.ownsRow _ _ _ _ _ _ _
        rw [List.length_append]; exact hown5
      have HP5 : Hid (ParAt p w5 s { st with at_ := k + 1 } v) := (ParAt.alloc HP2.out _).of_block (hgrow5.block p (by have := HP2.out.lt; simp; omega) (by simp [Value.ownBlock]; have := HG.out.1; omega))
        (fun q hq => hgrow5.block q (by have := (HP2.out.own.lt q hq).2; simp; omega) (by simp [Value.ownBlock]; have := HG.out.1; have := HV.out q hq; omega))
      have HT5 : Hid (Touch p v w w5 v) := touch_grown ((ht.trans HT2.out).alloc _) hgrow5 (fun q hq => by simp [Value.ownBlock] at hq; have := HG.out.1; omega)
      have hc5 := HP5.out.c1
      have hw5 : w.heap.size ≤ w5.heap.size := HT5.out.size
      have hL5 : (L ++ [3]).length = L.length + 1 := by simp
      have HL5 : Hid ((L ++ [(3 : Int)]).length = L.length + 1) := hL5
      simp only at hc5
      clear hown5 hgrow5 hg5 hL5
      go_wp2_with fail
      go_roundw
      case rel => exact ⟨L ++ [3], k + 1, g5, c5, by rw [HL5.out], by omega, by omega, by rw [HL5.out]; omega, HA2.out, HO5.out, HP5.out, HT5.out, hw5⟩
      case measure =>
        rw [hc5, c1]
        simp [intOf]; omega
    have e45 : (bt s k == 45) = false := by simp [h45]
    have HM : Hid (hasAt s k minus = false) := by
      show hasAt s k minus = false
      unfold minus; rw [hasAt_one 45 (by decide)]; exact e45
    have HTM : Hid (takeAt s k minus = k) := by
      show takeAt s k minus = _
      unfold takeAt; rw [HM.out]; rfl
    by_cases h33 : bt s k = 33
    · have e33 : (bt s k == 33) = true := by simp [h33]
      have hklt := bt_lt h33 (by decide)
      have HH : Hid (hasAt s k bang = true) := by
        show hasAt s k bang = true
        unfold bang; rw [hasAt_one 33 (by decide)]; exact e33
      have HT : Hid (takeAt s k bang = k + 1) := by
        show takeAt s k bang = _
        unfold takeAt; rw [HH.out]; rfl
      have HA2 : Hid (aheadTo s st.at_ = ((L ++ [4]) ++ (aheadTo s (k + 1)).1, (aheadTo s (k + 1)).2)) := by
        show aheadTo s st.at_ = _
        rw [HA.out, aheadTo_bang haz (by rw [HK.out]; exact h33), HK.out]; simp
      clear h33 h45
      go_wp2_with fail
      refine (look_any p s { st with at_ := a } v _ (by unfold maxLen; omega) haz HR.out).mono ?_
      simp only
      rw [HK.out]
      rintro e w1 ⟨rfl, hp1, ht1⟩
      have HP1 : Hid (ParAt p w1 s { st with at_ := k } v) := hp1
      clear hp1
      go_wp2_with fail
      refine (look_any p s { st with at_ := k } v _ (by unfold maxLen; omega) hk1.2 HP1.out).mono ?_
      simp only
      rw [HI.out]
      rintro e w2 ⟨rfl, hp2, ht2⟩
      have HP2 : Hid (ParAt p w2 s { st with at_ := k } v) := hp2
      clear hp2
      go_wp2_with fail
      refine (take_any p s minus { st with at_ := k } v _ hs (by decide) hk1.2 HP2.out).mono ?_
      simp only
      rw [HI.out, HM.out, HTM.out]
      rintro e w3 ⟨rfl, hp3, ht3⟩
      have HP3 : Hid (ParAt p w3 s { st with at_ := k } v) := hp3
      clear hp3
      go_wp2_with fail
      refine (take_any p s bang { st with at_ := k } v _ hs (by decide) hk1.2 HP3.out).mono ?_
      simp only
      rw [HI.out, HH.out, HT.out]
      rintro e w4 ⟨rfl, hp4, ht4⟩
      have HP4 : Hid (ParAt p w4 s { st with at_ := k + 1 } v) := hp4
      have HT4 : Hid (Touch p v wr w4 v) := ((ht1.trans ht2).trans ht3).trans ht4
      clear hp4 ht1 ht2 ht3 ht4
      have HO4 : Hid (w4.ownsRow w.heap.size 3 1 (.slice (some ⟨g, 0, none⟩) L.length c) L.length (ints L)) :=
        own_of_block HO.out (fun g' hg' => by
          have : g' = g := by simpa [Value.ownBlock] using hg'.symm
          subst this
          exact HT4.out.block g' HG.out.2 (by have := HG.out.1; omega) (fun e => by have := HV.out g' e.symm; have := HG.out.1; omega))
      have hz4w := HT4.out.size
      go_wp2_with (at_builtin; refine wpList_append_own _ rfl _ _ 41 rfl w.heap.size 3 i0 (.int .i64 0) 1 8 Tryz.underlying41 hi hz0 hz1 hz2 rfl (by decide) _ _ _ rfl (World.ownsRow.alloc HO4.out _) ⟨w4.heap.size, 0, none⟩ 1 1 [.int .i64 4] rfl rfl (by exact one_new' _ _ _ _ rfl) (by intro u hu; simp at hu; subst hu; rfl) (by unfold maxLen; omega) (by omega) (by simp; omega) ?_)
      intro v' w5 hown5 hgrow5 _
      obtain ⟨g5, c5, hv5⟩ := own_form hown5 (by omega)
      subst hv5
      have hg5 := hgrow5
      rw [← ints_snoc] at hown5
      have HO5 : Hid (w5.ownsRow w.heap.size 3 1 (.slice (some ⟨g5, 0, none⟩) (L ++ [4]).length c5) (L ++ [4]).length (ints (L ++ [4]))) := by
        show World.ownsRow _ _ _ _ _ _ _
        rw [List.length_append]; exact hown5
      have HP5 : Hid (ParAt p w5 s { st with at_ := k + 1 } v) := (ParAt.alloc HP4.out _).of_block (hgrow5.block p (by have := HP4.out.lt; simp; omega) (by simp [Value.ownBlock]; have := HG.out.1; omega))
        (fun q hq => hgrow5.block q (by have := (HP4.out.own.lt q hq).2; simp; omega) (by simp [Value.ownBlock]; have := HG.out.1; have := HV.out q hq; omega))
      have HT5 : Hid (Touch p v w w5 v) := touch_grown ((ht.trans HT4.out).alloc _) hgrow5 (fun q hq => by simp [Value.ownBlock] at hq; have := HG.out.1; omega)
      have hc5 := HP5.out.c1
      have hw5 : w.heap.size ≤ w5.heap.size := HT5.out.size
      have hL5 : (L ++ [4]).length = L.length + 1 := by simp
      have HL5 : Hid ((L ++ [(4 : Int)]).length = L.length + 1) := hL5
      simp only at hc5
      clear hown5 hgrow5 hg5 hL5
      go_wp2_with fail
      go_roundw
      case rel => exact ⟨L ++ [4], k + 1, g5, c5, by rw [HL5.out], by omega, by omega, by rw [HL5.out]; omega, HA2.out, HO5.out, HP5.out, HT5.out, hw5⟩
      case measure =>
        rw [hc5, c1]
        simp [intOf]; omega
    have e33 : (bt s k == 33) = false := by simp [h33]
    have HA2 : Hid (aheadTo s st.at_ = (L, k)) := by
      show aheadTo s st.at_ = _
      rw [HA.out, aheadTo_none (by rw [HK.out]; exact h45) (by rw [HK.out]; exact h33), HK.out]; simp
    clear h33 h45
    go_wp2_with fail
    refine (look_any p s { st with at_ := a } v _ (by unfold maxLen; omega) haz HR.out).mono ?_
    simp only
    rw [HK.out]
    rintro e w1 ⟨rfl, hp1, ht1⟩
    have HP1 : Hid (ParAt p w1 s { st with at_ := k } v) := hp1
    clear hp1
    go_wp2_with fail
    refine (look_any p s { st with at_ := k } v _ (by unfold maxLen; omega) hk1.2 HP1.out).mono ?_
    simp only
    rw [HI.out]
    rintro e w2 ⟨rfl, hp2, ht2⟩
    have HP2 : Hid (ParAt p w2 s { st with at_ := k } v) := hp2
    have HT2 : Hid (Touch p v w w2 v) := (ht.trans ht1).trans ht2
    have hw2 := (ht1.trans ht2).size
    have HO2 : Hid (w2.ownsRow w.heap.size 3 1 (.slice (some ⟨g, 0, none⟩) L.length c) L.length (ints L)) :=
      own_of_block HO.out (fun g' hg' => by
        have : g' = g := by simpa [Value.ownBlock] using hg'.symm
        subst this
        exact (ht1.trans ht2).block g' HG.out.2 (by have := HG.out.1; omega) (fun e => by have := HV.out g' e.symm; have := HG.out.1; omega))
    clear hp2 ht1 ht2
    go_wp2_with fail
    refine (prim_any s f HS.out hs p { st with at_ := k } v _ (by simp only; omega) hk1.2 (by simp only; omega) hl HP2.out).mono ?_
    rintro e w3 ⟨rfl, v3, hp3, ht3⟩
    obtain ⟨st3, hst3⟩ : ∃ st3, primM (sumF s f) s { st with at_ := k } = st3 := ⟨_, rfl⟩
    have HA3 := adv_prim (adv_sum s f) (s := s) { st with at_ := k }
    have HU : Hid (unaryM (sumF s f) s st = putAll L.reverse st3) := by
      show unaryM _ _ _ = _
      unfold unaryM; rw [HA2.out, hst3]
    rw [hst3] at hp3 HA3
    have hl3 := HA3.len hl
    have HP3 : Hid (ParAt p w3 s st3 v3) := hp3
    have HT3 : Hid (Touch p v w w3 v3) := HT2.out.trans ht3
    have HG3 : Hid (some g ≠ v3.ownBlock ∧ g < w3.heap.size) := ⟨fun e => by
      have h1 := HG.out
      rcases ht3.own with h2 | h2
      · rw [h2] at e; have := HV.out g e.symm; omega
      · have := h2 g e.symm; omega, by have := HG.out.2; have := ht3.size; omega⟩
    have HO3 : Hid (w3.ownsRow w.heap.size 3 1 (.slice (some ⟨g, 0, none⟩) L.length c) L.length (ints L)) :=
      own_of_block HO2.out (fun g' hg' => by
        have : g' = g := by simpa [Value.ownBlock] using hg'.symm
        subst this
        exact ht3.block g' (by have := HG.out.2; omega) (by have := HG.out.1; omega) (fun e => by have := HV.out g' e.symm; have := HG.out.1; omega))
    have HGp : Hid (g ≠ p) := by
      show g ≠ p
      have := HG.out.1; omega
    clear hp3 ht3 hst3 HA3
    go_wp2_with fail
    go_loopw [3] (fun i wr => ∃ (j : Nat) (st' : Par) (v' : Value), j ≤ L.length ∧ i = .int .i64 ((j : Int) - 1) ∧ Hid (putAll L.reverse st3 = putAll (L.take j).reverse st') ∧ Hid (ParAt p wr s st' v') ∧ Touch p v w wr v' ∧ st'.out.length ≤ 24 ∧
        Hid (some g ≠ v'.ownBlock ∧ g < wr.heap.size) ∧ Hid (wr.ownsRow w.heap.size 3 1 (.slice (some ⟨g, 0, none⟩) L.length c) L.length (ints L))) (fun i _ => (intOf i + 1).toNat)
    case atStart => exact ⟨L.length, st3, v3, Nat.le_refl _, rfl, by show _ = _; rw [List.take_length], HP3.out, HT3.out, hl3, HG3.out, HO3.out⟩
    case round =>
      obtain ⟨j, st', v', hj, rfl, HQ, HPj, htj, hlj, HGj, HOj⟩ := hrel
      have c3 := HPj.out.c3
      cases j with
      | zero =>
        have HE : Hid (putAll L.reverse st3 = st') := HQ.out
        go_wp2_with fail
        go_end0
        rw [HU.out, HE.out]
        exact ⟨rfl, v', HPj.out, htj⟩
      | succ j =>
        have e1 : ((j + 1 : Nat) : Int) - 1 = j := by omega
        rw [e1]
        have hjI : (j : Int) < L.length := by omega
        have hjL : j < L.length := by omega
        have hj0 : (0 : Int) ≤ j := by omega
        cases hbad : st'.bad
        · have cj := World.ownsRow.cellAt HOj.out j (by omega)
          obtain ⟨x, hx⟩ : ∃ x, L[j] = x := ⟨_, rfl⟩
          have hcj : wr.cell? ⟨g, j, none⟩ = some (.int .i64 x) := by rw [cj]; simp [ints, hjL, hx]
          have HQ2 : Hid (putAll L.reverse st3 = putAll (L.take j).reverse (putNd st' (x, 0, noName))) := by
            show putAll _ _ = _
            rw [HQ.out, List.take_succ_eq_append_getElem hjL, List.reverse_append, hx]
            show putAll (x :: (L.take j).reverse) st' = _
            rw [putAll, hbad]; rfl
          rw [hbad] at c3
          clear cj hx hbad
          go_wp2_with fail
          refine (put_any' p s st' v' _ _ _ _ hlj HPj.out).mono ?_
          rintro e w5 ⟨rfl, v5, hp5, ht5⟩
          have HP5 : Hid (ParAt p w5 s (putNd st' (x, 0, noName)) v5) := hp5
          have HT5 : Hid (Touch p v w w5 v5) := htj.trans ht5
          have hl5 := (adv_put s st' (x, 0, noName)).len hlj
          have HG5 : Hid (some g ≠ v5.ownBlock ∧ g < w5.heap.size) := ⟨fun e => by
            rcases ht5.own with h2 | h2
            · rw [h2] at e; exact HGj.out.1 e
            · have := h2 g e.symm; have := HGj.out.2; omega, by have := HGj.out.2; have := ht5.size; omega⟩
          have HO5 : Hid (w5.ownsRow w.heap.size 3 1 (.slice (some ⟨g, 0, none⟩) L.length c) L.length (ints L)) :=
            own_of_block HOj.out (fun g' hg' => by
              have : g' = g := by simpa [Value.ownBlock] using hg'.symm
              subst this
              exact ht5.block g' HGj.out.2 HGp.out HGj.out.1)
          clear hp5 ht5
          go_wp2_with fail
          go_roundw
          case rel => exact ⟨j, putNd st' (x, 0, noName), v5, by omega, rfl, HQ2.out, HP5.out, HT5.out, hl5, HG5.out, HO5.out⟩
          case measure => simp [intOf]
        · have HE : Hid (putAll L.reverse st3 = st') := by
            show putAll _ _ = _
            rw [HQ.out, List.take_succ_eq_append_getElem hjL, List.reverse_append]
            show putAll (L[j] :: (L.take j).reverse) st' = _
            rw [putAll, hbad]; rfl
          rw [hbad] at c3
          clear hbad
          go_wp2_with fail
          go_end0
          rw [HU.out, HE.out]
          exact ⟨rfl, v', HPj.out, htj⟩
end Go.Proofs.YtchemhjcknkbgaaGreatDoor

/- The model's stack of numbers in memory. -/
namespace Go.Proofs.YtchemhjcknkbgaaGreatDoor
open Go.RowKit Go.PlainAid
set_option linter.unusedSimpArgs false
set_option linter.unusedVariables false

def i64s (st : List Int) : List Value := st.reverse.map (Value.int .i64)
theorem i64s_cons (x : Int) (st : List Int) : i64s (x :: st) = i64s st ++ [Value.int .i64 x] := by simp [i64s]

/-- the model's stack: the slice (g, cap) owns st, its top first -/
def Own (B g cap : Nat) (w : World) (st : List Int) : Prop := w.ownsRow B 3 1 (.slice (some ⟨g, 0, none⟩) st.length cap) st.length (i64s st)
theorem i64s_len (st : List Int) : (i64s st).length = st.length := by simp [i64s]
theorem Own.top {B g cap : Nat} {w : World} {z : Int} {r : List Int} (h : Own B g cap w (z :: r)) : w.cell? ⟨g, r.length, none⟩ = some (.int .i64 z) ∧ w.frozen? ⟨g, r.length, none⟩ = false := by
  unfold Own at h
  rw [i64s_cons] at h
  refine ⟨?_, h.frozenAt _⟩
  rw [h.cellAt r.length (by simp)]
  simp [i64s]
theorem Own.next {B g cap : Nat} {w : World} {z z' : Int} {r : List Int} (h : Own B g cap w (z :: z' :: r)) : w.cell? ⟨g, r.length, none⟩ = some (.int .i64 z') ∧ w.frozen? ⟨g, r.length, none⟩ = false := by
  unfold Own at h
  rw [i64s_cons, i64s_cons] at h
  refine ⟨?_, h.frozenAt _⟩
  rw [h.cellAt r.length (by simp; omega)]
  simp [i64s]
theorem Own.put {B g cap : Nat} {w : World} {z : Int} {r : List Int} (h : Own B g cap w (z :: r)) (u : Int) : Own B g cap (w.setCell ⟨g, r.length, none⟩ (.int .i64 u)) (u :: r) := by
  unfold Own at *
  have h2 := (h.stored r.length (.int .i64 u)).1
  have e : (i64s (z :: r)).set r.length (.int .i64 u) = i64s (u :: r) := by
    rw [i64s_cons, i64s_cons, List.set_append_right _ _ (by rw [i64s_len]; exact Nat.le_refl _), i64s_len]; simp
  rw [e] at h2
  exact h2
theorem Own.pop {B g cap : Nat} {w : World} {z : Int} {r : List Int} (h : Own B g cap w (z :: r)) : Own B g cap w r := by
  unfold Own at *
  rw [i64s_cons] at h
  exact ownsRow_pop (by simp [i64s]) h
theorem Own.put2 {B g cap : Nat} {w : World} {z z' : Int} {r : List Int} (h : Own B g cap w (z :: z' :: r)) (u : Int) : Own B g cap (w.setCell ⟨g, r.length, none⟩ (.int .i64 u)) (u :: r) := h.pop.put u
theorem Own.lt {B g cap : Nat} {w : World} {st : List Int} (h : Own B g cap w st) : B ≤ g ∧ g < w.heap.size := World.ownsRow.lt h g rfl
theorem Own.cap {B g cap : Nat} {w : World} {st : List Int} (h : Own B g cap w st) : st.length ≤ cap := by
  rcases h.2 with ⟨h, _⟩ | ⟨g', cap', cur, h, _, _, h3, _⟩
  · simp at h
  · simp at h; omega
/-- behind an append -/
theorem Own.of {B : Nat} {w : World} {v' : Value} {z : Int} {st : List Int} (h : w.ownsRow B 3 1 v' (st.length + 1) (i64s st ++ [.int .i64 z])) : ∃ g cap, v' = .slice (some ⟨g, 0, none⟩) (st.length + 1) cap ∧ Own B g cap w (z :: st) := by
  have h0 := h.2
  rcases h0 with ⟨_, h1⟩ | ⟨g, cap, cur, h1, _⟩
  · simp at h1
  · refine ⟨g, cap, h1, ?_⟩
    subst h1
    unfold Own
    rw [i64s_cons]; exact h

theorem ops_below {w w' : World} {a : Option Addr} {n : Nat} {zs : List (Int × Int)} (h : IsOps w a n zs) (hb : Below w.heap.size w w') : IsOps w' a n zs := by
  obtain ⟨h1, h2⟩ := h
  refine ⟨h1, ?_⟩
  rcases h2 with h2 | ⟨b, off, rfl, hlt, hc⟩
  · exact .inl h2
  · exact .inr ⟨b, off, rfl, by have := hb.size; omega, fun i hi => ⟨(hb.cell hlt).trans (hc i hi).1, (hb.cell hlt).trans (hc i hi).2⟩⟩

end Go.Proofs.YtchemhjcknkbgaaGreatDoor

/- Copies of numbers, and of lists of numbers. -/
namespace Go.Proofs.YtchemhjcknkbgaaGreatDoor
open Go Go.RowKit Go.PlainAid
set_option linter.unusedSimpArgs false
set_option linter.unusedVariables false

theorem ints_mv {g n p : Nat} {w w' : World} {l : List Int} (h : IsInts w.heap.size w (some ⟨g, 0, none⟩) n l) (hm : Mv p w w') (hne : g ≠ p) : IsInts w'.heap.size w' (some ⟨g, 0, none⟩) n l := by
  obtain ⟨h1, h2⟩ := h
  refine ⟨h1, ?_⟩
  rcases h2 with h2 | ⟨q, o, e, hlt, hc⟩
  · exact .inl h2
  · cases e
    exact .inr ⟨g, 0, rfl, Nat.lt_of_lt_of_le hlt hm.size, fun i hi => (World.cell?_of_block (hm.block g hlt hne)).trans (hc i hi)⟩
theorem IsInts.up {w w' : World} {a : Option Addr} {n : Nat} {vs : List Int} (h : IsInts w.heap.size w a n vs) (hb : Below w.heap.size w w') : IsInts w'.heap.size w' a n vs := (h.below hb).mono hb.size
/-- a copy of numbers: it lies in a block from L on, and may be written -/
def CInt (n : Nat) (vs : List Int) (L g : Nat) (w : World) : Prop := L ≤ g ∧ Open g n w ∧ IsInts w.heap.size w (some ⟨g, 0, none⟩) n vs
theorem CInt.mv {n : Nat} {vs : List Int} {L g p : Nat} {w w' : World} (h : CInt n vs L g w) (hm : Mv p w w') (hp : p < L) : CInt n vs L g w' :=
  ⟨h.1, h.2.1.mv hm (by have := h.1; omega), ints_mv h.2.2 hm (by have := h.1; omega)⟩
theorem CInt.below {n : Nat} {vs : List Int} {L g : Nat} {w w' : World} (h : CInt n vs L g w) (hb : Below w.heap.size w w') : CInt n vs L g w' := ⟨h.1, h.2.1.below hb, h.2.2.up hb⟩
theorem CInt.is {n : Nat} {vs : List Int} {L g : Nat} {w : World} (h : CInt n vs L g w) : IsInts w.heap.size w (some ⟨g, 0, none⟩) n vs := h.2.2
/-- the law's size of a list of numbers -/
theorem szIntS_any (a : Option Addr) (n cap : Nat) (left : Int) (w : World) (h0 : 0 ≤ left) (h1 : left ≤ 1048576) (hn : n ≤ maxLen) :
    Calls Tryz.prog 50 #[.slice a n cap, .int .i64 left] w fun e w' => SzP n left w e w' := by
  unfold maxLen at hn
  have hw := wrap_sub (left := left) (n := n) h0 h1 (by omega)
  by_cases h : left < n
  · go_enter Tryz.func50, Tryz.ntmps50
    go_wp2_with fail
    go_ret
    exact ⟨-1, rfl, Below.refl _ _, by omega, by omega, fun h => by omega⟩
  · go_enter Tryz.func50, Tryz.ntmps50
    go_wp2_with fail
    go_ret
    exact ⟨left - n, rfl, Below.refl _ _, by omega, by omega, fun h => by omega⟩
end Go.Proofs.YtchemhjcknkbgaaGreatDoor
