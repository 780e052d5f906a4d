/- The model's ReachNeeds. -/
import Derived.Test.YtchemhjcknkbgaaGreatDoorBunY50
import Derived.Test.YtchemhjcknkbgaaGreatDoorBunY51
namespace Go.Proofs.YtchemhjcknkbgaaGreatDoor
open Go Go.RowKit Go.PlainAid
set_option linter.unusedSimpArgs false
set_option linter.unusedVariables false

def useM (o l : List ByteArray) : List ByteArray := l.foldl (fun o s => addM o (addM [] (readsM s))) o
def Few60 (N : Nat) (l : List ByteArray) : Prop := l.length ≤ N ∧ ∀ y ∈ l, y.size ≤ 60
theorem few_add {N M : Nat} {o r : List ByteArray} (h : Few60 N o) (k : Few60 M r) : Few60 (N + M) (addM o r) := by
  refine ⟨Nat.le_trans (addM_len o r) (by have := h.1; have := k.1; omega), fun y hy => ?_⟩
  rcases mem_addM.1 hy with h1 | h1
  · exact h.2 y h1
  · exact k.2 y h1
theorem few_reads (s : ByteArray) : Few60 24 (addM [] (readsM s)) := by
  have := few_add (N := 0) (M := 24) (o := []) (r := readsM s) ⟨Nat.le_refl _, by simp⟩ ⟨readsM_len s, readsM_small⟩
  simpa using this
theorem few_use {N : Nat} {o : List ByteArray} (l : List ByteArray) (h : Few60 N o) : Few60 (N + 24 * l.length) (useM o l) := by
  unfold useM
  induction l generalizing N o with
  | nil => simpa using h
  | cons s r ih =>
    rw [List.foldl_cons]
    have := ih (few_add h (few_reads s))
    rw [List.length_cons]
    rwa [show N + 24 * (r.length + 1) = N + 24 + 24 * r.length from by omega]
theorem few_mono {N M : Nat} {l : List ByteArray} (h : Few60 N l) (k : N ≤ M) : Few60 M l := ⟨Nat.le_trans h.1 k, h.2⟩
theorem use_step (o l : List ByteArray) {j : Nat} (h : j < l.length) : useM o (l.take (j + 1)) = addM (useM o (l.take j)) (addM [] (readsM l[j])) := foldl_take _ o l h
theorem use_append (o a b : List ByteArray) : useM o (a ++ b) = useM (useM o a) b := by unfold useM; rw [List.foldl_append]
theorem mem_use {o l : List ByteArray} {y : ByteArray} : y ∈ useM o l ↔ y ∈ o ∨ askB l y = true := by
  unfold useM askB
  induction l generalizing o with
  | nil => simp
  | cons s r ih =>
    rw [List.foldl_cons, ih, mem_addM, mem_addM, List.any_cons, Bool.or_eq_true, List.any_eq_true]
    simp [or_assoc]
def useK (x : Bk) (k : Nat) : List ByteArray := useM [] ((x.states.take k).flatMap sumsSt)
theorem useK_step (x : Bk) {k : Nat} (h : k < x.states.length) : useK x (k + 1) = useM (useM (useK x k) (x.states[k].moves.map Mo.cond)) (x.states[k].acts.map Ac.sum) := by
  unfold useK
  rw [List.take_succ_eq_append_getElem h, List.flatMap_append, use_append, List.flatMap_cons, List.flatMap_nil, List.append_nil]
  unfold sumsSt
  rw [use_append]
theorem check_states {x : Bk} (h : checkM x = 0) : ∀ s ∈ x.states, s.moves.length ≤ 4 ∧ s.acts.length ≤ 4 := by
  intro s hs
  unfold checkM at h
  split at h
  · cases h
  · split at h
    · cases h
    · split at h
      · rename_i hf
        have := state_moves (firstC_all hf s hs)
        exact ⟨this.1, this.2.1⟩
      · rename_i hf
        exact absurd h hf
theorem few_useK {x : Bk} (h : checkM x = 0) : ∀ k, k ≤ x.states.length → Few60 (192 * k) (useK x k) := by
  intro k
  induction k with
  | zero => intro _; exact ⟨by simp [useK, useM], by simp [useK, useM]⟩
  | succ k ih =>
    intro hk
    have hs := check_states h _ (List.getElem_mem (show k < x.states.length by omega))
    rw [useK_step x (by omega)]
    refine few_mono (few_use _ (few_use _ (ih (by omega)))) ?_
    rw [List.length_map, List.length_map]
    omega
theorem useK_all (x : Bk) : useK x x.states.length = useM [] (sumsM x) := by
  unfold useK sumsM
  rw [List.take_of_length_le (Nat.le_refl _)]
theorem l3Add_reads (B B2 : Nat) (u : Value) (cur more : List ByteArray) (a : Option Addr) (n c : Nat) (W : World) (hB : B ≤ W.heap.size) (h : OwnS B W u cur) (h2 : OwnS B2 W (.slice a n c) more) (hne : ∀ q, u.ownBlock = some q → q < B2) (N M : Nat) (hl : N + M ≤ 1048576) (hc : Few60 N cur) (hm : Few60 M more) :
    Calls Tryz.prog 31 #[u, .slice a n c] W fun e w' => ∃ v', e = .returned v' ∧ OwnS B w' v' (addM cur more) ∧ Gr u W w' v' := by
  obtain ⟨a', c', e, hc', hz, hown⟩ := h2.form
  cases e
  refine l3Add_any B u cur a _ c more W hB h hz (fun q o e _ e2 => ?_) (by have := hc.1; have := hm.1; omega) (fun y hy => by have := hc.2 y hy; omega) (fun y hy => by have := hm.2 y hy; omega)
  have h1 := (World.ownsRow.lt h2 q (hown q o e)).1
  have h3 := hne q e2.symm
  omega

set_option maxHeartbeats 3200000 in
set_option maxRecDepth 100000 in
theorem specNeeds_any (B : Nat) (v : BkV) (x : Bk) (w : World) (hB : B ≤ w.heap.size) (hwt : wtBk x ≤ 1048576) (hx : IsBk B w v x) :
    Calls Tryz.prog 6 #[v.val x.name] w fun e w' => ∃ a c, e = .returned (.slice a (needsM x).length c) ∧ FreeS w.heap.size w' a (needsM x).length (needsM x) ∧ Below w.heap.size w w' := by
  obtain ⟨p0, p1, p2, p3, p4, p5, p6, p7, p8, p9⟩ := wtBk_parts hwt
  obtain ⟨i0, hi, hz0, hz1, hz2⟩ := info_parts infoStr'
  have HX := hidOf hx
  have HC : Hid (∀ W, Below w.heap.size w W → Calls Tryz.prog 30 #[v.val x.name] W fun e w' => e = .returned (.int .i64 (checkM x)) ∧ Below W.heap.size W w') := fun W hb => l3Check_any B v x W (by have := hb.size; omega) hwt (HX.out.below (hb.mono hB))
  have HN : Hid (∀ W, Below w.heap.size w W → Calls Tryz.prog 33 #[v.val x.name] W fun e w' => ∃ u, e = .returned u ∧ OwnS W.heap.size w' u (namesM x) ∧ Below W.heap.size W w') := fun W hb => l3Names_any B v x W (by have := hb.size; omega) hwt (HX.out.below (hb.mono hB))
  have HQS : Hid (∀ W, Below w.heap.size w W → IsArr 3 QSt B W v.at_ v.nt x.states) := fun W hb => (HX.out.below (hb.mono hB)).states
  have HLT : Hid (x.states.length = v.nt) := hx.states.1
  have hnm1 : ∀ y ∈ namesM x, y.size ≤ 1048576 := by
    intro y hy
    rcases mem_addM.1 hy with h | h
    · rcases mem_addM.1 h with h | h
      · exact valsM_small p2 y h
      · exact valsM_small p4 y h
    · exact vars_small p6 y h
  have HSM : Hid (∀ s ∈ x.states, (∀ m ∈ s.moves, m.cond.size ≤ 1048576) ∧ ∀ a ∈ s.acts, a.sum.size ≤ 1048576) := fun s hs => (bk_sums hwt s hs).2.2
  clear p0 p1 p2 p3 p4 p5 p6 p9
  by_cases hz0 : checkM x = 0
  · have hne : needsM x = (namesM x).filter (askB (sumsM x)) := by unfold needsM; rw [if_pos hz0]
    rw [hz0] at HC
    have HFS := hidOf (check_states hz0)
    have HFW := hidOf (few_useK hz0)
    have h5 := (check_names hz0).1.2.2.2.2.1
    have h16 := (check_names hz0).2.2
    have HUS : Hid (∀ (k : Nat) (h : k < x.states.length), useK x (k + 1) = useM (useM (useK x k) (x.states[k].moves.map Mo.cond)) (x.states[k].acts.map Ac.sum)) := fun k h => useK_step x h
    have HUA : Hid (∀ y, decide (0 ≤ findM (useK x x.states.length) y) = askB (sumsM x) y) := by
      intro y
      rw [useK_all]
      have h1 := @mem_use [] (sumsM x) y
      simp only [List.not_mem_nil, false_or] at h1
      by_cases h : askB (sumsM x) y = true
      · rw [h]
        have h2 := h1.2 h
        simp only [decide_eq_true_eq]
        refine Classical.byContradiction fun h3 => ?_
        exact findM_neg.1 (by omega) h2
      · rw [Bool.not_eq_true] at h
        rw [h]
        simp only [decide_eq_false_iff_not]
        intro h3
        have : ¬ y ∈ useM [] (sumsM x) := fun h4 => by rw [h1.1 h4] at h; cases h
        have := findM_neg.2 this
        omega
    rw [hne]
    obtain ⟨AB, hAB⟩ : ∃ f, askB (sumsM x) = f := ⟨_, rfl⟩
    rw [hAB] at HUA ⊢
    obtain ⟨NM, hNM⟩ : ∃ l, namesM x = l := ⟨_, rfl⟩
    rw [hNM] at HN h16 hnm1 ⊢
    obtain ⟨UK, hUK⟩ : ∃ f, useK x = f := ⟨_, rfl⟩
    rw [hUK] at HFW HUS HUA
    have HU0 : Hid (UK 0 = []) := by show _ = _; rw [← hUK]; rfl
    have HNS := hidOf hnm1
    clear hAB hNM hUK hne hnm1 hx HX hwt hz0
    obtain ⟨ai, ni, ci, ao, no, co, av, nv, cv, at_, nt, ct⟩ := v
    obtain ⟨xn, hxn⟩ : ∃ n, x.name = n := ⟨_, rfl⟩
    have hnt : nt ≤ 5 := by have h1 : x.states.length = nt := HLT.out; omega
    simp only [BkV.val] at HC HN HQS HLT ⊢
    rw [hxn] at HC HN ⊢
    clear hxn h5 p7 p8
    have BX0 := hidOf (boxAt_new w [.string xn, .slice ai ni ci, .slice ao no co, .slice av nv cv, .slice at_ nt ct] 34)
    go_enter Tryz.func6, Tryz.ntmps6
    go_wp2_with fail
    refine (HC.out _ (by go_grown)).mono ?_
    rintro e w1 ⟨rfl, b1⟩
    have HB1 := hidOf (below_boxed b1)
    have BX1 := hidOf (BX0.out.below b1)
    clear b1 HC BX0
    go_wp2_with fail
    go_loopw [3, 4] (fun u i wr => ∃ k : Nat, k ≤ nt ∧ i = .int .i64 k ∧ Hid (OwnS w1.heap.size wr u (UK k)) ∧ Hid (Below w1.heap.size w1 wr)) (fun _ i _ => nt - (intOf i).toNat)
    case atStart => exact ⟨0, Nat.zero_le _, rfl, by show OwnS _ _ _ _; rw [HU0.out]; exact World.ownsRow_made w1 #[] 0 (Nat.le_refl _) (Nat.zero_le _) rfl, (Below.refl _ _).alloc (Nat.le_refl _) _⟩
    case round =>
      obtain ⟨k, hk, rfl, HK, HB⟩ := hrel
      have HBw : Hid (Below w.heap.size w wr) := HB1.out.trans (HB.out.mono HB1.out.size)
      have HXB := hidOf (BX1.out.below HB.out)
      have c0 : wr.cell? ⟨w.heap.size, 0, none⟩ = some (.string xn) := (HXB.out.2 0 _ rfl).1
      have c1 : wr.cell? ⟨w.heap.size, 1, none⟩ = some (.slice ai ni ci) := (HXB.out.2 1 _ rfl).1
      have c2 : wr.cell? ⟨w.heap.size, 2, none⟩ = some (.slice ao no co) := (HXB.out.2 2 _ rfl).1
      have c3 : wr.cell? ⟨w.heap.size, 3, none⟩ = some (.slice av nv cv) := (HXB.out.2 3 _ rfl).1
      have c4 : wr.cell? ⟨w.heap.size, 4, none⟩ = some (.slice at_ nt ct) := (HXB.out.2 4 _ rfl).1
      have sx : w.heap.size < wr.heap.size := HXB.out.1
      by_cases hlt : k < nt
      · have hkl : k < x.states.length := by have h1 : x.states.length = nt := HLT.out; omega
        obtain ⟨sb, soff, cs, rfl, hsb, hq, hcell⟩ := IsArr.at (HQS.out w (Below.refl _ _)) hlt hkl
        obtain ⟨ma, mn, mc, ra, rn, rc, rfl, q1, q2, q3, q4, q5, q6⟩ := hq
        have lm := q5.1
        have lr := q6.1
        have hml := HFS.out _ (List.getElem_mem hkl)
        have HSZ := hidOf (HSM.out _ (List.getElem_mem hkl))
        have hfw := HFW.out k (by omega)
        have HQM : Hid (∀ W, Below w.heap.size w W → IsArr 3 QMo B W ma mn x.states[k].moves) := fun W hb => q5.below (QMo.lift (hb.mono hB)) (hb.mono hB)
        have HQR : Hid (∀ W, Below w.heap.size w W → IsArr 3 QAc B W ra rn x.states[k].acts) := fun W hb => q6.below (QAc.lift (hb.mono hB)) (hb.mono hB)
        have HUk := hidOf (HUS.out k hkl)
        obtain ⟨ml, hmls⟩ : ∃ l, x.states[k].moves = l := ⟨_, rfl⟩
        obtain ⟨rl, hrls⟩ : ∃ l, x.states[k].acts = l := ⟨_, rfl⟩
        rw [hmls] at lm hml HSZ HQM HUk
        rw [hrls] at lr hml HSZ HQR HUk
        have hsbw : sb < w.heap.size := by omega
        have S1 : Hid (∀ W, Below w.heap.size w W → W.cell? ⟨sb, soff + k * 3 + 1, none⟩ = some (.slice ma mn mc) ∧ W.cell? ⟨sb, soff + k * 3 + 1 + 1, none⟩ = some (.slice ra rn rc) ∧ sb < W.heap.size) := fun W hb => ⟨(hb.cell (p := ⟨sb, soff + k * 3 + 1, none⟩) hsbw).trans (hcell 1 _ rfl), (hb.cell (p := ⟨sb, soff + k * 3 + 1 + 1, none⟩) hsbw).trans (hcell 2 _ rfl), Nat.lt_of_lt_of_le hsbw hb.size⟩
        obtain ⟨U0, hU0⟩ : ∃ U, UK k = U := ⟨_, rfl⟩
        rw [hU0] at hfw HUk HK
        have HF0 := hidOf hfw
        have hLM := hidOf lm
        have hLR := hidOf lr
        have hmn : mn ≤ 4 := by omega
        have hrn : rn ≤ 4 := by omega
        have hk5 : k < 5 := by omega
        clear hcell hmls hrls hU0 q5 q6 lm lr hml hfw hsb hsbw q1 q2 q3 q4
        go_wp2_with fail
        clear c0 c1 c2 c3 c4 sx HXB HBw
        go_loopw [3, 5] (fun u i wi => ∃ j : Nat, j ≤ mn ∧ i = .int .i64 j ∧ Hid (OwnS w1.heap.size wi u (useM U0 ((ml.map Mo.cond).take j))) ∧ Hid (Below w1.heap.size w1 wi)) (fun _ i _ => mn - (intOf i).toNat)
        case atStart => exact ⟨0, Nat.zero_le _, rfl, HK, HB⟩
        case round =>
          clear HK HB
          obtain ⟨j, hj, rfl, HK, HB⟩ := hrel
          have HBw : Hid (Below w.heap.size w wr) := HB1.out.trans (HB.out.mono HB1.out.size)
          have HXB := hidOf (BX1.out.below HB.out)
          have c0 : wr.cell? ⟨w.heap.size, 0, none⟩ = some (.string xn) := (HXB.out.2 0 _ rfl).1
          have c1 : wr.cell? ⟨w.heap.size, 1, none⟩ = some (.slice ai ni ci) := (HXB.out.2 1 _ rfl).1
          have c2 : wr.cell? ⟨w.heap.size, 2, none⟩ = some (.slice ao no co) := (HXB.out.2 2 _ rfl).1
          have c3 : wr.cell? ⟨w.heap.size, 3, none⟩ = some (.slice av nv cv) := (HXB.out.2 3 _ rfl).1
          have c4 : wr.cell? ⟨w.heap.size, 4, none⟩ = some (.slice (some ⟨sb, soff, none⟩) nt ct) := (HXB.out.2 4 _ rfl).1
          have sx : w.heap.size < wr.heap.size := HXB.out.1
          obtain ⟨s1, s2, s3⟩ := S1.out wr HBw.out
          by_cases hlj : j < mn
          · have hjl : j < ml.length := by have h1 : ml.length = mn := hLM.out; omega
            obtain ⟨b, off, cs, rfl, hb, hq, hcell⟩ := IsArr.at (HQM.out wr HBw.out) hlj hjl
            have hbr : b < wr.heap.size := by have := HBw.out.size; omega
            have HST := hidOf (use_step U0 (ml.map Mo.cond) (show j < (ml.map Mo.cond).length by rw [List.length_map]; exact hjl))
            have hfc := few_use ((ml.map Mo.cond).take j) HF0.out
            have HFC : Hid (Few60 1000 (useM U0 ((ml.map Mo.cond).take j))) := few_mono hfc (by rw [List.length_take, List.length_map]; omega)
            have hys := HSZ.out.1 _ (List.getElem_mem hjl)
            obtain ⟨y, hy⟩ : ∃ y, ml[j] = y := ⟨_, rfl⟩
            rw [hy] at hq hys
            have HST2 : Hid (useM U0 ((ml.map Mo.cond).take (j + 1)) = addM (useM U0 ((ml.map Mo.cond).take j)) (addM [] (readsM y.cond))) := by show _ = _; rw [HST.out, List.getElem_map, hy]
            obtain ⟨y0, y1, y2⟩ := y
            unfold QMo at hq
            subst hq
            have e2 : wr.cell? ⟨b, off + j * 3 + 1, none⟩ = some (.string y1) := hcell 1 _ rfl
            simp only at hys HST2
            obtain ⟨cur, hcur⟩ : ∃ U, useM U0 ((ml.map Mo.cond).take j) = U := ⟨_, rfl⟩
            rw [hcur] at HK HST2 HFC
            have HRD := hidOf (fun W => l21Reads_any y1 W hys)
            have HFR := hidOf (few_reads y1)
            obtain ⟨R, hR⟩ : ∃ R, addM [] (readsM y1) = R := ⟨_, rfl⟩
            rw [hR] at HST2 HRD HFR
            have HLTU : Hid (∀ q, u3.ownBlock = some q → w1.heap.size ≤ q ∧ q < wr.heap.size) := fun q hq => World.ownsRow.lt HK.out q hq
            clear hcell hy hys hfc HST hcur hR hb
            go_wp2_with fail
            refine (HRD.out _).mono ?_
            rintro e w3 ⟨ux, rfl, o3, b3⟩
            obtain ⟨a3, k3, e3, _⟩ := o3.form
            subst e3
            have HB3 : Hid (Below w1.heap.size w1 w3) := HB.out.trans (b3.mono HB.out.size)
            have HO3 : Hid (OwnS wr.heap.size w3 _ R) := o3
            have HK3 := hidOf (HK.out.keep b3)
            have HS3 := hidOf b3.size
            clear o3 b3
            go_wp2_with fail
            refine (l3Add_reads w1.heap.size wr.heap.size u3 cur R a3 _ k3 w3 (Nat.le_trans HB.out.size HS3.out) HK3.out HO3.out (fun q hq => (HLTU.out q hq).2) 1000 24 (by omega) HFC.out HFR.out).mono ?_
            rintro e w4 ⟨u4, rfl, o4, g4⟩
            have HB4 : Hid (Below w1.heap.size w1 w4) := HB3.out.trans (g4.below HB3.out.size (fun q hq => (HLTU.out q hq).1))
            have HK4 := hidOf o4
            clear o4 g4
            go_wp2_with fail
            go_roundw
            case rel => exact ⟨j + 1, by omega, by go_num, by show OwnS _ _ _ _; rw [HST2.out]; exact HK4.out, HB4⟩
            case measure => simp [intOf]; omega
          · have HE : Hid ((ml.map Mo.cond).take j = ml.map Mo.cond) := List.take_of_length_le (by rw [List.length_map]; have h1 : ml.length = mn := hLM.out; omega)
            rw [HE.out] at HK
            have HF1 := hidOf (few_use (ml.map Mo.cond) HF0.out)
            obtain ⟨U1, hU1⟩ : ∃ U, useM U0 (ml.map Mo.cond) = U := ⟨_, rfl⟩
            rw [hU1] at HK HF1 HUk
            have hml4 : ml.length ≤ 4 := by have h1 : ml.length = mn := hLM.out; omega
            have HF2 : Hid (Few60 (192 * k + 96) U1) := few_mono HF1.out (by rw [List.length_map]; omega)
            clear hU1 HE HF1
            go_wp2_with fail
            clear c0 c1 c2 c3 c4 sx s1 s2 s3 HXB HBw
            try clear hlj
            go_loopw [3, 6] (fun u i wi => ∃ j : Nat, j ≤ rn ∧ i = .int .i64 j ∧ Hid (OwnS w1.heap.size wi u (useM U1 ((rl.map Ac.sum).take j))) ∧ Hid (Below w1.heap.size w1 wi)) (fun _ i _ => rn - (intOf i).toNat)
            case atStart => exact ⟨0, Nat.zero_le _, rfl, HK, HB⟩
            case round =>
              clear HK HB
              obtain ⟨i, hi, rfl, HK, HB⟩ := hrel
              have HBw : Hid (Below w.heap.size w wr) := HB1.out.trans (HB.out.mono HB1.out.size)
              have HXB := hidOf (BX1.out.below HB.out)
              have c0 : wr.cell? ⟨w.heap.size, 0, none⟩ = some (.string xn) := (HXB.out.2 0 _ rfl).1
              have c1 : wr.cell? ⟨w.heap.size, 1, none⟩ = some (.slice ai ni ci) := (HXB.out.2 1 _ rfl).1
              have c2 : wr.cell? ⟨w.heap.size, 2, none⟩ = some (.slice ao no co) := (HXB.out.2 2 _ rfl).1
              have c3 : wr.cell? ⟨w.heap.size, 3, none⟩ = some (.slice av nv cv) := (HXB.out.2 3 _ rfl).1
              have c4 : wr.cell? ⟨w.heap.size, 4, none⟩ = some (.slice (some ⟨sb, soff, none⟩) nt ct) := (HXB.out.2 4 _ rfl).1
              have sx : w.heap.size < wr.heap.size := HXB.out.1
              obtain ⟨s1, s2, s3⟩ := S1.out wr HBw.out
              by_cases hlj : i < rn
              · have hjl : i < rl.length := by have h1 : rl.length = rn := hLR.out; omega
                obtain ⟨b, off, cs, rfl, hb, hq, hcell⟩ := IsArr.at (HQR.out wr HBw.out) hlj hjl
                have hbr : b < wr.heap.size := by have := HBw.out.size; omega
                have HST := hidOf (use_step U1 (rl.map Ac.sum) (show i < (rl.map Ac.sum).length by rw [List.length_map]; exact hjl))
                have hfc := few_use ((rl.map Ac.sum).take i) HF2.out
                have HFC : Hid (Few60 1000 (useM U1 ((rl.map Ac.sum).take i))) := few_mono hfc (by rw [List.length_take, List.length_map]; omega)
                have hys := HSZ.out.2 _ (List.getElem_mem hjl)
                obtain ⟨y, hy⟩ : ∃ y, rl[i] = y := ⟨_, rfl⟩
                rw [hy] at hq hys
                have HST2 : Hid (useM U1 ((rl.map Ac.sum).take (i + 1)) = addM (useM U1 ((rl.map Ac.sum).take i)) (addM [] (readsM y.sum))) := by show _ = _; rw [HST.out, List.getElem_map, hy]
                obtain ⟨y0, y1, y2⟩ := y
                unfold QAc at hq
                subst hq
                have e2 : wr.cell? ⟨b, off + i * 3 + 1 + 1, none⟩ = some (.string y2) := hcell 2 _ rfl
                simp only at hys HST2
                obtain ⟨cur, hcur⟩ : ∃ U, useM U1 ((rl.map Ac.sum).take i) = U := ⟨_, rfl⟩
                rw [hcur] at HK HST2 HFC
                have HRD := hidOf (fun W => l21Reads_any y2 W hys)
                have HFR := hidOf (few_reads y2)
                obtain ⟨R, hR⟩ : ∃ R, addM [] (readsM y2) = R := ⟨_, rfl⟩
                rw [hR] at HST2 HRD HFR
                have HLTU : Hid (∀ q, u3.ownBlock = some q → w1.heap.size ≤ q ∧ q < wr.heap.size) := fun q hq => World.ownsRow.lt HK.out q hq
                clear hcell hy hys hfc HST hcur hR hb
                go_wp2_with fail
                refine (HRD.out _).mono ?_
                rintro e w3 ⟨ux, rfl, o3, b3⟩
                obtain ⟨a3, k3, e3, _⟩ := o3.form
                subst e3
                have HB3 : Hid (Below w1.heap.size w1 w3) := HB.out.trans (b3.mono HB.out.size)
                have HO3 : Hid (OwnS wr.heap.size w3 _ R) := o3
                have HK3 := hidOf (HK.out.keep b3)
                have HS3 := hidOf b3.size
                clear o3 b3
                go_wp2_with fail
                refine (l3Add_reads w1.heap.size wr.heap.size u3 cur R a3 _ k3 w3 (Nat.le_trans HB.out.size HS3.out) HK3.out HO3.out (fun q hq => (HLTU.out q hq).2) 1000 24 (by omega) HFC.out HFR.out).mono ?_
                rintro e w4 ⟨u4, rfl, o4, g4⟩
                have HB4 : Hid (Below w1.heap.size w1 w4) := HB3.out.trans (g4.below HB3.out.size (fun q hq => (HLTU.out q hq).1))
                have HK4 := hidOf o4
                clear o4 g4
                go_wp2_with fail
                go_roundw
                case rel => exact ⟨i + 1, by omega, by go_num, by show OwnS _ _ _ _; rw [HST2.out]; exact HK4.out, HB4⟩
                case measure => simp [intOf]; omega
              · have HE : Hid ((rl.map Ac.sum).take i = rl.map Ac.sum) := List.take_of_length_le (by rw [List.length_map]; have h1 : rl.length = rn := hLR.out; omega)
                rw [HE.out, ← HUk.out] at HK
                go_wp2_with fail
                go_roundw
                case rel => exact ⟨k + 1, by omega, by go_num, HK, HB⟩
                case measure => simp [intOf]; omega
      · have hkn : k = nt := by omega
        subst hkn
        have HUA2 : Hid (∀ y, decide (0 ≤ findM (UK k) y) = AB y) := by have h1 : x.states.length = k := HLT.out; intro y; rw [← h1]; exact HUA.out y
        have HFK := hidOf (HFW.out k (by have h1 : x.states.length = k := HLT.out; omega))
        have hf1 : (UK k).length ≤ 1000 := Nat.le_trans HFK.out.1 (by omega)
        have hf2 : ∀ y ∈ UK k, y.size ≤ 1048576 := fun y hy => by have := HFK.out.2 y hy; omega
        obtain ⟨U, hU⟩ : ∃ U, UK k = U := ⟨_, rfl⟩
        rw [hU] at HUA2 HK hf1 hf2
        have HF2 := hidOf hf2
        obtain ⟨ua, uc, hua, _, _⟩ := HK.out.form
        obtain ⟨un, hun⟩ : ∃ n, U.length = n := ⟨_, rfl⟩
        rw [hun] at hua hf1
        have HUN := hidOf hun
        subst hua
        have HBa : Hid (Below w.heap.size w (wr.alloc (.cells #[] 9))) := HBw.out.alloc (by have := HBw.out.size; omega) _
        have HL1 : Hid (w.heap.size ≤ wr.heap.size) := HBw.out.size
        clear hU hf2 hun HFW HUS HFS HSM HQS HUA
        go_wp2_with fail
        refine (HN.out _ HBa.out).mono ?_
        rintro e w5 ⟨u5, rfl, o5, b5⟩
        obtain ⟨na, nc, e5, _, hnz, _⟩ := o5.form
        subst e5
        have HB5 : Hid (Below w.heap.size w w5) := HBa.out.trans (b5.mono HBa.out.size)
        have HU5 := hidOf ((HK.out.keep ((Below.refl _ _).alloc (Nat.le_refl _) _)).keep b5)
        have HO5 : Hid (OwnS wr.heap.size w5 (.slice (some ⟨wr.heap.size, 0, none⟩) 0 0) []) := OwnS.keep (World.ownsRow_made wr #[] 0 (Nat.le_refl _) (Nat.zero_le _) rfl) b5
        have HNF : Hid (OwnS (wr.heap.size + 1) w5 (.slice na NM.length nc) NM) := by show OwnS _ _ _ _; simpa using o5
        have HUL : Hid (∀ q, (Value.slice ua un uc).ownBlock = some q → q < wr.heap.size) := fun q hq => (World.ownsRow.lt HK.out q hq).2
        have hs5 : wr.heap.size < w5.heap.size := by have := b5.size; simp at this; omega
        obtain ⟨nn, hnn⟩ : ∃ n, NM.length = n := ⟨_, rfl⟩
        have HNN := hidOf hnn
        rw [hnn] at h16 HNF ⊢
        obtain ⟨g0, hg0⟩ : ∃ g, wr.heap.size = g := ⟨_, rfl⟩
        rw [hg0] at HO5 HNF HUL hs5 HL1 ⊢
        clear o5 b5 hnz hnn HN HBa HXB HB BX1 HB1 hg0 c0 c1 c2 c3 c4 sx HK HBw
        go_wp2_with fail
        go_loopw [7, 9] (fun o i wi => ∃ j : Nat, j ≤ nn ∧ i = .int .i64 j ∧ Hid (OwnS g0 wi o ((NM.take j).filter AB)) ∧ Hid (Gr (.slice (some ⟨g0, 0, none⟩) 0 0) w5 wi o)) (fun _ i _ => nn - (intOf i).toNat)
        case atStart => exact ⟨0, Nat.zero_le _, rfl, HO5, ⟨rfl, rfl, rfl, Nat.le_refl _, fun _ _ _ => rfl, .inl rfl⟩⟩
        case round =>
          obtain ⟨j, hj, rfl, HO, HG⟩ := hrel
          have hws := HG.out.size
          by_cases hlj : j < nn
          · have hjl : j < NM.length := by have := HNN.out; omega
            have hfar := HNF.out.far.2
            rcases hfar with h0 | ⟨q, off, rfl, hq1, hq2, hcell⟩
            · omega
            have hqb : wr.heap[q]? = w5.heap[q]? := HG.out.block q hq2 (fun e => by have e2 : q = g0 := Option.some.inj e; omega)
            have c0 : wr.cell? ⟨q, off + j, none⟩ = some (.string NM[j]) := (World.cell?_of_block hqb).trans (hcell j hjl)
            have hqr : q < wr.heap.size := Nat.lt_of_lt_of_le hq2 hws
            have hys := HNS.out _ (List.getElem_mem hjl)
            have HST := hidOf (needs_step AB NM hjl)
            have hfl : ((NM.take j).filter AB).length ≤ j := by
              have := List.length_filter_le AB (NM.take j)
              rw [List.length_take] at this
              omega
            obtain ⟨y, hy⟩ : ∃ y, NM[j] = y := ⟨_, rfl⟩
            rw [hy] at c0 hys HST
            have hu6 : OwnS w1.heap.size wr (.slice ua un uc) U := own_of_block HU5.out (fun p hp => HG.out.block p (World.ownsRow.lt HU5.out p hp).2 (fun e => by have e2 : p = g0 := Option.some.inj e; have := HUL.out _ hp; omega))
            obtain ⟨ua', uc', e6, _, huz, _⟩ := hu6.form
            injection e6 with e7 e8 e9
            subst e7
            subst e9
            clear e8
            rw [HUN.out] at huz
            have HF := hidOf (l1Find_any wr.heap.size ua un uc U y wr (by omega) hys HF2.out huz)
            have hab := HUA2.out y
            obtain ⟨R, hR⟩ : ∃ r, findM U y = r := ⟨_, rfl⟩
            rw [hR] at HF hab
            obtain ⟨F, hF⟩ : ∃ F, (NM.take j).filter AB = F := ⟨_, rfl⟩
            rw [hF] at HO HST hfl
            clear hcell hqb hy huz hu6 hR hF
            by_cases hR0 : 0 ≤ R
            · have hab' : AB y = true := by rw [← hab]; simpa using hR0
              rw [if_pos hab'] at HST
              obtain ⟨m, hm⟩ : ∃ m, F.length = m := ⟨_, rfl⟩
              have HM := hidOf hm
              rw [hm] at hfl
              obtain ⟨oa, oc, hoa, _, _⟩ := HO.out.form
              rw [hm] at hoa
              subst hoa
              have HOW : Hid (wr.ownsRow g0 9 1 (.slice oa m oc) m (F.map Value.string)) := by
                have := HO.out
                unfold OwnS at this
                rw [hm] at this
                exact this
              clear hab hab' hm
              go_wp2_with (first
                | (go_at_call 34; refine HF.out.mono ?_; rintro e w' ⟨rfl, hw'⟩; rw [hw']; clear hw' w')
                | (at_builtin; (refine wpList_append_lies _ rfl (.tmp 85) (.tmp 90) 28 rfl g0 9 i0 (.string ByteArray.empty) 1 16 Tryz.underlying28 hi hz0 hz1 hz2 rfl (by decide) (.slice oa m oc) m (F.map Value.string) rfl (by exact (HOW.out.alloc _)) ⟨wr.heap.size, 0, none⟩ 1 1 [.string y] rfl rfl (by exact one_new _ _ _) (by intro u hu; simp at hu; subst hu; rfl) (by decide) (by unfold maxLen; omega) (by omega) (by simp; omega) _ rfl ?_)))
              intro g cap' w6 hown' hgrow hat hlt'
              have hgr : Gr (.slice oa m oc) wr w6 (.slice (some ⟨g, 0, none⟩) (m + 1) cap') := Gr.alloc0 (Gr.of hgrow (by simpa using hat))
              have HG2 : Hid (Gr (.slice (some ⟨g0, 0, none⟩) 0 0) w5 w6 (.slice (some ⟨g, 0, none⟩) (m + 1) cap')) := HG.out.trans hgr
              have HO2 : Hid (OwnS g0 w6 (.slice (some ⟨g, 0, none⟩) (m + 1) cap') (F ++ [y])) := by
                show World.ownsRow _ _ _ _ _ _ _
                rw [List.length_append, HM.out, List.map_append]
                exact hown'
              clear hgrow hown' hgr hat
              go_wp2_with fail
              go_roundw
              case rel => exact ⟨j + 1, by omega, by go_num, by show OwnS _ _ _ _; rw [HST.out]; exact HO2.out, HG2⟩
              case measure => simp [intOf]; omega
            · have hab' : AB y = false := by rw [← hab]; simpa using hR0
              rw [hab', if_neg (by simp), List.append_nil] at HST
              have hR1 : ¬ R ≥ 0 := by omega
              clear hab hab'
              go_wp2_with (go_at_call 34; refine HF.out.mono ?_; rintro e w' ⟨rfl, hw'⟩; rw [hw']; clear hw' w')
              go_roundw
              case rel => exact ⟨j + 1, by omega, by go_num, by show OwnS _ _ _ _; rw [HST.out]; exact HO.out, HG⟩
              case measure => simp [intOf]; omega
          · have hjn : j = nn := by omega
            subst hjn
            have HE : Hid (NM.take j = NM) := List.take_of_length_le (by have := HNN.out; omega)
            rw [HE.out] at HO
            obtain ⟨oa, oc, hoa, _, hfr⟩ := HO.out.free
            subst hoa
            have HFR := hidOf (hfr.low HL1.out)
            have HBe : Hid (Below w.heap.size w wr) := HB5.out.trans (HG.out.below HB5.out.size (fun q hq => by have e2 : g0 = q := Option.some.inj hq; have := HL1.out; omega))
            clear hfr
            go_wp2_with fail
            go_ret
            exact ⟨_, _, rfl, HFR.out, HBe.out⟩
  · have e0 : needsM x = [] := by unfold needsM; rw [if_neg hz0]
    obtain ⟨P, hP⟩ : ∃ P, checkM x = P := ⟨_, rfl⟩
    rw [hP] at HC hz0
    have h0' : (P != 0) = true := by simp [hz0]
    rw [e0]
    clear hP e0 hx HX HN HQS HSM HLT hnm1 hwt p7 p8
    obtain ⟨ai, ni, ci, ao, no, co, av, nv, cv, at_, nt, ct⟩ := v
    obtain ⟨xn, hxn⟩ : ∃ n, x.name = n := ⟨_, rfl⟩
    simp only [BkV.val] at HC ⊢
    rw [hxn] at HC ⊢
    clear hxn
    go_enter Tryz.func6, Tryz.ntmps6
    go_wp2_with fail
    refine (HC.out _ (by go_grown)).mono ?_
    rintro e w1 ⟨rfl, b1⟩
    have HB1 := hidOf (below_boxed b1)
    clear b1
    go_wp2_with fail
    go_ret
    exact ⟨none, 0, rfl, ⟨⟨rfl, .inl rfl⟩, .inl rfl⟩, HB1.out⟩
end Go.Proofs.YtchemhjcknkbgaaGreatDoor

/- The program's ReachNeeds. -/
namespace Go.Proofs.YtchemhjcknkbgaaGreatDoor
open Go Go.RowKit Go.PlainAid
set_option linter.unusedSimpArgs false
set_option linter.unusedVariables false

theorem needs_small {x : Bk} (h : wtBk x ≤ 1048576) : ∀ y ∈ namesM x, y.size ≤ 1048576 := by
  obtain ⟨p0, p1, p2, p3, p4, p5, p6, p7, p8, p9⟩ := wtBk_parts h
  intro y hy
  rcases mem_addM.1 hy with h | h
  · rcases mem_addM.1 h with h | h
    · exact valsM_small p2 y h
    · exact valsM_small p4 y h
  · exact vars_small p6 y h

set_option maxHeartbeats 3200000 in
set_option maxRecDepth 100000 in
theorem implNeeds_any (B : Nat) (v : BkV) (x : Bk) (w : World) (hB : B ≤ w.heap.size) (hwt : wtBk x ≤ 1048576) (hx : IsBk B w v x) (hw : Tabs w) :
    Calls Tryz.prog 8 #[v.val x.name] w fun e w' => ∃ a c, e = .returned (.slice a (needsM x).length c) ∧ FreeS w.heap.size w' a (needsM x).length (needsM x) ∧ Below w.heap.size w w' := by
  have HX := hidOf hx
  have HTB := hidOf hw
  have HC : Hid (∀ W, Below w.heap.size w W → Calls Tryz.prog 38 #[v.val x.name] W fun e w' => e = .returned (.int .i64 (checkM x)) ∧ Below W.heap.size W w') := fun W hb => implBlockCheck_any B v x W (HTB.out.below hb) (by have := hb.size; omega) hwt (HX.out.below (hb.mono hB))
  by_cases hz0 : checkM x = 0
  · have hne : needsM x = (namesM x).filter (askB (sumsM x)) := by unfold needsM; rw [if_pos hz0]
    have HA : Hid (∀ W, Below w.heap.size w W → Calls Tryz.prog 39 #[v.val x.name] W fun e w' => ∃ mb n, e = .returned (.map (some mb)) ∧ SetIs w' mb n (askB (sumsM x)) ∧ Below W.heap.size W w') := fun W hb => namesAsked_any B v x W (HTB.out.below hb) (by have := hb.size; omega) hwt (HX.out.below (hb.mono hB))
    have HN : Hid (∀ W, Below w.heap.size w W → Calls Tryz.prog 41 #[v.val x.name] W fun e w' => ∃ u, e = .returned u ∧ OwnS W.heap.size w' u (namesM x) ∧ Below W.heap.size W w') := fun W hb => by
      have h := namesOf_any B v x W (by have := hb.size; omega) hwt (check_few hz0) (HX.out.below (hb.mono hB))
      rw [← names_eq (check_names hz0)] at h
      exact h
    rw [hz0] at HC
    rw [hne]
    have HNS := hidOf (needs_small hwt)
    have h16 := (check_names hz0).2.2
    obtain ⟨AB, hAB⟩ : ∃ f, askB (sumsM x) = f := ⟨_, rfl⟩
    obtain ⟨NM, hNM⟩ : ∃ l, namesM x = l := ⟨_, rfl⟩
    rw [hAB] at HA ⊢
    rw [hNM] at HN HNS h16 ⊢
    clear hAB hNM hne hx HX hw HTB hwt hz0
    obtain ⟨ai, ni, ci, ao, no, co, av, nv, cv, at_, nt, ct⟩ := v
    obtain ⟨xn, hxn⟩ : ∃ n, x.name = n := ⟨_, rfl⟩
    simp only [BkV.val] at HC HA HN ⊢
    rw [hxn] at HC HA HN ⊢
    clear hxn
    have BX0 := hidOf (boxAt_new w [.string xn, .slice ai ni ci, .slice ao no co, .slice av nv cv, .slice at_ nt ct] 34)
    go_enter Tryz.func8, Tryz.ntmps8
    go_wp2_with fail
    refine (HC.out _ (by go_grown)).mono ?_
    rintro e w1 ⟨rfl, b1⟩
    have HB1 := hidOf (below_boxed b1)
    have BX1 := hidOf (BX0.out.below b1)
    clear b1 HC BX0
    have c0 : w1.cell? ⟨w.heap.size, 0, none⟩ = some (.string xn) := (BX1.out.2 0 _ rfl).1
    have c1 : w1.cell? ⟨w.heap.size, 1, none⟩ = some (.slice ai ni ci) := (BX1.out.2 1 _ rfl).1
    have c2 : w1.cell? ⟨w.heap.size, 2, none⟩ = some (.slice ao no co) := (BX1.out.2 2 _ rfl).1
    have c3 : w1.cell? ⟨w.heap.size, 3, none⟩ = some (.slice av nv cv) := (BX1.out.2 3 _ rfl).1
    have c4 : w1.cell? ⟨w.heap.size, 4, none⟩ = some (.slice at_ nt ct) := (BX1.out.2 4 _ rfl).1
    have sx : w.heap.size < w1.heap.size := BX1.out.1
    go_wp2_with fail
    refine (HA.out _ HB1.out).mono ?_
    rintro e w2 ⟨mb, mn, rfl, hs2, b2⟩
    have HS2 := hidOf hs2
    have HB2 : Hid (Below w.heap.size w w2) := HB1.out.trans (b2.mono HB1.out.size)
    have BX2 := hidOf (BX1.out.below b2)
    clear c0 c1 c2 c3 c4 sx hs2 b2 BX1 HA
    have c0 : w2.cell? ⟨w.heap.size, 0, none⟩ = some (.string xn) := (BX2.out.2 0 _ rfl).1
    have c1 : w2.cell? ⟨w.heap.size, 1, none⟩ = some (.slice ai ni ci) := (BX2.out.2 1 _ rfl).1
    have c2 : w2.cell? ⟨w.heap.size, 2, none⟩ = some (.slice ao no co) := (BX2.out.2 2 _ rfl).1
    have c3 : w2.cell? ⟨w.heap.size, 3, none⟩ = some (.slice av nv cv) := (BX2.out.2 3 _ rfl).1
    have c4 : w2.cell? ⟨w.heap.size, 4, none⟩ = some (.slice at_ nt ct) := (BX2.out.2 4 _ rfl).1
    have sx : w.heap.size < w2.heap.size := BX2.out.1
    go_wp2_with fail
    have hba : Below w2.heap.size w2 (w2.alloc (.cells #[.map (some mb)] 76)) := (Below.refl _ _).alloc (Nat.le_refl _) _
    have HS3 := hidOf (HS2.out.below hba)
    have HBa : Hid (Below w.heap.size w (w2.alloc (.cells #[.map (some mb)] 76))) := HB2.out.trans (hba.mono HB2.out.size)
    have BXm := hidOf (boxAt_new w2 [.map (some mb)] 76)
    clear hba
    refine (HN.out _ HBa.out).mono ?_
    rintro e w3 ⟨u3, rfl, o3, b3⟩
    obtain ⟨a3, k3, e3, _, z3, _⟩ := o3.form
    subst e3
    have HS4 := hidOf (HS3.out.below b3)
    have BXn := hidOf (BXm.out.below b3)
    have HB3 : Hid (Below w.heap.size w w3) := HBa.out.trans (b3.mono HBa.out.size)
    have HC1 : Hid (∀ W s, s.size ≤ 1048576 → Below w3.heap.size w3 W → Calls Tryz.prog 42 #[.string s, .pointer (some ⟨w2.heap.size, 0, none⟩)] W fun e w' => e = .returned (.bool (AB s)) ∧ Below W.heap.size W w') := fun W s hs hb => needs1_any s w2.heap.size mb mn AB W hs (HS4.out.below hb) ((BXn.out.below hb).2 0 _ rfl).1
    have HTH := hidOf (thoseS_any w3.heap.size a3 NM.length k3 NM w2.heap.size AB w3 (Nat.le_refl _) (by omega) HNS.out z3 HC1.out)
    obtain ⟨nn, hnn⟩ : ∃ n, NM.length = n := ⟨_, rfl⟩
    rw [hnn] at HTH ⊢
    clear o3 b3 z3 hnn c0 c1 c2 c3 c4 sx HC1 HN
    go_wp2_with fail
    refine HTH.out.mono ?_
    rintro e w4 ⟨u4, rfl, o4, b4⟩
    obtain ⟨a4, k4, e4, _, f4⟩ := o4.free
    subst e4
    have HF := hidOf (f4.low HB3.out.size)
    have HB4 : Hid (Below w.heap.size w w4) := HB3.out.trans (b4.mono HB3.out.size)
    clear o4 b4 f4
    go_wp2_with fail
    go_ret
    exact ⟨_, _, rfl, HF.out, HB4.out⟩
  · have e0 : needsM x = [] := by unfold needsM; rw [if_neg hz0]
    obtain ⟨P, hP⟩ : ∃ P, checkM x = P := ⟨_, rfl⟩
    rw [hP] at HC hz0
    have h0' : (P != 0) = true := by simp [hz0]
    rw [e0]
    clear hP e0 hx HX hwt hw HTB
    obtain ⟨ai, ni, ci, ao, no, co, av, nv, cv, at_, nt, ct⟩ := v
    obtain ⟨xn, hxn⟩ : ∃ n, x.name = n := ⟨_, rfl⟩
    simp only [BkV.val] at HC ⊢
    rw [hxn] at HC ⊢
    clear hxn
    go_enter Tryz.func8, Tryz.ntmps8
    go_wp2_with fail
    refine (HC.out _ (by go_grown)).mono ?_
    rintro e w1 ⟨rfl, b1⟩
    have HB1 := hidOf (below_boxed b1)
    clear b1
    go_wp2_with fail
    go_ret
    exact ⟨none, 0, rfl, ⟨⟨rfl, .inl rfl⟩, .inl rfl⟩, HB1.out⟩
end Go.Proofs.YtchemhjcknkbgaaGreatDoor
