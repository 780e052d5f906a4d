/- The model's StoryGet. -/
import Derived.Test.YtjmgfpldjccilaaGreatDoorReadI
import Derived.Test.YtjmgfpldjccilaaGreatDoorEvGetM
import Derived.Deep.AppendLies
namespace Go.Proofs.YtjmgfpldjccilaaGreatDoor
open Go Go.RowKit Go.PlainAid Go.Deep
set_option linter.unusedSimpArgs false
set_option linter.unusedVariables false

theorem linesT_cons (x : List UInt8) (l : List (List UInt8)) : linesT (x :: l) = x ++ 10 :: linesT l := by simp [linesT]
theorem linesT_app (l r : List (List UInt8)) : linesT (l ++ r) = linesT l ++ linesT r := by simp [linesT]
/-- all lines of a text -/
theorem pieces : ∀ (k : Nat) (x : List UInt8), x.length ≤ k → linesT (Lib.splitK [10] 0 k x) = x ++ [10] ∧ ∀ p ∈ Lib.splitK [10] 0 k x, NoB 10 p
  | 0, x, h => by
    have : x = [] := List.length_eq_zero_iff.1 (by omega)
    subst this
    exact ⟨rfl, fun p hp => by
      have hp' : p ∈ [([] : List UInt8)] := hp
      rw [List.mem_singleton.1 hp']; simp [NoB]⟩
  | k + 1, x, h => by
    rcases line_or x with hx | ⟨a, b, ha, rfl⟩
    · rw [splitK_no 10 _ x hx]
      exact ⟨by simp [linesT], fun p hp => by rw [List.mem_singleton.1 hp]; exact hx⟩
    · rw [splitK_at 10 k a b ha]
      have hb : b.length ≤ k := by rw [List.length_append, List.length_cons] at h; omega
      obtain ⟨h1, h2⟩ := pieces k b hb
      refine ⟨by rw [linesT_cons, h1]; simp, fun p hp => ?_⟩
      rcases List.mem_cons.1 hp with rfl | hp
      · exact ha
      · exact h2 p hp
theorem storyT_end {f : List Ev} (h : f ≠ []) : ∃ r, storyT f = r ++ [10] := by
  obtain ⟨g, y, rfl⟩ : ∃ g y, f = g ++ [y] := ⟨f.dropLast, f.getLast h, (List.dropLast_concat_getLast h).symm⟩
  exact ⟨storyT g ++ evT y, by rw [storyT_app, storyT_one]; simp⟩
theorem infoEvS : (Tryz.prog.info? 26).map (fun i => (i.zero, i.size, i.bytes)) = some (some (.agg #[.int .i64 0, .int .i64 0, .int .i64 0, .slice none 0 0]), 4, 48) := by kernel_rfl
theorem own_made_ev (w : World) : OwnEv w.heap.size (w.alloc (.cells #[] 26)).heap.size (w.alloc (.cells #[] 26)) (.slice (some ⟨w.heap.size, 0, none⟩) 0 0) [] [] := by
  refine ⟨rfl, World.ownsRow_made w #[] 0 (Nat.le_refl _) (Nat.zero_le _) rfl, fun q hq => ?_, Nat.le_refl _, fun i h => by simp at h⟩
  have : w.heap.size = q := by simpa [Value.ownBlock] using hq
  simp; omega
theorem OwnS.strs {B : Nat} {w : World} {a : Option Addr} {n c : Nat} {l : List ByteArray} (h : OwnS B w (.slice a n c) l) : IsStrs w.heap.size w a n l := by
  obtain ⟨a', c', e, _, hz, _⟩ := h.form
  cases e
  exact hz

set_option maxHeartbeats 6400000 in
set_option maxRecDepth 100000 in
theorem specStoryGet_any (s : ByteArray) (w : World) (hs : s.size ≤ 1048576) :
    Calls Tryz.prog 19 #[.string s] w (StGot s w) := by
  have HOM := hidOf (own_made_ev w)
  obtain ⟨W0, hW0⟩ : ∃ W0, w.alloc (.cells #[] 26) = W0 := ⟨_, rfl⟩
  have hb0 : Below w.heap.size w W0 := by rw [← hW0]; exact (Below.refl _ _).alloc (Nat.le_refl _) _
  rw [hW0] at HOM
  have HB0 := hidOf hb0
  have HW0 := hidOf hW0
  clear hb0 hW0
  by_cases he : s = ⟨#[]⟩
  · subst he
    have HG : Hid (GotS ⟨#[]⟩ [] true) := .inl ⟨rfl, ⟨by decide, fun x hx => by simp at hx⟩, rfl⟩
    go_enter Tryz.func19, Tryz.ntmps19
    go_wp2_with fail
    rw [HW0.out]
    go_ret2
    exact ⟨some ⟨w.heap.size, 0, none⟩, 0, [], true, [], rfl, HG.out, HOM.out, HB0.out⟩
  have hemp2 : s.toList.isEmpty = false := by
    rw [Lib.toList_data]
    cases h : s.data.toList with
    | nil => exact absurd (by rw [← bt8_of s, h]; rfl) he
    | cons _ _ => rfl
  have hne : s.data.toList ≠ [] := fun h => he (by rw [← bt8_of s, h]; rfl)
  have hsl : s.data.toList.length = s.size := (Lib.size_eq s).symm
  obtain ⟨x, y, hxy⟩ : ∃ x y, s.data.toList = x ++ [y] := ⟨_, _, (List.dropLast_concat_getLast hne).symm⟩
  obtain ⟨N, hN⟩ : ∃ N, x.length = N := ⟨_, rfl⟩
  have hsz : s.size = N + 1 := by rw [← hsl, hxy, List.length_append, hN]; rfl
  have hNs : N < s.size := by omega
  have hNsI : (N : Int) < s.size := by omega
  have hNle : (N : Int) ≤ s.size := by omega
  have pw : IntKind.i64.wrap ((s.size : Int) - 1) = (N : Int) := by rw [hsz, IntWalk.i64_in _ ⟨by omega, by omega⟩]; omega
  have hb := get_bt s
  have hbN : bt s N = (y.toNat : Int) := by
    rw [bt_byte s N hNs (by omega)]
    congr 2
    have : s.data.toList[N]'(by omega) = (x ++ [y])[N]'(by simp; omega) := by simp only [hxy]
    rw [this, List.getElem_append_right (by omega)]
    simp [hN]
  have HXY := hidOf hxy
  have HSZ := hidOf hsz
  by_cases hy : y = 10
  case neg =>
    have HG : Hid (GotS s [] false) := .inr ⟨rfl, rfl, fun f hf e => by
      have hxy := HXY.out
      rw [e, bt8_list] at hxy
      cases f with
      | nil => rw [storyT_nil] at hxy; simp at hxy
      | cons z f =>
        obtain ⟨r, hr⟩ := storyT_end (f := z :: f) (by simp)
        rw [hr] at hxy
        have := (List.append_inj' hxy rfl).2
        simp at this
        exact hy this.symm⟩
    have hy10 : bt s N ≠ 10 := by
      rw [hbN]
      intro e
      exact hy (UInt8.toNat_inj.1 (by show y.toNat = 10; omega))
    have hy10b : (bt s N == 10) = false := by simp [hy10]
    clear hxy hsz hsl hbN hne
    go_enter Tryz.func19, Tryz.ntmps19
    go_wp2_with fail
    rw [HW0.out]
    go_ret2
    exact ⟨none, 0, [], false, [], rfl, HG.out, (OwnR.nil _ _ _ _ _ _ HB0.out.size).mono (Nat.le_refl _) HB0.out.size (Nat.le_refl _), HB0.out⟩
  subst hy
  have hy10 : bt s N = 10 := hbN
  have hT : (s.extract 0 N).data.toList = x := by
    rw [Lib.extract_data, hxy]
    simp [← hN]
  have hTs : (s.extract 0 N).size ≤ 1048576 := by rw [← bt8_of (s.extract 0 N), bt8_size, hT]; omega
  obtain ⟨ps, hps⟩ : ∃ ps, Lib.splitK [10] 0 s.size x = ps := ⟨_, rfl⟩
  obtain ⟨hp1, hp2⟩ := pieces s.size x (by omega)
  rw [hps] at hp1 hp2
  have HPS : Hid (s = bt8 (linesT ps)) := by show s = _; rw [hp1, ← hxy, bt8_of]
  have HP2 := hidOf hp2
  have hplen : ∀ p ∈ ps, p.length ≤ 1048576 := by
    intro p hp
    obtain ⟨l1, l2, rfl⟩ := List.append_of_mem hp
    have := congrArg List.length hp1
    rw [linesT_app, linesT_cons] at this
    simp at this
    omega
  have HPL := hidOf hplen
  have HCUT : Hid (Calls Tryz.prog 41 #[.string (s.extract 0 N), .int .u8 10, .int .i64 (s.size : Int)] W0 fun e w' => ∃ u, e = .returned u ∧ OwnS W0.heap.size w' u (ps.map bt8) ∧ Below W0.heap.size W0 w') := by
    have h := l1Cut_any (s.extract 0 N) 10 s.size W0 hTs hs
    have e : cutS 10 s.size (s.extract 0 N) = ps.map bt8 := by unfold cutS; rw [hT, hps]
    rw [e] at h
    exact h
  obtain ⟨i0, hi, hz0, hz1, hz2⟩ := info_parts infoEvS
  clear hxy hsz hsl hbN hne hT hTs hps hp1 hp2 hplen
  go_enter Tryz.func19, Tryz.ntmps19
  go_wp2_with fail
  rw [HW0.out]
  refine HCUT.out.mono ?_
  rintro e w1 ⟨u, rfl, ho1, hb1⟩
  obtain ⟨a1, c1, rfl, hc1, hz1', _⟩ := ho1.form
  obtain ⟨n, hn⟩ : ∃ n, (ps.map bt8).length = n := ⟨_, rfl⟩
  have hpn : ps.length = n := by rw [← hn, List.length_map]
  rw [hn] at hz1' ⊢
  have HS1 := hidOf ho1
  have HB1 := hidOf (HB0.out.trans (hb1.mono HB0.out.size))
  have HO1 : Hid (OwnEv w.heap.size w1.heap.size w1 (.slice (some ⟨w.heap.size, 0, none⟩) 0 0) [] []) := (HOM.out.stays PEv.loc (Stay.of hb1) hb1.size).mono (Nat.le_refl _) hb1.size (Nat.le_refl _)
  rw [hn] at HS1
  clear ho1 hz1' hb1 hn
  go_wp2_with fail
  go_loopw [4, 6] (fun v i wr => ∃ (k : Nat) (D : List Ev) (cs : List (List Value)), k ≤ n ∧ k ≤ 80 ∧ i = .int .i64 k ∧ D.length = k ∧ Hid ((∀ x ∈ D, OkE x) ∧ D.map evT = ps.take k) ∧ Hid (OwnEv w.heap.size wr.heap.size wr v D cs) ∧ Hid (OwnS W0.heap.size wr (.slice a1 n c1) (ps.map bt8)) ∧ Below w.heap.size w wr) (fun _ i _ => n - (intOf i).toNat)
  case atStart => exact ⟨0, [], [], Nat.zero_le _, Nat.zero_le _, rfl, rfl, ⟨fun x hx => by simp at hx, rfl⟩, HO1.out, HS1.out, HB1.out⟩
  case round =>
    obtain ⟨k, D, cs, hk, hk80, rfl, hDk, HD, HO, HS, hbel⟩ := hrel
    have hws := hbel.size
    obtain ⟨ao, co, hu⟩ := HO.out.form
    rw [hDk] at hu
    subst hu
    by_cases hlt : k < n
    · obtain ⟨b, off, rfl, hb', hc⟩ := (HS.out.strs).2.resolve_left (by omega)
      have c0 := hc k (by simp; omega)
      have hmem : ps[k]'(by omega) ∈ ps := List.getElem_mem _
      have htk : ps.take (k + 1) = ps.take k ++ [ps[k]'(by omega)] := List.take_succ_eq_append_getElem (by omega)
      have hsp : ps = ps.take k ++ (ps[k]'(by omega) :: ps.drop (k + 1)) := by rw [List.getElem_cons_drop]; exact (List.take_append_drop k ps).symm
      obtain ⟨L, hL⟩ : ∃ L, ps[k]'(by omega) = L := ⟨_, rfl⟩
      rw [List.getElem_map, hL] at c0
      rw [hL] at hmem htk hsp
      have HNO := hidOf (HP2.out L hmem)
      have hLl := HPL.out L hmem
      have HTK := hidOf htk
      have HSP : Hid (s = bt8 (storyT D ++ (L ++ 10 :: linesT (ps.drop (k + 1))))) := by
        show s = _
        have e := congrArg linesT hsp
        rw [linesT_app, linesT_cons, ← HD.out.2] at e
        rw [HPS.out, e]; rfl
      have HG := hidOf (specEventGet_any (bt8 L) wr (by rw [bt8_size]; exact hLl))
      obtain ⟨sL, hsL⟩ : ∃ sL, bt8 L = sL := ⟨_, rfl⟩
      rw [hsL] at c0 HG
      have HSL := hidOf hsL
      clear hc hmem htk hsp hL hsL hLl
      go_wp2_with fail
      refine HG.out.mono ?_
      rintro e w2 ⟨kk, t, m, a2, n2, c2, l, bb, rfl, hf2, hc2, hg2, hb2⟩
      have hs2 := hb2.size
      have HB2 := hidOf (hbel.trans (hb2.mono hws))
      have HB12 := hidOf hb2
      have HF2 := hidOf hf2
      have HG2 := hidOf hg2
      clear hf2 hg2 hb2 c0
      cases bb with
      | false =>
        have HGN : Hid (GotS s [] false) := .inr ⟨rfl, rfl, by
          rw [HSP.out]
          refine no_line HD.out.1 HNO.out ?_
          rcases HG2.out with ⟨h, _⟩ | ⟨_, _, h⟩
          · exact absurd h (by decide)
          · rw [HSL.out]; exact h⟩
        have hba : Below w.heap.size w (w2.alloc (.cells #[.int .i64 kk, .int .i64 t, .int .i64 m, .slice a2 n2 c2] 26)) := HB2.out.alloc HB2.out.size _
        have HBA := hidOf hba
        clear hba
        go_wp2_with fail
        go_ret2
        exact ⟨none, 0, [], false, [], rfl, HGN.out, (OwnR.nil _ _ _ _ _ _ HBA.out.size).mono (Nat.le_refl _) HBA.out.size (Nat.le_refl _), HBA.out⟩
      | true =>
        by_cases h80 : k = 80
        · have HGN : Hid (GotS s [] false) := .inr ⟨rfl, rfl, by
            rw [HSP.out]
            exact no_more HD.out.1 (by omega) HNO.out⟩
          have h80' : (80 : Int) ≤ k := by omega
          have hba : Below w.heap.size w (w2.alloc (.cells #[.int .i64 kk, .int .i64 t, .int .i64 m, .slice a2 n2 c2] 26)) := HB2.out.alloc HB2.out.size _
          have HBA := hidOf hba
          clear hba h80
          go_wp2_with fail
          go_ret2
          exact ⟨none, 0, [], false, [], rfl, HGN.out, (OwnR.nil _ _ _ _ _ _ HBA.out.size).mono (Nat.le_refl _) HBA.out.size (Nat.le_refl _), HBA.out⟩
        · have h80' : ¬ (80 : Int) ≤ k := by omega
          have HGE := hidOf (show OkE (kk, t, m, l) ∧ sL = bt8 (evT (kk, t, m, l)) from by
            rcases HG2.out with ⟨_, h1, h2⟩ | ⟨h, _⟩
            · exact ⟨h1, h2⟩
            · exact absurd h (by decide))
          have hln : l.length = n2 := HF2.out.1.1
          subst hln
          have hbb : Below wr.heap.size wr ((w2.alloc (.cells #[.int .i64 kk, .int .i64 t, .int .i64 m, .slice a2 l.length c2] 26)).alloc (.cells #[.int .i64 kk, .int .i64 t, .int .i64 m, .slice a2 l.length c2] 26)) := (HB12.out.alloc HB12.out.size _).alloc (by simp; omega) _
          have HBB := hidOf hbb
          have HROW : Hid (((w2.alloc (.cells #[.int .i64 kk, .int .i64 t, .int .i64 m, .slice a2 l.length c2] 26)).alloc (.cells #[.int .i64 kk, .int .i64 t, .int .i64 m, .slice a2 l.length c2] 26)).ownsRow w.heap.size 26 4 (.slice ao k co) k cs.flatten) := by
            have h := HO.out.row
            rw [hDk] at h
            exact own_of_block h (fun q hq => hbb.block q (World.ownsRow.lt h q hq).2)
          clear hbb
          go_wp2_with (at_builtin; go_loud (refine wpList_append_lies _ rfl (.tmp 47) (.tmp 49) 32 rfl w.heap.size 26 i0 (.agg #[.int .i64 0, .int .i64 0, .int .i64 0, .slice none 0 0]) 4 48 Tryz.underlying32 hi hz0 hz1 hz2 rfl (by decide) _ k cs.flatten rfl HROW.out _ 1 1 [.int .i64 kk, .int .i64 t, .int .i64 m, .slice a2 l.length c2] rfl rfl ?hnews (by intro u hu; simp at hu; rcases hu with rfl | rfl | rfl | rfl <;> rfl) (by decide) (by unfold maxLen; omega) (by omega) (by simp; omega) _ rfl ?_))
          case hnews =>
            intro j u hu
            match j, hu with
            | 0, hu => cases hu; simp [Addr.add, go_sem]
            | 1, hu => cases hu; simp [Addr.add, go_sem]
            | 2, hu => cases hu; simp [Addr.add, go_sem]
            | 3, hu => cases hu; simp [Addr.add, go_sem]
          intro g cap w4 k1 k2 k3 _
          have hrb : ∀ q, (Value.slice ao k co).ownBlock = some q → q < wr.heap.size := HO.out.rowB
          have hg : wr.grownBy w4 (Value.slice ao k co).ownBlock := by
            have h := HBB.out
            exact ⟨k2.os.trans h.os, k2.tape.trans h.tape, k2.output.trans h.output, Nat.le_trans h.size k2.size, fun q hq hne => (k2.block q (Nat.lt_of_lt_of_le hq h.size) hne).trans (h.block q hq)⟩
          have hs4 := hg.size
          have hs5 := k2.size
          simp at hs5
          have HFR : FreeR wr.heap.size w2.heap.size w2 a2 l := FreeR.of HF2.out
          have HFR4 : FreeR wr.heap.size w2.heap.size w4 a2 l := HFR.stays (fun q q1 q2 => (k2.block q (by simp; omega) (fun e => by have := hrb q e.symm; omega)).trans ((((Below.refl _ w2).alloc (Nat.le_refl _) _).alloc (by simp) _).block q q2)) (by omega)
          have hl3 : l.length ≤ maxLen := by
            rcases HGE.out.1.push with h | h
            · simp only at h; rw [h]; decide
            · have := h.2.1; simp only at this; unfold maxLen; omega
          subst hDk
          have hpush := OwnR.push (c := [.int .i64 kk, .int .i64 t, .int .i64 m, .slice a2 l.length c2]) (x := ((kk, t, m, l) : Ev)) PEv.loc HO.out hg (g := g) (cap := cap) (Mi := wr.heap.size) (Bi := w2.heap.size) (k3.imp id (fun e => by first | (constructor <;> omega) | (simp at e; constructor <;> omega))) (Nat.le_refl _) hws (by omega) ⟨a2, c2, rfl, hc2, hl3, HFR4⟩ rfl k1
          obtain ⟨cs', hcs'⟩ : ∃ cs', cs ++ [[.int .i64 kk, .int .i64 t, .int .i64 m, .slice a2 l.length c2]] = cs' := ⟨_, rfl⟩
          rw [hcs'] at hpush
          have HPU := hidOf hpush
          clear hcs'
          have HS4 : Hid (OwnS W0.heap.size w4 (.slice (some ⟨b, off, none⟩) n c1) (ps.map bt8)) := by
            refine own_of_block HS.out (fun q hq => hg.block q (World.ownsRow.lt HS.out q hq).2 (fun e => ?_))
            rcases own_apart HS.out HO.out.row (by decide) with h | h
            · rw [h] at hq; cases hq
            · exact h (by rw [hq]; exact e)
          have HB4 : Hid (Below w.heap.size w w4) := hbel.grown hg hws (fun q hq => (World.ownsRow.lt HO.out.row q hq).1)
          have HD4 : Hid ((∀ x ∈ D ++ [((kk, t, m, l) : Ev)], OkE x) ∧ (D ++ [((kk, t, m, l) : Ev)]).map evT = ps.take (D.length + 1)) := by
            refine ⟨fun z hz => ?_, ?_⟩
            · rcases List.mem_append.1 hz with hz | hz
              · exact HD.out.1 z hz
              · rw [List.mem_singleton.1 hz]; exact HGE.out.1
            · rw [HTK.out, List.map_append, HD.out.2]
              have : L = evT (kk, t, m, l) := bt8_inj (by rw [HSL.out]; exact HGE.out.2)
              rw [this]; rfl
          clear k1 k2 k3 hg hs4 hs5 HFR HFR4 hpush
          go_wp2_with fail
          go_roundw
          case rel => exact ⟨D.length + 1, D ++ [(kk, t, m, l)], cs', by omega, by omega, by go_num, by simp, HD4.out, HPU.out, HS4.out, HB4.out⟩
          case measure => simp [intOf]; omega
    · have : k = n := by omega
      subst this
      have HG : Hid (GotS s D true) := by
        refine .inl ⟨rfl, ⟨by omega, HD.out.1⟩, ?_⟩
        have h := HD.out.2
        rw [List.take_of_length_le (by omega)] at h
        rw [HPS.out, ← h]; rfl
      go_wp2_with fail
      go_ret2
      refine ⟨ao, co, D, true, cs, by rw [hDk]; rfl, HG.out, ?_, hbel⟩
      rw [hDk]; exact HO.out
end Go.Proofs.YtjmgfpldjccilaaGreatDoor
