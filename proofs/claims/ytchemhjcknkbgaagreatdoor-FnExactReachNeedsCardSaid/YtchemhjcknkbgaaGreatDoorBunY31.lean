/- The model's walks over names of a block, on: l3Ports, l3Vars, l3States, l3All. -/
import Derived.Test.YtchemhjcknkbgaaGreatDoorBunY29
import Derived.Test.YtchemhjcknkbgaaGreatDoorBunY27
import Derived.Test.YtchemhjcknkbgaaGreatDoorBunY23
import Derived.OpenShut
namespace Go.Proofs.YtchemhjcknkbgaaGreatDoor
open Go Go.RowKit Go.PlainAid
set_option linter.unusedSimpArgs false
set_option linter.unusedVariables false

set_option maxHeartbeats 1600000 in
set_option maxRecDepth 100000 in
theorem l3Ports_any (B : Nat) (a : Option Addr) (n c : Nat) (l : List Pt) (w : World) (hB : B ≤ w.heap.size) (hn : n ≤ 1048576) (hz : IsArr 2 QPt B w a n l) :
    Calls Tryz.prog 155 #[.slice a n c] w fun e w' => ∃ v, e = .returned v ∧ OwnS w.heap.size w' v (l.map Pt.name) ∧ Below w.heap.size w w' := by
  obtain ⟨i0, hi, hz0, hz1, hz2⟩ := info_parts infoStr'
  have hlen := hz.1
  have HZ := hidOf hz
  clear hz
  go_enter Tryz.func155, Tryz.ntmps155
  go_wp2_with fail
  go_loopw [3, 4] (fun u i wr => ∃ k : Nat, k ≤ n ∧ i = .int .i64 k ∧ Hid (OwnS w.heap.size wr u ((l.take k).map Pt.name)) ∧ Below w.heap.size w wr) (fun _ i _ => n - (intOf i).toNat)
  case atStart => exact ⟨0, Nat.zero_le _, rfl, World.ownsRow_made w #[] 0 (Nat.le_refl _) (Nat.zero_le _) rfl, (Below.refl _ _).alloc (Nat.le_refl _) _⟩
  case round =>
    obtain ⟨k, hk, rfl, HK, hbel⟩ := hrel
    by_cases hlt : k < n
    · obtain ⟨b, off, cs, rfl, hb, hq, hcell⟩ := IsArr.at (HZ.out.below (QPt.lift (hbel.mono hB)) (hbel.mono hB)) hlt (show k < l.length by omega)
      have hws := hbel.size
      have hbr : b < wr.heap.size := by omega
      have ht : (l.take (k + 1)).map Pt.name = (l.take k).map Pt.name ++ [(l[k]'(by omega)).name] := by rw [List.take_succ_eq_append_getElem (by omega), List.map_append]; rfl
      have hml : ((l.take k).map Pt.name).length = k := by simp; omega
      obtain ⟨x, hx⟩ : ∃ x, l[k]'(by omega) = x := ⟨_, rfl⟩
      rw [hx] at hq ht
      obtain ⟨pa, pn, pc, rfl, hp1, hp2, hp3⟩ := hq
      have c0 : wr.cell? ⟨b, off + k * 2, none⟩ = some (.string x.name) := hcell 0 _ rfl
      have HT := hidOf ht
      have how := HK.out
      unfold OwnS at how
      rw [hml] at how
      have HOW := hidOf how
      clear how

      clear hcell hx ht
      go_wp2_with (at_builtin; (refine wpList_append_own _ rfl (.tmp 12) (.tmp 18) 28 rfl w.heap.size 9 i0 (.string ByteArray.empty) 1 16 Tryz.underlying28 hi hz0 hz1 hz2 rfl (by decide) _ k (((l.take k).map Pt.name).map Value.string) rfl (by exact (HOW.out.alloc _)) ⟨wr.heap.size, 0, none⟩ 1 1 [.string x.name] rfl rfl (by exact one_new _ _ _) (by intro u hu; simp at hu; subst hu; rfl) (by unfold maxLen; omega) (by omega) (by simp; omega) ?_))
      intro v' w1 hown' hgrow' _
      have HB1 : Hid (Below w.heap.size w w1) := (hbel.alloc hws _).grown hgrow' (by simp; omega) (fun q hq => (World.ownsRow.lt HOW.out q hq).1)
      have HO1 : Hid (OwnS w.heap.size w1 v' ((l.take k).map Pt.name ++ [x.name])) := by
        show World.ownsRow _ _ _ _ _ _ _
        rw [List.length_append, hml, List.map_append]
        have e : List.take k (List.map (Value.string ∘ Pt.name) l) = ((l.take k).map Pt.name).map Value.string := by simp [List.map_take]
        first
          | exact hown'
          | (rw [e] at hown'; exact hown')
      clear hown' hgrow'
      go_wp2_with fail
      go_roundw
      case rel => exact ⟨k + 1, by omega, by go_num, by show OwnS _ _ _ _; rw [HT.out]; exact HO1.out, HB1.out⟩
      case measure => simp [intOf]; omega
    · have : k = n := by omega
      subst this
      rw [List.take_of_length_le (by omega)] at HK

      go_wp2_with fail
      go_ret
      exact ⟨_, rfl, HK.out, hbel⟩

set_option maxHeartbeats 1600000 in
set_option maxRecDepth 100000 in
theorem l3All_any (B : Nat) (a : Option Addr) (n c : Nat) (l : List ByteArray) (most : Int) (w : World) (hB : B ≤ w.heap.size) (hn : n ≤ 1048576) (hs : ∀ y ∈ l, y.size ≤ 1048576) (hz : IsStrs B w a n l) :
    Calls Tryz.prog 112 #[.slice a n c, .int .i64 most] w fun e w' => e = .returned (.bool (decide (AreNames l ∧ (n : Int) ≤ most))) ∧ Below w.heap.size w w' := by
  have hlen := hz.1
  have HZ := hidOf hz
  have HS := hidOf hs
  have HTW := hidOf (l3Twice_any B a n c l w hB hn hz)
  obtain ⟨D, hD⟩ : ∃ D, decide (AreNames l ∧ (n : Int) ≤ most) = D := ⟨_, rfl⟩
  have HD := hidOf hD
  rw [hD]
  clear hz hD hs
  go_enter Tryz.func112, Tryz.ntmps112
  go_wp2_with fail
  go_loopw [5] (fun i wr => ∃ k : Nat, k ≤ n ∧ i = .int .i64 k ∧ Hid (∀ j, (h : j < l.length) → j < k → nmB l[j] = true) ∧ wr = w) (fun i _ => n - (intOf i).toNat)
  case atStart => exact ⟨0, Nat.zero_le _, rfl, fun j _ h => absurd h (Nat.not_lt_zero _), rfl⟩
  case round =>
    obtain ⟨k, hk, rfl, HK, rfl⟩ := hrel
    by_cases hlt : k < n
    · rcases HZ.out.2 with h0 | ⟨b, off, rfl, hb, hc⟩
      · omega
      have c0 := hc k (by omega)
      have hxs := HS.out (l[k]'(by omega)) (List.getElem_mem _)
      obtain ⟨x, hx⟩ : ∃ x, l[k]'(by omega) = x := ⟨_, rfl⟩
      have HX := hidOf hx
      rw [hx] at c0 hxs
      have HN := hidOf (l1Name_any x wr (by unfold maxLen; omega))
      obtain ⟨F, hF⟩ : ∃ F, nmB x = F := ⟨_, rfl⟩
      have HFF := hidOf hF
      rw [hF] at HN
      clear hc hx hF HTW
      cases F with
      | true =>
        go_wp2_with fail
        refine HN.out.mono ?_
        rintro e w' ⟨rfl, hw'⟩
        rw [hw']
        clear hw' w'
        go_wp2_with fail
        go_roundw
        case rel =>
          refine ⟨k + 1, by omega, by go_num, fun j hj hjk => ?_, by first | rfl | trivial⟩
          by_cases e : j = k
          · subst e; rw [HX.out]; exact HFF.out
          · exact HK.out j hj (by omega)
        case measure => simp [intOf]; omega
      | false =>
        have hDf : D = false := by
          rw [← HD.out]
          apply decide_eq_false
          intro hap
          have h1 := hap.1.1 x (by rw [← HX.out]; exact List.getElem_mem _)
          rw [HFF.out] at h1
          cases h1
        subst hDf
        go_wp2_with fail
        refine HN.out.mono ?_
        rintro e w' ⟨rfl, hw'⟩
        rw [hw']
        clear hw' w'
        go_wp2_with fail
        go_ret
        exact ⟨rfl, Below.refl _ _⟩
    · have hnm : ∀ x ∈ l, nmB x = true := by
        intro x hx
        obtain ⟨j, hj, rfl⟩ := List.getElem_of_mem hx
        exact HK.out j hj (by omega)
      by_cases hnd : l.Nodup
      · rw [show (!decide l.Nodup) = false by simp [hnd]] at HTW
        by_cases hmost : (n : Int) ≤ most
        · have hDt : D = true := by rw [← HD.out]; exact decide_eq_true ⟨⟨hnm, hnd⟩, hmost⟩
          subst hDt
          go_wp2_with (go_at_call 156; refine HTW.out.mono ?_; rintro e w1 ⟨rfl, hb1⟩)
          go_ret
          exact ⟨ret_bool (by simp [hmost]), hb1⟩
        · have hDf : D = false := by rw [← HD.out]; exact decide_eq_false (fun h => hmost h.2)
          subst hDf
          go_wp2_with (go_at_call 156; refine HTW.out.mono ?_; rintro e w1 ⟨rfl, hb1⟩)
          go_ret
          exact ⟨ret_bool (by simp [hmost]), hb1⟩
      · rw [show (!decide l.Nodup) = true by simp [hnd]] at HTW
        have hDf : D = false := by rw [← HD.out]; exact decide_eq_false (fun h => hnd h.1.2)
        subst hDf
        go_wp2_with (go_at_call 156; refine HTW.out.mono ?_; rintro e w1 ⟨rfl, hb1⟩)
        go_ret
        exact ⟨rfl, hb1⟩
end Go.Proofs.YtchemhjcknkbgaaGreatDoor

/- The model's l3Vars and l3States. -/
namespace Go.Proofs.YtchemhjcknkbgaaGreatDoor
open Go Go.RowKit Go.PlainAid
set_option linter.unusedSimpArgs false
set_option linter.unusedVariables false

set_option maxHeartbeats 1600000 in
set_option maxRecDepth 100000 in
theorem l3Vars_any (B : Nat) (v : BkV) (x : Bk) (w : World) (hB : B ≤ w.heap.size) (hn : v.nv ≤ 1048576) (hx : IsBk B w v x) :
    Calls Tryz.prog 69 #[v.val x.name] w fun e w' => ∃ u, e = .returned u ∧ OwnS w.heap.size w' u (x.vars.map Vr.name) ∧ Below w.heap.size w w' := by
  obtain ⟨i0, hi, hz0, hz1, hz2⟩ := info_parts infoStr'
  obtain ⟨ai, ni, ci, ao, no, co, av, nv, cv, at_, nt, ct⟩ := v
  obtain ⟨xn, xi, xo, xv, xs⟩ := x
  obtain ⟨hins, houts, hvars, hstates, _⟩ := hx
  simp only at hn hins houts hvars hstates ⊢
  have hlen := hvars.1
  obtain ⟨l, hl⟩ : ∃ l, xv = l := ⟨_, rfl⟩
  rw [hl] at hvars hlen ⊢
  show Calls Tryz.prog 69 #[.agg #[.string xn, .slice ai ni ci, .slice ao no co, .slice av nv cv, .slice at_ nt ct]] w _
  obtain ⟨W0, hW0⟩ : ∃ W0, W0 = w.alloc (.cells #[.string xn, .slice ai ni ci, .slice ao no co, .slice av nv cv, .slice at_ nt ct] 34) := ⟨_, rfl⟩
  have hb0 : Below w.heap.size w W0 := by rw [hW0]; exact (Below.refl _ _).alloc (Nat.le_refl _) _
  have HB0 := hidOf hb0
  have HZ : Hid (IsArr 2 QVr B W0 av nv l) := hvars.below (QVr.lift (hb0.mono hB)) (hb0.mono hB)
  have HS0 : Hid (W0.heap.size = w.heap.size + 1) := by
    show _ = _
    rw [hW0]; simp
  have hs0 : w.heap.size < W0.heap.size := by have := HS0.out; omega
  have q0 : W0.cell? ⟨w.heap.size, 3, none⟩ = some (.slice av nv cv) := by rw [hW0]; simp [go_sem]
  have hBW : B ≤ W0.heap.size := by omega
  have HW0 := hidOf hW0
  clear hins houts hvars hstates hb0 hl hW0
  go_enter Tryz.func69, Tryz.ntmps69
  go_wp2_with fail
  rw [← HW0.out]
  go_loopw [3, 4] (fun u i wr => ∃ k : Nat, k ≤ nv ∧ i = .int .i64 k ∧ Hid (OwnS W0.heap.size wr u ((l.take k).map Vr.name)) ∧ Below W0.heap.size W0 wr) (fun _ i _ => nv - (intOf i).toNat)
  case atStart => exact ⟨0, Nat.zero_le _, rfl, by show OwnS _ _ _ _; rw [← HS0.out]; exact World.ownsRow_made W0 #[] 0 (Nat.le_refl _) (Nat.zero_le _) rfl, (Below.refl _ _).alloc (Nat.le_refl _) _⟩
  case round =>
    obtain ⟨k, hk, rfl, HK, hbel⟩ := hrel
    have p0 := (hbel.cell (p := ⟨w.heap.size, 3, none⟩) (by simp; omega)).trans q0
    have hsz0 : w.heap.size < wr.heap.size := by have := hbel.size; omega
    by_cases hlt : k < nv
    · obtain ⟨b, off, cs, ha, hb, hq, hcell⟩ := IsArr.at (HZ.out.below (QVr.lift (hbel.mono hBW)) (hbel.mono hBW)) hlt (show k < l.length by omega)
      subst ha
      have hws := hbel.size
      have hbr : b < wr.heap.size := by omega
      have ht : (l.take (k + 1)).map Vr.name = (l.take k).map Vr.name ++ [(l[k]'(by omega)).name] := by rw [List.take_succ_eq_append_getElem (by omega), List.map_append]; rfl
      have hml : ((l.take k).map Vr.name).length = k := by simp; omega
      obtain ⟨x, hx⟩ : ∃ x, l[k]'(by omega) = x := ⟨_, rfl⟩
      rw [hx] at hq ht
      unfold QVr at hq
      subst hq
      have c0 : wr.cell? ⟨b, off + k * 2, none⟩ = some (.string x.name) := hcell 0 _ rfl
      have HT := hidOf ht
      have how := HK.out
      unfold OwnS at how
      rw [hml] at how
      have HOW := hidOf how
      clear how
      clear hcell hx ht
      go_wp2_with (at_builtin; (refine wpList_append_own _ rfl (.tmp 13) (.tmp 20) 28 rfl W0.heap.size 9 i0 (.string ByteArray.empty) 1 16 Tryz.underlying28 hi hz0 hz1 hz2 rfl (by decide) _ k (((l.take k).map Vr.name).map Value.string) rfl (by exact (HOW.out.alloc _)) ⟨wr.heap.size, 0, none⟩ 1 1 [.string x.name] rfl rfl (by exact one_new _ _ _) (by intro u hu; simp at hu; subst hu; rfl) (by unfold maxLen; omega) (by omega) (by simp; omega) ?_))
      intro v' w1 hown' hgrow' _
      have HB1 : Hid (Below W0.heap.size W0 w1) := (hbel.alloc hws _).grown hgrow' (by simp; omega) (fun q hq => (World.ownsRow.lt HOW.out q hq).1)
      have HO1 : Hid (OwnS W0.heap.size w1 v' ((l.take k).map Vr.name ++ [x.name])) := by
        show World.ownsRow _ _ _ _ _ _ _
        rw [List.length_append, hml, List.map_append]
        have e : List.take k (List.map (Value.string ∘ Vr.name) l) = ((l.take k).map Vr.name).map Value.string := by simp [List.map_take]
        first
          | exact hown'
          | (rw [e] at hown'; exact hown')
      clear hown' hgrow'
      go_wp2_with fail
      go_roundw
      case rel => exact ⟨k + 1, by omega, by go_num, by show OwnS _ _ _ _; rw [HT.out]; exact HO1.out, HB1.out⟩
      case measure => simp [intOf]; omega
    · have : k = nv := by omega
      subst this
      rw [List.take_of_length_le (by omega)] at HK
      go_wp2_with fail
      go_ret
      exact ⟨_, rfl, ownsRow_mono HK.out (by omega), HB0.out.trans (hbel.mono (by omega))⟩

set_option maxHeartbeats 1600000 in
set_option maxRecDepth 100000 in
theorem l3States_any (B : Nat) (v : BkV) (x : Bk) (w : World) (hB : B ≤ w.heap.size) (hn : v.nt ≤ 1048576) (hx : IsBk B w v x) :
    Calls Tryz.prog 97 #[v.val x.name] w fun e w' => ∃ u, e = .returned u ∧ OwnS w.heap.size w' u (x.states.map St.name) ∧ Below w.heap.size w w' := by
  obtain ⟨i0, hi, hz0, hz1, hz2⟩ := info_parts infoStr'
  obtain ⟨ai, ni, ci, ao, no, co, av, nv, cv, at_, nt, ct⟩ := v
  obtain ⟨xn, xi, xo, xv, xs⟩ := x
  obtain ⟨hins, houts, hvars, hstates, _⟩ := hx
  simp only at hn hins houts hvars hstates ⊢
  have hlen := hstates.1
  obtain ⟨l, hl⟩ : ∃ l, xs = l := ⟨_, rfl⟩
  rw [hl] at hstates hlen ⊢
  show Calls Tryz.prog 97 #[.agg #[.string xn, .slice ai ni ci, .slice ao no co, .slice av nv cv, .slice at_ nt ct]] w _
  obtain ⟨W0, hW0⟩ : ∃ W0, W0 = w.alloc (.cells #[.string xn, .slice ai ni ci, .slice ao no co, .slice av nv cv, .slice at_ nt ct] 34) := ⟨_, rfl⟩
  have hb0 : Below w.heap.size w W0 := by rw [hW0]; exact (Below.refl _ _).alloc (Nat.le_refl _) _
  have HB0 := hidOf hb0
  have HZ : Hid (IsArr 3 QSt B W0 at_ nt l) := hstates.below (QSt.lift (hb0.mono hB)) (hb0.mono hB)
  have HS0 : Hid (W0.heap.size = w.heap.size + 1) := by
    show _ = _
    rw [hW0]; simp
  have hs0 : w.heap.size < W0.heap.size := by have := HS0.out; omega
  have q0 : W0.cell? ⟨w.heap.size, 4, none⟩ = some (.slice at_ nt ct) := by rw [hW0]; simp [go_sem]
  have hBW : B ≤ W0.heap.size := by omega
  have HW0 := hidOf hW0
  clear hins houts hvars hstates hb0 hl hW0
  go_enter Tryz.func97, Tryz.ntmps97
  go_wp2_with fail
  rw [← HW0.out]
  go_loopw [3, 4] (fun u i wr => ∃ k : Nat, k ≤ nt ∧ i = .int .i64 k ∧ Hid (OwnS W0.heap.size wr u ((l.take k).map St.name)) ∧ Below W0.heap.size W0 wr) (fun _ i _ => nt - (intOf i).toNat)
  case atStart => exact ⟨0, Nat.zero_le _, rfl, by show OwnS _ _ _ _; rw [← HS0.out]; exact World.ownsRow_made W0 #[] 0 (Nat.le_refl _) (Nat.zero_le _) rfl, (Below.refl _ _).alloc (Nat.le_refl _) _⟩
  case round =>
    obtain ⟨k, hk, rfl, HK, hbel⟩ := hrel
    have p0 := (hbel.cell (p := ⟨w.heap.size, 4, none⟩) (by simp; omega)).trans q0
    have hsz0 : w.heap.size < wr.heap.size := by have := hbel.size; omega
    by_cases hlt : k < nt
    · obtain ⟨b, off, cs, ha, hb, hq, hcell⟩ := IsArr.at (HZ.out.below (QSt.lift (hbel.mono hBW)) (hbel.mono hBW)) hlt (show k < l.length by omega)
      subst ha
      have hws := hbel.size
      have hbr : b < wr.heap.size := by omega
      have ht : (l.take (k + 1)).map St.name = (l.take k).map St.name ++ [(l[k]'(by omega)).name] := by rw [List.take_succ_eq_append_getElem (by omega), List.map_append]; rfl
      have hml : ((l.take k).map St.name).length = k := by simp; omega
      obtain ⟨x, hx⟩ : ∃ x, l[k]'(by omega) = x := ⟨_, rfl⟩
      rw [hx] at hq ht
      obtain ⟨pa, pn, pc, pa', pn', pc', rfl, hp1, hp2, hp3, hp4, hp5, hp6⟩ := hq
      have c0 : wr.cell? ⟨b, off + k * 3, none⟩ = some (.string x.name) := hcell 0 _ rfl
      have HT := hidOf ht
      have how := HK.out
      unfold OwnS at how
      rw [hml] at how
      have HOW := hidOf how
      clear how
      clear hcell hx ht
      go_wp2_with (at_builtin; (refine wpList_append_own _ rfl (.tmp 13) (.tmp 20) 28 rfl W0.heap.size 9 i0 (.string ByteArray.empty) 1 16 Tryz.underlying28 hi hz0 hz1 hz2 rfl (by decide) _ k (((l.take k).map St.name).map Value.string) rfl (by exact (HOW.out.alloc _)) ⟨wr.heap.size, 0, none⟩ 1 1 [.string x.name] rfl rfl (by exact one_new _ _ _) (by intro u hu; simp at hu; subst hu; rfl) (by unfold maxLen; omega) (by omega) (by simp; omega) ?_))
      intro v' w1 hown' hgrow' _
      have HB1 : Hid (Below W0.heap.size W0 w1) := (hbel.alloc hws _).grown hgrow' (by simp; omega) (fun q hq => (World.ownsRow.lt HOW.out q hq).1)
      have HO1 : Hid (OwnS W0.heap.size w1 v' ((l.take k).map St.name ++ [x.name])) := by
        show World.ownsRow _ _ _ _ _ _ _
        rw [List.length_append, hml, List.map_append]
        have e : List.take k (List.map (Value.string ∘ St.name) l) = ((l.take k).map St.name).map Value.string := by simp [List.map_take]
        first
          | exact hown'
          | (rw [e] at hown'; exact hown')
      clear hown' hgrow'
      go_wp2_with fail
      go_roundw
      case rel => exact ⟨k + 1, by omega, by go_num, by show OwnS _ _ _ _; rw [HT.out]; exact HO1.out, HB1.out⟩
      case measure => simp [intOf]; omega
    · have : k = nt := by omega
      subst this
      rw [List.take_of_length_le (by omega)] at HK
      go_wp2_with fail
      go_ret
      exact ⟨_, rfl, ownsRow_mono HK.out (by omega), HB0.out.trans (hbel.mono (by omega))⟩
end Go.Proofs.YtchemhjcknkbgaaGreatDoor

/- The model's l3PortsOk. -/
namespace Go.Proofs.YtchemhjcknkbgaaGreatDoor
open Go Go.RowKit Go.PlainAid
set_option linter.unusedSimpArgs false
set_option linter.unusedVariables false

set_option maxHeartbeats 1600000 in
set_option maxRecDepth 100000 in
theorem l3PortsOk_any (B : Nat) (a : Option Addr) (n c : Nat) (l : List Pt) (w : World) (hB : B ≤ w.heap.size) (hn : n ≤ 1048576) (hw : wsum wtPt l ≤ 1048576) (hz : IsArr 2 QPt B w a n l) :
    Calls Tryz.prog 111 #[.slice a n c] w fun e w' => e = .returned (.bool (decide (PortsOk l))) ∧ Below w.heap.size w w' := by
  have hlen := hz.1
  have HZ := hidOf hz
  obtain ⟨D, hD⟩ : ∃ D, decide (PortsOk l) = D := ⟨_, rfl⟩
  have HD := hidOf hD
  rw [hD]
  clear hz hD
  go_enter Tryz.func111, Tryz.ntmps111
  go_wp2_with fail
  go_loopw [3] (fun i wr => ∃ k : Nat, k ≤ n ∧ i = .int .i64 k ∧ Hid (∀ j, (h : j < l.length) → j < k → PortOk l[j]) ∧ Below w.heap.size w wr) (fun i _ => n - (intOf i).toNat)
  case atStart => exact ⟨0, Nat.zero_le _, rfl, fun j _ h => absurd h (Nat.not_lt_zero _), Below.refl _ _⟩
  case round =>
    obtain ⟨k, hk, rfl, HK, hbel⟩ := hrel
    have hws := hbel.size
    by_cases hlt : k < n
    · obtain ⟨b, off, cs, rfl, hb, hq, hcell⟩ := IsArr.at (HZ.out.below (QPt.lift (hbel.mono hB)) (hbel.mono hB)) hlt (show k < l.length by omega)
      have hbr : b < wr.heap.size := by omega
      have hsm : ∀ y ∈ (l[k]'(by omega)).vals, y.size ≤ 1048576 := fun y hy => valsM_small hw y (mem_valsM.2 ⟨_, List.getElem_mem _, hy⟩)
      have hwx := Nat.le_trans (wsum_mem (f := wtPt) (List.getElem_mem (l := l) (n := k) (by omega))) hw
      obtain ⟨x, hx⟩ : ∃ x, l[k]'(by omega) = x := ⟨_, rfl⟩
      have HX := hidOf hx
      rw [hx] at hq hsm hwx
      have e1 : wtPt x = x.name.size + (x.vals.length + wsum wtS x.vals) := rfl
      obtain ⟨pa, pn, pc, rfl, hp1, hp2, hp3⟩ := hq
      have hpl := hp3.1
      have c1 : wr.cell? ⟨b, off + k * 2 + 1, none⟩ = some (.slice pa pn pc) := hcell 1 _ rfl
      have HL := hidOf (l3All_any B pa pn pc x.vals 3 wr (by omega) (by omega) hsm hp3)
      have hiff : (AreNames x.vals ∧ (pn : Int) ≤ 3) ↔ PortOk x := by
        unfold PortOk
        rw [hpl]
        constructor
        · rintro ⟨h1, h2⟩; exact ⟨by omega, h1⟩
        · rintro ⟨h1, h2⟩; exact ⟨h2, by omega⟩
      clear hcell hx hp3 hsm e1 hwx
      by_cases hok : PortOk x
      · rw [decide_eq_true (hiff.2 hok)] at HL
        have HOK := hidOf hok
        clear hok hiff
        go_wp2_with fail
        refine HL.out.mono ?_
        rintro e w1 ⟨rfl, hb1⟩
        go_wp2_with fail
        go_roundw
        case rel =>
          refine ⟨k + 1, by omega, by go_num, fun j hj hjk => ?_, hbel.trans (hb1.mono hws)⟩
          by_cases e : j = k
          · subst e; rw [HX.out]; exact HOK.out
          · exact HK.out j hj (by omega)
        case measure => simp [intOf]; omega
      · rw [decide_eq_false (fun h => hok (hiff.1 h))] at HL
        have hDf : D = false := by
          rw [← HD.out]
          apply decide_eq_false
          intro hp
          exact hok (by rw [← HX.out]; exact hp.2.2 _ (List.getElem_mem _))
        subst hDf
        clear hok hiff
        go_wp2_with fail
        refine HL.out.mono ?_
        rintro e w1 ⟨rfl, hb1⟩
        go_wp2_with fail
        go_ret
        exact ⟨rfl, hbel.trans (hb1.mono hws)⟩
    · have hall : ∀ p ∈ l, PortOk p := by
        intro p hp
        obtain ⟨j, hj, rfl⟩ := List.getElem_of_mem hp
        exact HK.out j hj (by omega)
      have hDv : D = decide (AreNames (l.map Pt.name) ∧ (n : Int) ≤ 3) := by
        rw [← HD.out]
        apply decide_eq_decide.2
        unfold PortsOk
        constructor
        · rintro ⟨h1, h2, _⟩; exact ⟨h2, by omega⟩
        · rintro ⟨h1, h2⟩; exact ⟨by omega, h1, hall⟩
      have HDV := hidOf hDv
      clear hDv
      go_wp2_with fail
      refine (l3Ports_any B a n c l wr (by omega) hn (HZ.out.below (QPt.lift (hbel.mono hB)) (hbel.mono hB))).mono ?_
      rintro e w1 ⟨u, rfl, hown, hb1⟩
      obtain ⟨ua, uc, rfl, huc, huz, _⟩ := hown.form
      have hul : (l.map Pt.name).length = n := by simp; omega
      rw [hul] at huz ⊢
      have HL := hidOf (l3All_any w1.heap.size ua n uc (l.map Pt.name) 3 w1 (Nat.le_refl _) hn (fun y hy => by
        obtain ⟨p, hp, rfl⟩ := List.mem_map.1 hy
        have h1 := wsum_mem (f := wtPt) hp
        have e1 : wtPt p = p.name.size + (p.vals.length + wsum wtS p.vals) := rfl
        omega) huz)
      rw [← HDV.out] at HL
      have HB1 : Hid (Below w.heap.size w w1) := hbel.trans (hb1.mono hws)
      clear hown hb1 huz hul huc
      go_wp2_with fail
      refine HL.out.mono ?_
      rintro e w2 ⟨rfl, hb2⟩
      go_wp2_with fail
      go_ret
      exact ⟨rfl, HB1.out.trans (hb2.mono HB1.out.size)⟩
end Go.Proofs.YtchemhjcknkbgaaGreatDoor

/- The law's size of a block. -/
namespace Go.Proofs.YtchemhjcknkbgaaGreatDoor
open Go Go.RowKit Go.PlainAid
set_option linter.unusedSimpArgs false
set_option linter.unusedVariables false

set_option maxHeartbeats 1600000 in
set_option maxRecDepth 100000 in
theorem szBlock_any (B : Nat) (w : World) (left : Int) (v : BkV) (x : Bk) (h0 : 0 ≤ left) (h1 : left ≤ 1048576) (hB : B ≤ w.heap.size) (hW : WideBk x) (hx : IsBk B w v x) :
    Calls Tryz.prog 5 #[v.val x.name, .int .i64 left] w fun e w' => SzP (wtBk x) left w e w' := by
  obtain ⟨ai, ni, ci, ao, no, co, av, nv, cv, at_, nt, ct⟩ := v
  obtain ⟨xn, xi, xo, xv, xs⟩ := x
  obtain ⟨hW1, hW2, hW3, hW4, hW5⟩ := hW
  obtain ⟨hins, houts, hvars, hstates, ⟨hc1, hc2⟩, ⟨hc3, hc4⟩, ⟨hc5, hc6⟩, ⟨hc7, hc8⟩⟩ := hx
  simp only at hW1 hW2 hW3 hW4 hW5 hins houts hvars hstates hc1 hc2 hc3 hc4 hc5 hc6 hc7 hc8
  have l1 := hins.1
  have l2 := houts.1
  have l3 := hvars.1
  have l4 := hstates.1
  have hw := wrap_sub (n := xn.size) h0 h1 (by unfold maxLen at hW1; omega)
  have SI : Hid (∀ W r, Below w.heap.size w W → 0 ≤ r → r ≤ 1048576 → Calls Tryz.prog 27 #[.slice ai ni ci, .int .i64 r] W fun e w' => SzP (ni + wsum wtPt xi) r W e w') := fun W r hb hr0 hr1 => szPortS_any B ai ni ci xi r W hr0 hr1 (by omega) (by have := hb.size; omega) hW2 (hins.below (QPt.lift (hb.mono hB)) (hb.mono hB))
  have SO : Hid (∀ W r, Below w.heap.size w W → 0 ≤ r → r ≤ 1048576 → Calls Tryz.prog 27 #[.slice ao no co, .int .i64 r] W fun e w' => SzP (no + wsum wtPt xo) r W e w') := fun W r hb hr0 hr1 => szPortS_any B ao no co xo r W hr0 hr1 (by omega) (by have := hb.size; omega) hW3 (houts.below (QPt.lift (hb.mono hB)) (hb.mono hB))
  have SV : Hid (∀ W r, Below w.heap.size w W → 0 ≤ r → r ≤ 1048576 → Calls Tryz.prog 28 #[.slice av nv cv, .int .i64 r] W fun e w' => SzP (nv + wsum wtVr xv) r W e w') := fun W r hb hr0 hr1 => szVarS_any B av nv cv xv r W hr0 hr1 (by omega) (by have := hb.size; omega) hW4 (hvars.below (QVr.lift (hb.mono hB)) (hb.mono hB))
  have SS : Hid (∀ W r, Below w.heap.size w W → 0 ≤ r → r ≤ 1048576 → Calls Tryz.prog 29 #[.slice at_ nt ct, .int .i64 r] W fun e w' => SzP (nt + wsum wtSt xs) r W e w') := fun W r hb hr0 hr1 => szStateS_any B at_ nt ct xs r W hr0 hr1 (by omega) (by have := hb.size; omega) hW5 (hstates.below (QSt.lift (hb.mono hB)) (hb.mono hB))
  clear hins houts hvars hstates hW2 hW3 hW4 hW5 hc1 hc2 hc3 hc4 hc5 hc6 hc7 hc8
  unfold maxLen at hW1
  show Calls Tryz.prog 5 #[.agg #[.string xn, .slice ai ni ci, .slice ao no co, .slice av nv cv, .slice at_ nt ct], .int .i64 left] w _
  obtain ⟨W0, hW0⟩ : ∃ W0, W0 = w.alloc (.cells #[.string xn, .slice ai ni ci, .slice ao no co, .slice av nv cv, .slice at_ nt ct] 26) := ⟨_, rfl⟩
  have B0 : Hid (Below w.heap.size w W0) := by
    show Below _ _ _
    rw [hW0]; exact (Below.refl _ _).alloc (Nat.le_refl _) _
  have k2 : W0.cell? ⟨w.heap.size, 1 + 1, none⟩ = some (.slice ao no co) := by rw [hW0]; simp [go_sem]
  have k3 : W0.cell? ⟨w.heap.size, 1 + 1 + 1, none⟩ = some (.slice av nv cv) := by rw [hW0]; simp [go_sem]
  have k4 : W0.cell? ⟨w.heap.size, 1 + 1 + 1 + 1, none⟩ = some (.slice at_ nt ct) := by rw [hW0]; simp [go_sem]
  have hs0 : w.heap.size < W0.heap.size := by rw [hW0]; simp
  have HW0 := hidOf hW0
  clear hW0
  by_cases h : left < xn.size
  · go_enter Tryz.func5, Tryz.ntmps5
    go_wp2_with fail
    go_ret
    exact ⟨-1, rfl, by rw [← HW0.out]; exact B0.out, by omega, by omega, fun h => by omega⟩
  go_enter Tryz.func5, Tryz.ntmps5
  go_wp2_with fail
  rw [← HW0.out]
  refine (SI.out W0 (left - xn.size) B0.out (by omega) (by omega)).mono ?_
  rintro e w1 ⟨q1, rfl, b1, p1, p2, p3⟩
  have B1 : Hid (Below w.heap.size w w1) := B0.out.trans (b1.mono B0.out.size)
  have m2 := (b1.cell (p := ⟨w.heap.size, 1 + 1, none⟩) hs0).trans k2
  have m3 := (b1.cell (p := ⟨w.heap.size, 1 + 1 + 1, none⟩) hs0).trans k3
  have m4 := (b1.cell (p := ⟨w.heap.size, 1 + 1 + 1 + 1, none⟩) hs0).trans k4
  have hs1 : w.heap.size < w1.heap.size := by have := b1.size; omega
  clear k2 k3 k4 b1 HW0
  by_cases hq1 : q1 < 0
  · go_wp2_with fail
    go_ret
    exact ⟨-1, rfl, B1.out, by omega, by omega, fun h => by omega⟩
  have e1 := p3 (by omega)
  clear p3
  go_wp2_with fail
  refine (SO.out w1 q1 B1.out (by omega) (by omega)).mono ?_
  rintro e w2 ⟨q2, rfl, b2, r1, r2, r3⟩
  have B2 : Hid (Below w.heap.size w w2) := B1.out.trans (b2.mono B1.out.size)
  have n3 := (b2.cell (p := ⟨w.heap.size, 1 + 1 + 1, none⟩) hs1).trans m3
  have n4 := (b2.cell (p := ⟨w.heap.size, 1 + 1 + 1 + 1, none⟩) hs1).trans m4
  have hs2 : w.heap.size < w2.heap.size := by have := b2.size; omega
  clear m2 m3 m4 b2
  by_cases hq2 : q2 < 0
  · go_wp2_with fail
    go_ret
    exact ⟨-1, rfl, B2.out, by omega, by omega, fun h => by omega⟩
  have e2 := r3 (by omega)
  clear r3
  go_wp2_with fail
  refine (SV.out w2 q2 B2.out (by omega) (by omega)).mono ?_
  rintro e w3 ⟨q3, rfl, b3, s1, s2, s3⟩
  have B3 : Hid (Below w.heap.size w w3) := B2.out.trans (b3.mono B2.out.size)
  have o4 := (b3.cell (p := ⟨w.heap.size, 1 + 1 + 1 + 1, none⟩) hs2).trans n4
  have hs3 : w.heap.size < w3.heap.size := by have := b3.size; omega
  clear n3 n4 b3
  by_cases hq3 : q3 < 0
  · go_wp2_with fail
    go_ret
    exact ⟨-1, rfl, B3.out, by omega, by omega, fun h => by omega⟩
  have e3 := s3 (by omega)
  clear s3
  go_wp2_with fail
  refine (SS.out w3 q3 B3.out (by omega) (by omega)).mono ?_
  rintro e w4 ⟨q4, rfl, b4, t1, t2, t3⟩
  have B4 : Hid (Below w.heap.size w w4) := B3.out.trans (b4.mono B3.out.size)
  clear b4
  by_cases hq4 : q4 < 0
  · go_wp2_with fail
    go_ret
    exact ⟨-1, rfl, B4.out, by omega, by omega, fun h => by omega⟩
  have e4 := t3 (by omega)
  clear t3
  go_wp2_with fail
  go_ret
  exact ⟨q4, rfl, B4.out, by omega, by omega, fun h => by unfold wtBk; simp only; rw [l1, l2, l3, l4]; push_cast at e1 e2 e3 e4 ⊢; omega⟩

end Go.Proofs.YtchemhjcknkbgaaGreatDoor

/- A block that came in, opened. -/
namespace Go.Proofs.YtchemhjcknkbgaaGreatDoor
open Go Go.ChangeShapes Go.WideShapes Go.ChangeAt Go.RowKit Go.Deep Go.PlainAid
set_option linter.unusedSimpArgs false
set_option linter.unusedVariables false

instance : Inhabited Pt := ⟨⟨noName, []⟩⟩
instance : Inhabited Vr := ⟨⟨noName, 0⟩⟩
instance : Inhabited Mo := ⟨⟨noName, noName, noName⟩⟩
instance : Inhabited Ac := ⟨⟨0, noName, noName⟩⟩
instance : Inhabited St := ⟨⟨noName, [], []⟩⟩
section
variable {H : Type} {enc : TypeId × Value → H} {W : World} {base : Nat} {spare : Nat → Bool} {held : Bool}
theorem cS : Tryz.prog.cellsOf 9 = 1 := by kernel_rfl
theorem cSS : Tryz.prog.cellsOf 28 = 1 := by kernel_rfl
theorem cMS : Tryz.prog.cellsOf 110 = 1 := by kernel_rfl
theorem cAS : Tryz.prog.cellsOf 111 = 1 := by kernel_rfl
theorem cPS : Tryz.prog.cellsOf 22 = 1 := by kernel_rfl
theorem cVS : Tryz.prog.cellsOf 23 = 1 := by kernel_rfl
theorem cTS : Tryz.prog.cellsOf 24 = 1 := by kernel_rfl

theorem open_var (fuel : Nat) (cs : List Value) (y : DataW H × List MemPlace) (hl : cs.length = 2) (h : DataW.trod enc Tryz.prog W base spare held fuel 108 cs = some y) : ∃ q, QVr W.heap.size W cs q ∧ WideVr q := by
  obtain ⟨v0, v1, rfl⟩ := len2 hl
  obtain ⟨xs, k, hk, hxy, _, hxl, hf⟩ := DataW.trod_struct Tryz.underlying108 h
  obtain ⟨y0, y1, rfl⟩ := len2 (show xs.length = 2 from hxl)
  have g0 := hf 0 _ rfl
  have g1 := hf 1 _ rfl
  simp only [cS, cI, List.getElem?_cons_zero, List.getElem?_cons_succ] at g0 g1
  simp at g0 g1
  obtain ⟨s0, e0, _, w0⟩ := DataW.trod_string Tryz.underlying9 g0
  obtain ⟨n1, e1, _, w1⟩ := DataW.trod_int Tryz.underlying3 g1
  have p0 : List.take (Tryz.prog.cellsOf 9) [v0, v1] = [Value.string s0] := e0
  have p1 : List.take (Tryz.prog.cellsOf 3) [v1] = [Value.int IntKind.i64 n1] := e1
  rw [cS] at p0
  rw [cI] at p1
  simp at p0 p1
  subst p0 p1
  simp only [Lit.wf, Bool.and_eq_true, decide_eq_true_eq] at w1
  exact ⟨⟨s0, n1⟩, rfl, w0, w1.1, w1.2⟩
theorem open_move (fuel : Nat) (cs : List Value) (y : DataW H × List MemPlace) (hl : cs.length = 3) (h : DataW.trod enc Tryz.prog W base spare held fuel 210 cs = some y) : ∃ q, QMo W.heap.size W cs q ∧ WideMo q := by
  obtain ⟨v0, v1, v2, rfl⟩ := len3' hl
  obtain ⟨xs, k, hk, hxy, _, hxl, hf⟩ := DataW.trod_struct Tryz.underlying210 h
  obtain ⟨y0, y1, y2, rfl⟩ := len3' (show xs.length = 3 from hxl)
  have g0 := hf 0 _ rfl
  have g1 := hf 1 _ rfl
  have g2 := hf 2 _ rfl
  simp only [cS, cI, List.getElem?_cons_zero, List.getElem?_cons_succ] at g0 g1 g2
  simp at g0 g1 g2
  obtain ⟨s0, e0, _, w0⟩ := DataW.trod_string Tryz.underlying9 g0
  obtain ⟨s1, e1, _, w1⟩ := DataW.trod_string Tryz.underlying9 g1
  obtain ⟨s2, e2, _, w2⟩ := DataW.trod_string Tryz.underlying9 g2
  have p0 : List.take (Tryz.prog.cellsOf 9) [v0, v1, v2] = [Value.string s0] := e0
  have p1 : List.take (Tryz.prog.cellsOf 9) [v1, v2] = [Value.string s1] := e1
  have p2 : List.take (Tryz.prog.cellsOf 9) [v2] = [Value.string s2] := e2
  rw [cS] at p0 p1 p2
  simp at p0 p1 p2
  subst p0 p1 p2
  exact ⟨⟨s0, s1, s2⟩, rfl, w0, w1, w2⟩
theorem open_act (fuel : Nat) (cs : List Value) (y : DataW H × List MemPlace) (hl : cs.length = 3) (h : DataW.trod enc Tryz.prog W base spare held fuel 212 cs = some y) : ∃ q, QAc W.heap.size W cs q ∧ WideAc q := by
  obtain ⟨v0, v1, v2, rfl⟩ := len3' hl
  obtain ⟨xs, k, hk, hxy, _, hxl, hf⟩ := DataW.trod_struct Tryz.underlying212 h
  obtain ⟨y0, y1, y2, rfl⟩ := len3' (show xs.length = 3 from hxl)
  have g0 := hf 0 _ rfl
  have g1 := hf 1 _ rfl
  have g2 := hf 2 _ rfl
  simp only [cS, cI, List.getElem?_cons_zero, List.getElem?_cons_succ] at g0 g1 g2
  simp at g0 g1 g2
  obtain ⟨s0, e0, _, w0⟩ := DataW.trod_int Tryz.underlying3 g0
  obtain ⟨s1, e1, _, w1⟩ := DataW.trod_string Tryz.underlying9 g1
  obtain ⟨s2, e2, _, w2⟩ := DataW.trod_string Tryz.underlying9 g2
  have p0 : List.take (Tryz.prog.cellsOf 3) [v0, v1, v2] = [Value.int IntKind.i64 s0] := e0
  have p1 : List.take (Tryz.prog.cellsOf 9) [v1, v2] = [Value.string s1] := e1
  have p2 : List.take (Tryz.prog.cellsOf 9) [v2] = [Value.string s2] := e2
  rw [cI] at p0
  rw [cS] at p1 p2
  simp at p0 p1 p2
  subst p0 p1 p2
  exact ⟨⟨s0, s1, s2⟩, rfl, w1, w2⟩
theorem open_port (fuel : Nat) (cs : List Value) (y : DataW H × List MemPlace) (hl : cs.length = 2) (h : DataW.trod enc Tryz.prog W base spare held fuel 105 cs = some y) : ∃ q, QPt W.heap.size W cs q ∧ WidePt q := by
  obtain ⟨v0, v1, rfl⟩ := len2 hl
  obtain ⟨xs, k, hk, hxy, _, hxl, hf⟩ := DataW.trod_struct Tryz.underlying105 h
  obtain ⟨y0, y1, rfl⟩ := len2 (show xs.length = 2 from hxl)
  have g0 := hf 0 _ rfl
  have g1 := hf 1 _ rfl
  simp only [cS, cSS, List.getElem?_cons_zero, List.getElem?_cons_succ] at g0 g1
  simp at g0 g1
  obtain ⟨s0, e0, _, w0⟩ := DataW.trod_string Tryz.underlying9 g0
  have p0 : List.take (Tryz.prog.cellsOf 9) [v0, v1] = [Value.string s0] := e0
  rw [cS] at p0
  simp at p0
  subst p0
  have g1' : DataW.trod enc Tryz.prog W base spare held k 28 [v1] = some y1 := by rw [cSS] at g1; exact g1
  obtain ⟨a, n, c, e1⟩ := slice_shape Tryz.underlying28 g1'
  simp at e1
  subst e1
  obtain ⟨h1, h2⟩ := slice_caps Tryz.underlying28 g1'
  obtain ⟨l, _, h3, h4⟩ := open_texts (a0 := a) (len0 := n) (cap0 := c) g1'
  exact ⟨⟨s0, l⟩, ⟨a, n, c, rfl, h1, h2, h3⟩, w0, h4⟩
theorem open_state (fuel : Nat) (cs : List Value) (y : DataW H × List MemPlace) (hl : cs.length = 3) (h : DataW.trod enc Tryz.prog W base spare held fuel 113 cs = some y) : ∃ q, QSt W.heap.size W cs q ∧ WideSt q := by
  obtain ⟨v0, v1, v2, rfl⟩ := len3' hl
  obtain ⟨xs, k, hk, hxy, _, hxl, hf⟩ := DataW.trod_struct Tryz.underlying113 h
  obtain ⟨y0, y1, y2, rfl⟩ := len3' (show xs.length = 3 from hxl)
  have g0 := hf 0 _ rfl
  have g1 := hf 1 _ rfl
  have g2 := hf 2 _ rfl
  simp only [cS, cMS, cAS, List.getElem?_cons_zero, List.getElem?_cons_succ] at g0 g1 g2
  simp at g0 g1 g2
  obtain ⟨s0, e0, _, w0⟩ := DataW.trod_string Tryz.underlying9 g0
  have p0 : List.take (Tryz.prog.cellsOf 9) [v0, v1, v2] = [Value.string s0] := e0
  rw [cS] at p0
  simp at p0
  subst p0
  have g1' : DataW.trod enc Tryz.prog W base spare held k 110 [v1] = some y1 := by rw [cMS] at g1; exact g1
  have g2' : DataW.trod enc Tryz.prog W base spare held k 111 [v2] = some y2 := by rw [cAS] at g2; exact g2
  obtain ⟨a, n, c, e1⟩ := slice_shape Tryz.underlying110 g1'
  obtain ⟨a', n', c', e2⟩ := slice_shape Tryz.underlying111 g2'
  simp at e1 e2
  subst e1 e2
  obtain ⟨lm, ⟨h1, h2⟩, h3, h4⟩ := open_arr (a0 := a) (len0 := n) (cap0 := c) Tryz.underlying110 (show Tryz.prog.cellsOf 210 = 3 by kernel_rfl) (by decide) open_move g1'
  obtain ⟨la, ⟨i1, i2⟩, i3, i4⟩ := open_arr (a0 := a') (len0 := n') (cap0 := c') Tryz.underlying111 (show Tryz.prog.cellsOf 212 = 3 by kernel_rfl) (by decide) open_act g2'
  exact ⟨⟨s0, lm, la⟩, ⟨a, n, c, a', n', c', rfl, h1, h2, i1, i2, h3, i3⟩, w0, h4, i4⟩
/-- a block that came in -/
theorem open_block (fuel : Nat) (cs : List Value) (y : DataW H × List MemPlace) (hl : cs.length = 5) (h : DataW.trod enc Tryz.prog W base spare held fuel 26 cs = some y) : ∃ (v : BkV) (b : Bk), cs = (v.val b.name).cells.toList ∧ IsBk W.heap.size W v b ∧ WideBk b := by
  obtain ⟨v0, v1, v2, v3, v4, rfl⟩ := len5 hl
  obtain ⟨xs, k, hk, hxy, _, hxl, hf⟩ := DataW.trod_struct Tryz.underlying26 h
  obtain ⟨y0, y1, y2, y3, y4, rfl⟩ := len5 (show xs.length = 5 from hxl)
  have g0 := hf 0 _ rfl
  have g1 := hf 1 _ rfl
  have g2 := hf 2 _ rfl
  have g3 := hf 3 _ rfl
  have g4 := hf 4 _ rfl
  simp only [cS, cPS, cVS, cTS, List.getElem?_cons_zero, List.getElem?_cons_succ] at g0 g1 g2 g3 g4
  simp at g0 g1 g2 g3 g4
  obtain ⟨s0, e0, _, w0⟩ := DataW.trod_string Tryz.underlying9 g0
  have p0 : List.take (Tryz.prog.cellsOf 9) [v0, v1, v2, v3, v4] = [Value.string s0] := e0
  rw [cS] at p0
  simp at p0
  subst p0
  have g1' : DataW.trod enc Tryz.prog W base spare held k 22 [v1] = some y1 := by rw [cPS] at g1; exact g1
  have g2' : DataW.trod enc Tryz.prog W base spare held k 22 [v2] = some y2 := by rw [cPS] at g2; exact g2
  have g3' : DataW.trod enc Tryz.prog W base spare held k 23 [v3] = some y3 := by rw [cVS] at g3; exact g3
  have g4' : DataW.trod enc Tryz.prog W base spare held k 24 [v4] = some y4 := by rw [cTS] at g4; exact g4
  obtain ⟨a1, n1, c1, e1⟩ := slice_shape Tryz.underlying22 g1'
  obtain ⟨a2, n2, c2, e2⟩ := slice_shape Tryz.underlying22 g2'
  obtain ⟨a3, n3, c3, e3⟩ := slice_shape Tryz.underlying23 g3'
  obtain ⟨a4, n4, c4, e4⟩ := slice_shape Tryz.underlying24 g4'
  simp at e1 e2 e3 e4
  subst e1 e2 e3 e4
  obtain ⟨l1, h1, i1, j1⟩ := open_arr (a0 := a1) (len0 := n1) (cap0 := c1) Tryz.underlying22 (show Tryz.prog.cellsOf 105 = 2 by kernel_rfl) (by decide) open_port g1'
  obtain ⟨l2, h2, i2, j2⟩ := open_arr (a0 := a2) (len0 := n2) (cap0 := c2) Tryz.underlying22 (show Tryz.prog.cellsOf 105 = 2 by kernel_rfl) (by decide) open_port g2'
  obtain ⟨l3, h3, i3, j3⟩ := open_arr (a0 := a3) (len0 := n3) (cap0 := c3) Tryz.underlying23 (show Tryz.prog.cellsOf 108 = 2 by kernel_rfl) (by decide) open_var g3'
  obtain ⟨l4, h4, i4, j4⟩ := open_arr (a0 := a4) (len0 := n4) (cap0 := c4) Tryz.underlying24 (show Tryz.prog.cellsOf 113 = 3 by kernel_rfl) (by decide) open_state g4'
  exact ⟨⟨a1, n1, c1, a2, n2, c2, a3, n3, c3, a4, n4, c4⟩, ⟨s0, l1, l2, l3, l4⟩, rfl, ⟨i1, i2, i3, i4, h1, h2, h3, h4⟩, w0, j1, j2, j3, j4⟩
end
end Go.Proofs.YtchemhjcknkbgaaGreatDoor
