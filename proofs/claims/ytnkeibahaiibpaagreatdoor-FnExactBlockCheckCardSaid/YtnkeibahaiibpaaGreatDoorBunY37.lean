/- The program's listOf at names. -/
import Derived.Test.YtnkeibahaiibpaaGreatDoorBunY35
namespace Go.Proofs.YtnkeibahaiibpaaGreatDoor
open Go Go.RowKit Go.PlainAid
set_option linter.unusedSimpArgs false
set_option linter.unusedVariables false

theorem portName_any (y0 : ByteArray) (a : Option Addr) (n c : Nat) (w : World) : Calls Tryz.prog 149 #[.agg #[.string y0, .slice a n c]] w fun e w' => e = .returned (.string y0) ∧ Below w.heap.size w w' := by
  go_enter Tryz.func149, Tryz.ntmps149
  go_wp2
  go_ret
  refine ⟨rfl, ?_⟩
  go_grown
set_option maxHeartbeats 1600000 in
set_option maxRecDepth 100000 in
theorem listOfPort_any (B : Nat) (a : Option Addr) (n c : Nat) (l : List Pt) (w : World) (hB : B ≤ w.heap.size) (hn : n ≤ 1048576) (hz : IsArr 2 QPt B w a n l) :
    Calls Tryz.prog 148 #[.slice a n c, .func (Fn.func 149) #[] #[]] w fun e w' => ∃ u, e = .returned u ∧ OwnS w.heap.size w' u (l.map Pt.name) ∧ Below w.heap.size w w' := by
  obtain ⟨i0, hi, hz0, hz1, hz2⟩ := info_parts infoStr'
  have hlen := hz.1
  have HZ := hidOf hz
  clear hz
  go_enter Tryz.func148, Tryz.ntmps148
  go_wp2_with fail
  go_loopw [5, 10] (fun u i wr => ∃ k : Nat, k ≤ n ∧ i = .int .i64 k ∧ Hid (OwnS w.heap.size wr u ((l.take k).map Pt.name)) ∧ Below w.heap.size w wr) (fun _ i _ => n - (intOf i).toNat)
  case atStart => exact ⟨0, Nat.zero_le _, rfl, ⟨rfl, .inl ⟨rfl, rfl⟩⟩, Below.refl _ _⟩
  case round =>
    obtain ⟨k, hk, rfl, HK, hbel⟩ := hrel
    by_cases hlt : k < n
    · obtain ⟨b, off, cs, rfl, hb, hq, hcell⟩ := IsArr.at (HZ.out.below (QPt.lift (hbel.mono hB)) (hbel.mono hB)) hlt (show k < l.length by omega)
      have hws := hbel.size
      have hbr : b < wr.heap.size := by omega
      have ht : (l.take (k + 1)).map Pt.name = (l.take k).map Pt.name ++ [(l[k]'(by omega)).name] := by rw [List.take_succ_eq_append_getElem (by omega), List.map_append]; rfl
      have hml : ((l.take k).map Pt.name).length = k := by simp; omega
      obtain ⟨x, hx⟩ : ∃ x, l[k]'(by omega) = x := ⟨_, rfl⟩
      rw [hx] at hq ht
      obtain ⟨pa, pn, pc, rfl, hp1, hp2, hp3⟩ := hq
      clear hp3
      have c0 : wr.cell? ⟨b, off + k * 2, none⟩ = some (.string x.name) := hcell 0 _ rfl
      have c1 : wr.cell? ⟨b, off + k * 2 + 1, none⟩ = some (.slice pa pn pc) := hcell 1 _ rfl
      have HT := hidOf ht
      have how := HK.out
      unfold OwnS at how
      rw [hml] at how
      have HOW := hidOf how
      have HCL := hidOf (fun W => portName_any x.name pa pn pc W)
      clear how hcell hx ht
      go_wp2_with fail
      refine (HCL.out _).mono ?_
      rintro e w1 ⟨rfl, hb1⟩
      have hB1 : Below wr.heap.size wr w1 := ((Below.refl _ _).alloc (Nat.le_refl _) _).trans (hb1.mono (by simp))
      have HBW : Hid (Below w.heap.size w w1) := hbel.trans (hB1.mono hws)
      have HO1 := hidOf (own_of_block HOW.out (fun q hq => hB1.block q (World.ownsRow.lt HOW.out q hq).2))
      have hs1 := hB1.size
      clear hb1 hB1
      go_wp2_with (at_builtin; (refine wpList_append_own _ rfl (.tmp 14) (.tmp 18) 37 rfl w.heap.size 9 i0 (.string ByteArray.empty) 1 16 Tryz.underlying37 hi hz0 hz1 hz2 rfl (by decide) _ k (((l.take k).map Pt.name).map Value.string) rfl (by exact (HO1.out.alloc _)) ⟨w1.heap.size, 0, none⟩ 1 1 [.string x.name] rfl rfl (by exact one_new _ _ _) (by intro u hu; simp at hu; subst hu; rfl) (by unfold maxLen; omega) (by omega) (by simp; omega) ?_))
      intro v' w2 hown' hgrow' _
      have HB2 : Hid (Below w.heap.size w w2) := (HBW.out.alloc (by omega) _).grown hgrow' (by simp; omega) (fun q hq => (World.ownsRow.lt HO1.out q hq).1)
      have HO2 : Hid (OwnS w.heap.size w2 v' ((l.take k).map Pt.name ++ [x.name])) := by
        show World.ownsRow _ _ _ _ _ _ _
        rw [List.length_append, hml, List.map_append]
        have e : List.take k (List.map (Value.string ∘ Pt.name) l) = ((l.take k).map Pt.name).map Value.string := by simp [List.map_take]
        first
          | exact hown'
          | (rw [e] at hown'; exact hown')
      clear hown' hgrow'
      go_wp2_with fail
      go_roundw
      case rel => exact ⟨k + 1, by omega, by go_num, by show OwnS _ _ _ _; rw [HT.out]; exact HO2.out, HB2.out⟩
      case measure => simp [intOf]; omega
    · have : k = n := by omega
      subst this
      rw [List.take_of_length_le (by omega)] at HK
      go_wp2_with fail
      go_ret
      exact ⟨_, rfl, HK.out, hbel⟩

theorem varName_any (y0 : ByteArray) (n : Int) (w : World) : Calls Tryz.prog 100 #[.agg #[.string y0, .int .i64 n]] w fun e w' => e = .returned (.string y0) ∧ Below w.heap.size w w' := by
  go_enter Tryz.func100, Tryz.ntmps100
  go_wp2
  go_ret
  refine ⟨rfl, ?_⟩
  go_grown
set_option maxHeartbeats 1600000 in
set_option maxRecDepth 100000 in
theorem listOfVar_any (B : Nat) (a : Option Addr) (n c : Nat) (l : List Vr) (w : World) (hB : B ≤ w.heap.size) (hn : n ≤ 1048576) (hz : IsArr 2 QVr B w a n l) :
    Calls Tryz.prog 99 #[.slice a n c, .func (Fn.func 100) #[] #[]] w fun e w' => ∃ u, e = .returned u ∧ OwnS w.heap.size w' u (l.map Vr.name) ∧ Below w.heap.size w w' := by
  obtain ⟨i0, hi, hz0, hz1, hz2⟩ := info_parts infoStr'
  have hlen := hz.1
  have HZ := hidOf hz
  clear hz
  go_enter Tryz.func99, Tryz.ntmps99
  go_wp2_with fail
  go_loopw [5, 10] (fun u i wr => ∃ k : Nat, k ≤ n ∧ i = .int .i64 k ∧ Hid (OwnS w.heap.size wr u ((l.take k).map Vr.name)) ∧ Below w.heap.size w wr) (fun _ i _ => n - (intOf i).toNat)
  case atStart => exact ⟨0, Nat.zero_le _, rfl, ⟨rfl, .inl ⟨rfl, rfl⟩⟩, Below.refl _ _⟩
  case round =>
    obtain ⟨k, hk, rfl, HK, hbel⟩ := hrel
    by_cases hlt : k < n
    · obtain ⟨b, off, cs, rfl, hb, hq, hcell⟩ := IsArr.at (HZ.out.below (QVr.lift (hbel.mono hB)) (hbel.mono hB)) hlt (show k < l.length by omega)
      have hws := hbel.size
      have hbr : b < wr.heap.size := by omega
      have ht : (l.take (k + 1)).map Vr.name = (l.take k).map Vr.name ++ [(l[k]'(by omega)).name] := by rw [List.take_succ_eq_append_getElem (by omega), List.map_append]; rfl
      have hml : ((l.take k).map Vr.name).length = k := by simp; omega
      obtain ⟨x, hx⟩ : ∃ x, l[k]'(by omega) = x := ⟨_, rfl⟩
      rw [hx] at hq ht
      unfold QVr at hq
      subst hq
      have c0 : wr.cell? ⟨b, off + k * 2, none⟩ = some (.string x.name) := hcell 0 _ rfl
      have c1 : wr.cell? ⟨b, off + k * 2 + 1, none⟩ = some (.int .i64 x.num) := hcell 1 _ rfl
      have HT := hidOf ht
      have how := HK.out
      unfold OwnS at how
      rw [hml] at how
      have HOW := hidOf how
      have HCL := hidOf (fun W => varName_any x.name x.num W)
      clear how hcell hx ht
      go_wp2_with fail
      refine (HCL.out _).mono ?_
      rintro e w1 ⟨rfl, hb1⟩
      have hB1 : Below wr.heap.size wr w1 := ((Below.refl _ _).alloc (Nat.le_refl _) _).trans (hb1.mono (by simp))
      have HBW : Hid (Below w.heap.size w w1) := hbel.trans (hB1.mono hws)
      have HO1 := hidOf (own_of_block HOW.out (fun q hq => hB1.block q (World.ownsRow.lt HOW.out q hq).2))
      have hs1 := hB1.size
      clear hb1 hB1
      go_wp2_with (at_builtin; (refine wpList_append_own _ rfl (.tmp 14) (.tmp 18) 37 rfl w.heap.size 9 i0 (.string ByteArray.empty) 1 16 Tryz.underlying37 hi hz0 hz1 hz2 rfl (by decide) _ k (((l.take k).map Vr.name).map Value.string) rfl (by exact (HO1.out.alloc _)) ⟨w1.heap.size, 0, none⟩ 1 1 [.string x.name] rfl rfl (by exact one_new _ _ _) (by intro u hu; simp at hu; subst hu; rfl) (by unfold maxLen; omega) (by omega) (by simp; omega) ?_))
      intro v' w2 hown' hgrow' _
      have HB2 : Hid (Below w.heap.size w w2) := (HBW.out.alloc (by omega) _).grown hgrow' (by simp; omega) (fun q hq => (World.ownsRow.lt HO1.out q hq).1)
      have HO2 : Hid (OwnS w.heap.size w2 v' ((l.take k).map Vr.name ++ [x.name])) := by
        show World.ownsRow _ _ _ _ _ _ _
        rw [List.length_append, hml, List.map_append]
        have e : List.take k (List.map (Value.string ∘ Vr.name) l) = ((l.take k).map Vr.name).map Value.string := by simp [List.map_take]
        first
          | exact hown'
          | (rw [e] at hown'; exact hown')
      clear hown' hgrow'
      go_wp2_with fail
      go_roundw
      case rel => exact ⟨k + 1, by omega, by go_num, by show OwnS _ _ _ _; rw [HT.out]; exact HO2.out, HB2.out⟩
      case measure => simp [intOf]; omega
    · have : k = n := by omega
      subst this
      rw [List.take_of_length_le (by omega)] at HK
      go_wp2_with fail
      go_ret
      exact ⟨_, rfl, HK.out, hbel⟩

theorem stateName_any (y0 : ByteArray) (a : Option Addr) (n c : Nat) (a' : Option Addr) (n' c' : Nat) (w : World) : Calls Tryz.prog 96 #[.agg #[.string y0, .slice a n c, .slice a' n' c']] w fun e w' => e = .returned (.string y0) ∧ Below w.heap.size w w' := by
  go_enter Tryz.func96, Tryz.ntmps96
  go_wp2
  go_ret
  refine ⟨rfl, ?_⟩
  go_grown
set_option maxHeartbeats 1600000 in
set_option maxRecDepth 100000 in
theorem listOfState_any (B : Nat) (a : Option Addr) (n c : Nat) (l : List St) (w : World) (hB : B ≤ w.heap.size) (hn : n ≤ 1048576) (hz : IsArr 3 QSt B w a n l) :
    Calls Tryz.prog 95 #[.slice a n c, .func (Fn.func 96) #[] #[]] w fun e w' => ∃ u, e = .returned u ∧ OwnS w.heap.size w' u (l.map St.name) ∧ Below w.heap.size w w' := by
  obtain ⟨i0, hi, hz0, hz1, hz2⟩ := info_parts infoStr'
  have hlen := hz.1
  have HZ := hidOf hz
  clear hz
  go_enter Tryz.func95, Tryz.ntmps95
  go_wp2_with fail
  go_loopw [5, 10] (fun u i wr => ∃ k : Nat, k ≤ n ∧ i = .int .i64 k ∧ Hid (OwnS w.heap.size wr u ((l.take k).map St.name)) ∧ Below w.heap.size w wr) (fun _ i _ => n - (intOf i).toNat)
  case atStart => exact ⟨0, Nat.zero_le _, rfl, ⟨rfl, .inl ⟨rfl, rfl⟩⟩, Below.refl _ _⟩
  case round =>
    obtain ⟨k, hk, rfl, HK, hbel⟩ := hrel
    by_cases hlt : k < n
    · obtain ⟨b, off, cs, rfl, hb, hq, hcell⟩ := IsArr.at (HZ.out.below (QSt.lift (hbel.mono hB)) (hbel.mono hB)) hlt (show k < l.length by omega)
      have hws := hbel.size
      have hbr : b < wr.heap.size := by omega
      have ht : (l.take (k + 1)).map St.name = (l.take k).map St.name ++ [(l[k]'(by omega)).name] := by rw [List.take_succ_eq_append_getElem (by omega), List.map_append]; rfl
      have hml : ((l.take k).map St.name).length = k := by simp; omega
      obtain ⟨x, hx⟩ : ∃ x, l[k]'(by omega) = x := ⟨_, rfl⟩
      rw [hx] at hq ht
      obtain ⟨pa, pn, pc, pa', pn', pc', rfl, hp1, hp2, hp3, hp4, hp5, hp6⟩ := hq
      clear hp5 hp6
      have c0 : wr.cell? ⟨b, off + k * 3, none⟩ = some (.string x.name) := hcell 0 _ rfl
      have c1 : wr.cell? ⟨b, off + k * 3 + 1, none⟩ = some (.slice pa pn pc) := hcell 1 _ rfl
      have c2 : wr.cell? ⟨b, off + k * 3 + 1 + 1, none⟩ = some (.slice pa' pn' pc') := hcell 2 _ rfl
      have HT := hidOf ht
      have how := HK.out
      unfold OwnS at how
      rw [hml] at how
      have HOW := hidOf how
      have HCL := hidOf (fun W => stateName_any x.name pa pn pc pa' pn' pc' W)
      clear how hcell hx ht
      go_wp2_with fail
      refine (HCL.out _).mono ?_
      rintro e w1 ⟨rfl, hb1⟩
      have hB1 : Below wr.heap.size wr w1 := ((Below.refl _ _).alloc (Nat.le_refl _) _).trans (hb1.mono (by simp))
      have HBW : Hid (Below w.heap.size w w1) := hbel.trans (hB1.mono hws)
      have HO1 := hidOf (own_of_block HOW.out (fun q hq => hB1.block q (World.ownsRow.lt HOW.out q hq).2))
      have hs1 := hB1.size
      clear hb1 hB1
      go_wp2_with (at_builtin; (refine wpList_append_own _ rfl (.tmp 14) (.tmp 18) 37 rfl w.heap.size 9 i0 (.string ByteArray.empty) 1 16 Tryz.underlying37 hi hz0 hz1 hz2 rfl (by decide) _ k (((l.take k).map St.name).map Value.string) rfl (by exact (HO1.out.alloc _)) ⟨w1.heap.size, 0, none⟩ 1 1 [.string x.name] rfl rfl (by exact one_new _ _ _) (by intro u hu; simp at hu; subst hu; rfl) (by unfold maxLen; omega) (by omega) (by simp; omega) ?_))
      intro v' w2 hown' hgrow' _
      have HB2 : Hid (Below w.heap.size w w2) := (HBW.out.alloc (by omega) _).grown hgrow' (by simp; omega) (fun q hq => (World.ownsRow.lt HO1.out q hq).1)
      have HO2 : Hid (OwnS w.heap.size w2 v' ((l.take k).map St.name ++ [x.name])) := by
        show World.ownsRow _ _ _ _ _ _ _
        rw [List.length_append, hml, List.map_append]
        have e : List.take k (List.map (Value.string ∘ St.name) l) = ((l.take k).map St.name).map Value.string := by simp [List.map_take]
        first
          | exact hown'
          | (rw [e] at hown'; exact hown')
      clear hown' hgrow'
      go_wp2_with fail
      go_roundw
      case rel => exact ⟨k + 1, by omega, by go_num, by show OwnS _ _ _ _; rw [HT.out]; exact HO2.out, HB2.out⟩
      case measure => simp [intOf]; omega
    · have : k = n := by omega
      subst this
      rw [List.take_of_length_le (by omega)] at HK
      go_wp2_with fail
      go_ret
      exact ⟨_, rfl, HK.out, hbel⟩
end Go.Proofs.YtnkeibahaiibpaaGreatDoor

/- The program's portNames. -/
namespace Go.Proofs.YtnkeibahaiibpaaGreatDoor
open Go Go.RowKit Go.PlainAid
set_option linter.unusedSimpArgs false
set_option linter.unusedVariables false

set_option maxHeartbeats 1600000 in
set_option maxRecDepth 100000 in
theorem portNames_any (B : Nat) (a : Option Addr) (n c : Nat) (ps : List Pt) (w : World) (hB : B ≤ w.heap.size) (hn : n ≤ 1048576) (hw : wsum wtPt ps ≤ 1048576) (hz : IsArr 2 QPt B w a n ps) :
    Calls Tryz.prog 98 #[.slice a n c] w fun e w' => ∃ v, e = .returned v ∧ OwnS w.heap.size w' v (valsM ps) ∧ Below w.heap.size w w' := by
  obtain ⟨i0, hi, hz0, hz1, hz2⟩ := info_parts infoStr'
  have hlen := hz.1
  have HZ := hidOf hz
  clear hz
  go_enter Tryz.func98, Tryz.ntmps98
  go_wp2_with fail
  go_loopw [3, 10] (fun u i wr => ∃ k : Nat, k ≤ n ∧ i = .int .i64 k ∧ Hid (OwnS w.heap.size wr u (valsM (ps.take k))) ∧ Below w.heap.size w wr) (fun _ i _ => n - (intOf i).toNat)
  case atStart => exact ⟨0, Nat.zero_le _, rfl, ⟨rfl, .inl ⟨rfl, rfl⟩⟩, Below.refl _ _⟩
  case round =>
    obtain ⟨k, hk, rfl, HK, hbel⟩ := hrel
    by_cases hlt : k < n
    · obtain ⟨b, off, cs, rfl, hb, hq, hcell⟩ := IsArr.at (HZ.out.below (QPt.lift (hbel.mono hB)) (hbel.mono hB)) hlt (show k < ps.length by omega)
      have hws := hbel.size
      have hbr : b < wr.heap.size := by omega
      have ht := valsM_take ps (show k < ps.length by omega)
      have h1 := valsM_len ps k (by omega)
      have h2 := wsum_take wtPt ps (show k < ps.length by omega)
      have h3 := wsum_le wtPt ps (k + 1)
      obtain ⟨x, hx⟩ : ∃ x, ps[k]'(by omega) = x := ⟨_, rfl⟩
      rw [hx] at hq ht h2
      have e1 : wtPt x = x.name.size + (x.vals.length + wsum wtS x.vals) := rfl
      obtain ⟨pa, pn, pc, rfl, hp1, hp2, hp3⟩ := hq
      have hpl := hp3.1
      have c0 : wr.cell? ⟨b, off + k * 2, none⟩ = some (.string x.name) := hcell 0 _ rfl
      have c1 : wr.cell? ⟨b, off + k * 2 + 1, none⟩ = some (.slice pa pn pc) := hcell 1 _ rfl
      have HT := hidOf ht
      have HP3 := hidOf hp3
      have hoN : (valsM (ps.take k)).length + pn ≤ 1048576 := by omega
      obtain ⟨o, ho⟩ : ∃ o, valsM (ps.take k) = o := ⟨_, rfl⟩
      rw [ho] at HK HT hoN
      have HB0 : Hid (Below wr.heap.size wr (wr.alloc (.cells #[.string x.name, .slice pa pn pc] 88))) := (Below.refl _ _).alloc (Nat.le_refl _) _
      clear hcell hp3 hx ht ho h1 h2 h3 e1
      go_wp2_with fail
      go_loopw [3, 17] (fun u i wi => ∃ j : Nat, j ≤ pn ∧ i = .int .i64 j ∧ Hid (OwnS w.heap.size wi u (addM o (x.vals.take j))) ∧ Below w.heap.size w wi ∧ Below B wr wi) (fun _ i _ => pn - (intOf i).toNat)
      case atStart => exact ⟨0, Nat.zero_le _, rfl, HK.out.keep HB0.out, hbel.trans (HB0.out.mono hws), HB0.out.mono (by omega)⟩
      case round =>
        obtain ⟨j, hj, rfl, HJ, hbi, hbB⟩ := hrel
        have hwi := hbi.size
        by_cases hlt2 : j < pn
        · rcases (HP3.out.below hbB).2 with h0 | ⟨b', off', rfl, hb', hc'⟩
          · omega
          have d0 := hc' j (by omega)
          obtain ⟨y, hy⟩ : ∃ y, x.vals[j]'(by omega) = y := ⟨_, rfl⟩
          rw [hy] at d0
          have hbr' : b' < wr.heap.size := by omega
          have HT2 : Hid (addM o (x.vals.take (j + 1)) = addS (addM o (x.vals.take j)) y) := by
            show _ = _
            rw [← hy]; exact addM_take o x.vals (by omega)
          obtain ⟨cur, hcur⟩ : ∃ cur, addM o (x.vals.take j) = cur := ⟨_, rfl⟩
          have hcl : cur.length ≤ o.length + j := by
            rw [← hcur]
            have := addM_len o (x.vals.take j)
            simp at this
            omega
          rw [hcur] at HJ HT2
          obtain ⟨ua, uc, eu, huc, huz, hub⟩ := HJ.out.form
          have HC := hidOf (containsS_any wr.heap.size ua cur.length uc cur y wr (by omega) huz)
          obtain ⟨m, hm⟩ : ∃ m, cur.length = m := ⟨_, rfl⟩
          have HM := hidOf hm
          rw [hm] at HC hcl eu huc
          subst eu
          obtain ⟨M, hM⟩ : ∃ M, decide (0 ≤ findM cur y) = M := ⟨_, rfl⟩
          have HMM := hidOf hM
          rw [hM] at HC
          have HOW : Hid (wr.ownsRow w.heap.size 9 1 (.slice ua m uc) m (cur.map Value.string)) := by
            have := HJ.out
            unfold OwnS at this
            rw [HM.out] at this
            exact this
          clear hc' hy huz hm hM hcur
          cases M with
          | true =>
            have hadd : addS cur y = cur := by unfold addS; rw [if_neg (by have := of_decide_eq_true HMM.out; omega)]
            have HADD := hidOf hadd
            clear hadd
            go_wp2_with (go_at_call 154; refine HC.out.mono ?_; rintro e w' ⟨rfl, hw'⟩; rw [hw']; clear hw' w')
            go_roundw
            case rel => exact ⟨j + 1, by omega, by go_num, by show OwnS _ _ _ _; rw [HT2.out, HADD.out]; exact HJ.out, hbi, hbB⟩
            case measure => simp [intOf]; omega
          | false =>
            have hadd : addS cur y = cur ++ [y] := by unfold addS; rw [if_pos (by have := of_decide_eq_false HMM.out; omega)]
            have HADD := hidOf hadd
            clear hadd
            go_wp2_with (first
              | (go_at_call 154; refine HC.out.mono ?_; rintro e w' ⟨rfl, hw'⟩; rw [hw']; clear hw' w')
              | (at_builtin; (refine wpList_append_own _ rfl (.tmp 25) (.tmp 27) 37 rfl w.heap.size 9 i0 (.string ByteArray.empty) 1 16 Tryz.underlying37 hi hz0 hz1 hz2 rfl (by decide) _ m (cur.map Value.string) rfl (by exact (HOW.out.alloc _)) ⟨wr.heap.size, 0, none⟩ 1 1 [.string y] rfl rfl (by exact one_new _ _ _) (by intro u hu; simp at hu; subst hu; rfl) (by unfold maxLen; omega) (by omega) (by simp; omega) ?_)))
            intro v' w2 hown' hgrow' _
            have HG : Hid (Below w.heap.size wr w2) := ((Below.refl w.heap.size wr).alloc hwi _).grown hgrow' (by simp; omega) (fun q hq => (World.ownsRow.lt HOW.out q hq).1)
            have HO2 : Hid (OwnS w.heap.size w2 v' (cur ++ [y])) := by
              show World.ownsRow _ _ _ _ _ _ _
              rw [List.length_append, HM.out, List.map_append]
              exact hown'
            clear hown' hgrow'
            go_wp2_with fail
            go_roundw
            case rel => exact ⟨j + 1, by omega, by go_num, by show OwnS _ _ _ _; rw [HT2.out, HADD.out]; exact HO2.out, hbi.trans HG.out, hbB.trans (HG.out.mono hB)⟩
            case measure => simp [intOf]; omega
        · have : j = pn := by omega
          subst this
          rw [List.take_of_length_le (by omega)] at HJ
          go_wp2_with fail
          go_roundw
          case rel => exact ⟨k + 1, by omega, by go_num, by show OwnS _ _ _ _; rw [HT.out]; exact HJ.out, hbi⟩
          case measure => simp [intOf]; omega
    · have : k = n := by omega
      subst this
      rw [List.take_of_length_le (by omega)] at HK
      go_wp2_with fail
      go_ret
      exact ⟨_, rfl, HK.out, hbel⟩
end Go.Proofs.YtnkeibahaiibpaaGreatDoor
