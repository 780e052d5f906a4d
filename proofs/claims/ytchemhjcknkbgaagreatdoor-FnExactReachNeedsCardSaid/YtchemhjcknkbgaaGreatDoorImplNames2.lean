/- The program's listOf at names. -/
import Derived.Test.YtchemhjcknkbgaaGreatDoorBunY36
namespace Go.Proofs.YtchemhjcknkbgaaGreatDoor
open Go Go.RowKit Go.PlainAid
set_option linter.unusedSimpArgs false
set_option linter.unusedVariables false

theorem portName_any (y0 : ByteArray) (a : Option Addr) (n c : Nat) (w : World) : Calls Tryz.prog 166 #[.agg #[.string y0, .slice a n c]] w fun e w' => e = .returned (.string y0) ∧ Below w.heap.size w w' := by
  go_enter Tryz.func166, Tryz.ntmps166
  go_wp2
  go_ret
  refine ⟨rfl, ?_⟩
  go_grown
set_option maxHeartbeats 1600000 in
set_option maxRecDepth 100000 in
theorem listOfPort_any (B : Nat) (a : Option Addr) (n c : Nat) (l : List Pt) (w : World) (hB : B ≤ w.heap.size) (hn : n ≤ 1048576) (hz : IsArr 2 QPt B w a n l) :
    Calls Tryz.prog 165 #[.slice a n c, .func (Fn.func 166) #[] #[]] w fun e w' => ∃ u, e = .returned u ∧ OwnS w.heap.size w' u (l.map Pt.name) ∧ Below w.heap.size w w' := by
  obtain ⟨i0, hi, hz0, hz1, hz2⟩ := info_parts infoStr'
  have hlen := hz.1
  have HZ := hidOf hz
  clear hz
  go_enter Tryz.func165, Tryz.ntmps165
  go_wp2_with fail
  go_loopw [5, 10] (fun u i wr => ∃ k : Nat, k ≤ n ∧ i = .int .i64 k ∧ Hid (OwnS w.heap.size wr u ((l.take k).map Pt.name)) ∧ Below w.heap.size w wr) (fun _ i _ => n - (intOf i).toNat)
  case atStart => exact ⟨0, Nat.zero_le _, rfl, ⟨rfl, .inl ⟨rfl, rfl⟩⟩, Below.refl _ _⟩
  case round =>
    obtain ⟨k, hk, rfl, HK, hbel⟩ := hrel
    by_cases hlt : k < n
    · obtain ⟨b, off, cs, rfl, hb, hq, hcell⟩ := IsArr.at (HZ.out.below (QPt.lift (hbel.mono hB)) (hbel.mono hB)) hlt (show k < l.length by omega)
      have hws := hbel.size
      have hbr : b < wr.heap.size := by omega
      have ht : (l.take (k + 1)).map Pt.name = (l.take k).map Pt.name ++ [(l[k]'(by omega)).name] := by rw [List.take_succ_eq_append_getElem (by omega), List.map_append]; rfl
      have hml : ((l.take k).map Pt.name).length = k := by simp; omega
      obtain ⟨x, hx⟩ : ∃ x, l[k]'(by omega) = x := ⟨_, rfl⟩
      rw [hx] at hq ht
      obtain ⟨pa, pn, pc, rfl, hp1, hp2, hp3⟩ := hq
      clear hp3
      have c0 : wr.cell? ⟨b, off + k * 2, none⟩ = some (.string x.name) := hcell 0 _ rfl
      have c1 : wr.cell? ⟨b, off + k * 2 + 1, none⟩ = some (.slice pa pn pc) := hcell 1 _ rfl
      have HT := hidOf ht
      have how := HK.out
      unfold OwnS at how
      rw [hml] at how
      have HOW := hidOf how
      have HCL := hidOf (fun W => portName_any x.name pa pn pc W)
      clear how hcell hx ht
      go_wp2_with fail
      refine (HCL.out _).mono ?_
      rintro e w1 ⟨rfl, hb1⟩
      have hB1 : Below wr.heap.size wr w1 := ((Below.refl _ _).alloc (Nat.le_refl _) _).trans (hb1.mono (by simp))
      have HBW : Hid (Below w.heap.size w w1) := hbel.trans (hB1.mono hws)
      have HO1 := hidOf (own_of_block HOW.out (fun q hq => hB1.block q (World.ownsRow.lt HOW.out q hq).2))
      have hs1 := hB1.size
      clear hb1 hB1
      go_wp2_with (at_builtin; (refine wpList_append_own _ rfl (.tmp 14) (.tmp 18) 28 rfl w.heap.size 9 i0 (.string ByteArray.empty) 1 16 Tryz.underlying28 hi hz0 hz1 hz2 rfl (by decide) _ k (((l.take k).map Pt.name).map Value.string) rfl (by exact (HO1.out.alloc _)) ⟨w1.heap.size, 0, none⟩ 1 1 [.string x.name] rfl rfl (by exact one_new _ _ _) (by intro u hu; simp at hu; subst hu; rfl) (by unfold maxLen; omega) (by omega) (by simp; omega) ?_))
      intro v' w2 hown' hgrow' _
      have HB2 : Hid (Below w.heap.size w w2) := (HBW.out.alloc (by omega) _).grown hgrow' (by simp; omega) (fun q hq => (World.ownsRow.lt HO1.out q hq).1)
      have HO2 : Hid (OwnS w.heap.size w2 v' ((l.take k).map Pt.name ++ [x.name])) := by
        show World.ownsRow _ _ _ _ _ _ _
        rw [List.length_append, hml, List.map_append]
        have e : List.take k (List.map (Value.string ∘ Pt.name) l) = ((l.take k).map Pt.name).map Value.string := by simp [List.map_take]
        first
          | exact hown'
          | (rw [e] at hown'; exact hown')
      clear hown' hgrow'
      go_wp2_with fail
      go_roundw
      case rel => exact ⟨k + 1, by omega, by go_num, by show OwnS _ _ _ _; rw [HT.out]; exact HO2.out, HB2.out⟩
      case measure => simp [intOf]; omega
    · have : k = n := by omega
      subst this
      rw [List.take_of_length_le (by omega)] at HK
      go_wp2_with fail
      go_ret
      exact ⟨_, rfl, HK.out, hbel⟩

theorem varName_any (y0 : ByteArray) (n : Int) (w : World) : Calls Tryz.prog 87 #[.agg #[.string y0, .int .i64 n]] w fun e w' => e = .returned (.string y0) ∧ Below w.heap.size w w' := by
  go_enter Tryz.func87, Tryz.ntmps87
  go_wp2
  go_ret
  refine ⟨rfl, ?_⟩
  go_grown
set_option maxHeartbeats 1600000 in
set_option maxRecDepth 100000 in
theorem listOfVar_any (B : Nat) (a : Option Addr) (n c : Nat) (l : List Vr) (w : World) (hB : B ≤ w.heap.size) (hn : n ≤ 1048576) (hz : IsArr 2 QVr B w a n l) :
    Calls Tryz.prog 86 #[.slice a n c, .func (Fn.func 87) #[] #[]] w fun e w' => ∃ u, e = .returned u ∧ OwnS w.heap.size w' u (l.map Vr.name) ∧ Below w.heap.size w w' := by
  obtain ⟨i0, hi, hz0, hz1, hz2⟩ := info_parts infoStr'
  have hlen := hz.1
  have HZ := hidOf hz
  clear hz
  go_enter Tryz.func86, Tryz.ntmps86
  go_wp2_with fail
  go_loopw [5, 10] (fun u i wr => ∃ k : Nat, k ≤ n ∧ i = .int .i64 k ∧ Hid (OwnS w.heap.size wr u ((l.take k).map Vr.name)) ∧ Below w.heap.size w wr) (fun _ i _ => n - (intOf i).toNat)
  case atStart => exact ⟨0, Nat.zero_le _, rfl, ⟨rfl, .inl ⟨rfl, rfl⟩⟩, Below.refl _ _⟩
  case round =>
    obtain ⟨k, hk, rfl, HK, hbel⟩ := hrel
    by_cases hlt : k < n
    · obtain ⟨b, off, cs, rfl, hb, hq, hcell⟩ := IsArr.at (HZ.out.below (QVr.lift (hbel.mono hB)) (hbel.mono hB)) hlt (show k < l.length by omega)
      have hws := hbel.size
      have hbr : b < wr.heap.size := by omega
      have ht : (l.take (k + 1)).map Vr.name = (l.take k).map Vr.name ++ [(l[k]'(by omega)).name] := by rw [List.take_succ_eq_append_getElem (by omega), List.map_append]; rfl
      have hml : ((l.take k).map Vr.name).length = k := by simp; omega
      obtain ⟨x, hx⟩ : ∃ x, l[k]'(by omega) = x := ⟨_, rfl⟩
      rw [hx] at hq ht
      unfold QVr at hq
      subst hq
      have c0 : wr.cell? ⟨b, off + k * 2, none⟩ = some (.string x.name) := hcell 0 _ rfl
      have c1 : wr.cell? ⟨b, off + k * 2 + 1, none⟩ = some (.int .i64 x.num) := hcell 1 _ rfl
      have HT := hidOf ht
      have how := HK.out
      unfold OwnS at how
      rw [hml] at how
      have HOW := hidOf how
      have HCL := hidOf (fun W => varName_any x.name x.num W)
      clear how hcell hx ht
      go_wp2_with fail
      refine (HCL.out _).mono ?_
      rintro e w1 ⟨rfl, hb1⟩
      have hB1 : Below wr.heap.size wr w1 := ((Below.refl _ _).alloc (Nat.le_refl _) _).trans (hb1.mono (by simp))
      have HBW : Hid (Below w.heap.size w w1) := hbel.trans (hB1.mono hws)
      have HO1 := hidOf (own_of_block HOW.out (fun q hq => hB1.block q (World.ownsRow.lt HOW.out q hq).2))
      have hs1 := hB1.size
      clear hb1 hB1
      go_wp2_with (at_builtin; (refine wpList_append_own _ rfl (.tmp 14) (.tmp 18) 28 rfl w.heap.size 9 i0 (.string ByteArray.empty) 1 16 Tryz.underlying28 hi hz0 hz1 hz2 rfl (by decide) _ k (((l.take k).map Vr.name).map Value.string) rfl (by exact (HO1.out.alloc _)) ⟨w1.heap.size, 0, none⟩ 1 1 [.string x.name] rfl rfl (by exact one_new _ _ _) (by intro u hu; simp at hu; subst hu; rfl) (by unfold maxLen; omega) (by omega) (by simp; omega) ?_))
      intro v' w2 hown' hgrow' _
      have HB2 : Hid (Below w.heap.size w w2) := (HBW.out.alloc (by omega) _).grown hgrow' (by simp; omega) (fun q hq => (World.ownsRow.lt HO1.out q hq).1)
      have HO2 : Hid (OwnS w.heap.size w2 v' ((l.take k).map Vr.name ++ [x.name])) := by
        show World.ownsRow _ _ _ _ _ _ _
        rw [List.length_append, hml, List.map_append]
        have e : List.take k (List.map (Value.string ∘ Vr.name) l) = ((l.take k).map Vr.name).map Value.string := by simp [List.map_take]
        first
          | exact hown'
          | (rw [e] at hown'; exact hown')
      clear hown' hgrow'
      go_wp2_with fail
      go_roundw
      case rel => exact ⟨k + 1, by omega, by go_num, by show OwnS _ _ _ _; rw [HT.out]; exact HO2.out, HB2.out⟩
      case measure => simp [intOf]; omega
    · have : k = n := by omega
      subst this
      rw [List.take_of_length_le (by omega)] at HK
      go_wp2_with fail
      go_ret
      exact ⟨_, rfl, HK.out, hbel⟩

theorem stateName_any (y0 : ByteArray) (a : Option Addr) (n c : Nat) (a' : Option Addr) (n' c' : Nat) (w : World) : Calls Tryz.prog 126 #[.agg #[.string y0, .slice a n c, .slice a' n' c']] w fun e w' => e = .returned (.string y0) ∧ Below w.heap.size w w' := by
  go_enter Tryz.func126, Tryz.ntmps126
  go_wp2
  go_ret
  refine ⟨rfl, ?_⟩
  go_grown
set_option maxHeartbeats 1600000 in
set_option maxRecDepth 100000 in
theorem listOfState_any (B : Nat) (a : Option Addr) (n c : Nat) (l : List St) (w : World) (hB : B ≤ w.heap.size) (hn : n ≤ 1048576) (hz : IsArr 3 QSt B w a n l) :
    Calls Tryz.prog 125 #[.slice a n c, .func (Fn.func 126) #[] #[]] w fun e w' => ∃ u, e = .returned u ∧ OwnS w.heap.size w' u (l.map St.name) ∧ Below w.heap.size w w' := by
  obtain ⟨i0, hi, hz0, hz1, hz2⟩ := info_parts infoStr'
  have hlen := hz.1
  have HZ := hidOf hz
  clear hz
  go_enter Tryz.func125, Tryz.ntmps125
  go_wp2_with fail
  go_loopw [5, 10] (fun u i wr => ∃ k : Nat, k ≤ n ∧ i = .int .i64 k ∧ Hid (OwnS w.heap.size wr u ((l.take k).map St.name)) ∧ Below w.heap.size w wr) (fun _ i _ => n - (intOf i).toNat)
  case atStart => exact ⟨0, Nat.zero_le _, rfl, ⟨rfl, .inl ⟨rfl, rfl⟩⟩, Below.refl _ _⟩
  case round =>
    obtain ⟨k, hk, rfl, HK, hbel⟩ := hrel
    by_cases hlt : k < n
    · obtain ⟨b, off, cs, rfl, hb, hq, hcell⟩ := IsArr.at (HZ.out.below (QSt.lift (hbel.mono hB)) (hbel.mono hB)) hlt (show k < l.length by omega)
      have hws := hbel.size
      have hbr : b < wr.heap.size := by omega
      have ht : (l.take (k + 1)).map St.name = (l.take k).map St.name ++ [(l[k]'(by omega)).name] := by rw [List.take_succ_eq_append_getElem (by omega), List.map_append]; rfl
      have hml : ((l.take k).map St.name).length = k := by simp; omega
      obtain ⟨x, hx⟩ : ∃ x, l[k]'(by omega) = x := ⟨_, rfl⟩
      rw [hx] at hq ht
      obtain ⟨pa, pn, pc, pa', pn', pc', rfl, hp1, hp2, hp3, hp4, hp5, hp6⟩ := hq
      clear hp5 hp6
      have c0 : wr.cell? ⟨b, off + k * 3, none⟩ = some (.string x.name) := hcell 0 _ rfl
      have c1 : wr.cell? ⟨b, off + k * 3 + 1, none⟩ = some (.slice pa pn pc) := hcell 1 _ rfl
      have c2 : wr.cell? ⟨b, off + k * 3 + 1 + 1, none⟩ = some (.slice pa' pn' pc') := hcell 2 _ rfl
      have HT := hidOf ht
      have how := HK.out
      unfold OwnS at how
      rw [hml] at how
      have HOW := hidOf how
      have HCL := hidOf (fun W => stateName_any x.name pa pn pc pa' pn' pc' W)
      clear how hcell hx ht
      go_wp2_with fail
      refine (HCL.out _).mono ?_
      rintro e w1 ⟨rfl, hb1⟩
      have hB1 : Below wr.heap.size wr w1 := ((Below.refl _ _).alloc (Nat.le_refl _) _).trans (hb1.mono (by simp))
      have HBW : Hid (Below w.heap.size w w1) := hbel.trans (hB1.mono hws)
      have HO1 := hidOf (own_of_block HOW.out (fun q hq => hB1.block q (World.ownsRow.lt HOW.out q hq).2))
      have hs1 := hB1.size
      clear hb1 hB1
      go_wp2_with (at_builtin; (refine wpList_append_own _ rfl (.tmp 14) (.tmp 18) 28 rfl w.heap.size 9 i0 (.string ByteArray.empty) 1 16 Tryz.underlying28 hi hz0 hz1 hz2 rfl (by decide) _ k (((l.take k).map St.name).map Value.string) rfl (by exact (HO1.out.alloc _)) ⟨w1.heap.size, 0, none⟩ 1 1 [.string x.name] rfl rfl (by exact one_new _ _ _) (by intro u hu; simp at hu; subst hu; rfl) (by unfold maxLen; omega) (by omega) (by simp; omega) ?_))
      intro v' w2 hown' hgrow' _
      have HB2 : Hid (Below w.heap.size w w2) := (HBW.out.alloc (by omega) _).grown hgrow' (by simp; omega) (fun q hq => (World.ownsRow.lt HO1.out q hq).1)
      have HO2 : Hid (OwnS w.heap.size w2 v' ((l.take k).map St.name ++ [x.name])) := by
        show World.ownsRow _ _ _ _ _ _ _
        rw [List.length_append, hml, List.map_append]
        have e : List.take k (List.map (Value.string ∘ St.name) l) = ((l.take k).map St.name).map Value.string := by simp [List.map_take]
        first
          | exact hown'
          | (rw [e] at hown'; exact hown')
      clear hown' hgrow'
      go_wp2_with fail
      go_roundw
      case rel => exact ⟨k + 1, by omega, by go_num, by show OwnS _ _ _ _; rw [HT.out]; exact HO2.out, HB2.out⟩
      case measure => simp [intOf]; omega
    · have : k = n := by omega
      subst this
      rw [List.take_of_length_le (by omega)] at HK
      go_wp2_with fail
      go_ret
      exact ⟨_, rfl, HK.out, hbel⟩
end Go.Proofs.YtchemhjcknkbgaaGreatDoor
