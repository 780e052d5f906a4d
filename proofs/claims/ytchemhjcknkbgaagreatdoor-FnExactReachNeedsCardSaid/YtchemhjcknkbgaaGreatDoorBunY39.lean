/- The program's portNames. -/
import Derived.Test.YtchemhjcknkbgaaGreatDoorImplNames2
import Derived.Test.YtchemhjcknkbgaaGreatDoorBunY32
import Derived.Deep.RegionHeld3
namespace Go.Proofs.YtchemhjcknkbgaaGreatDoor
open Go Go.RowKit Go.PlainAid
set_option linter.unusedSimpArgs false
set_option linter.unusedVariables false

set_option maxHeartbeats 1600000 in
set_option maxRecDepth 100000 in
theorem portNames_any (B : Nat) (a : Option Addr) (n c : Nat) (ps : List Pt) (w : World) (hB : B ≤ w.heap.size) (hn : n ≤ 1048576) (hw : wsum wtPt ps ≤ 1048576) (hz : IsArr 2 QPt B w a n ps) :
    Calls Tryz.prog 85 #[.slice a n c] w fun e w' => ∃ v, e = .returned v ∧ OwnS w.heap.size w' v (valsM ps) ∧ Below w.heap.size w w' := by
  obtain ⟨i0, hi, hz0, hz1, hz2⟩ := info_parts infoStr'
  have hlen := hz.1
  have HZ := hidOf hz
  clear hz
  go_enter Tryz.func85, Tryz.ntmps85
  go_wp2_with fail
  go_loopw [3, 10] (fun u i wr => ∃ k : Nat, k ≤ n ∧ i = .int .i64 k ∧ Hid (OwnS w.heap.size wr u (valsM (ps.take k))) ∧ Below w.heap.size w wr) (fun _ i _ => n - (intOf i).toNat)
  case atStart => exact ⟨0, Nat.zero_le _, rfl, ⟨rfl, .inl ⟨rfl, rfl⟩⟩, Below.refl _ _⟩
  case round =>
    obtain ⟨k, hk, rfl, HK, hbel⟩ := hrel
    by_cases hlt : k < n
    · obtain ⟨b, off, cs, rfl, hb, hq, hcell⟩ := IsArr.at (HZ.out.below (QPt.lift (hbel.mono hB)) (hbel.mono hB)) hlt (show k < ps.length by omega)
      have hws := hbel.size
      have hbr : b < wr.heap.size := by omega
      have ht := valsM_take ps (show k < ps.length by omega)
      have h1 := valsM_len ps k (by omega)
      have h2 := wsum_take wtPt ps (show k < ps.length by omega)
      have h3 := wsum_le wtPt ps (k + 1)
      obtain ⟨x, hx⟩ : ∃ x, ps[k]'(by omega) = x := ⟨_, rfl⟩
      rw [hx] at hq ht h2
      have e1 : wtPt x = x.name.size + (x.vals.length + wsum wtS x.vals) := rfl
      obtain ⟨pa, pn, pc, rfl, hp1, hp2, hp3⟩ := hq
      have hpl := hp3.1
      have c0 : wr.cell? ⟨b, off + k * 2, none⟩ = some (.string x.name) := hcell 0 _ rfl
      have c1 : wr.cell? ⟨b, off + k * 2 + 1, none⟩ = some (.slice pa pn pc) := hcell 1 _ rfl
      have HT := hidOf ht
      have HP3 := hidOf hp3
      have hoN : (valsM (ps.take k)).length + pn ≤ 1048576 := by omega
      obtain ⟨o, ho⟩ : ∃ o, valsM (ps.take k) = o := ⟨_, rfl⟩
      rw [ho] at HK HT hoN
      have HB0 : Hid (Below wr.heap.size wr (wr.alloc (.cells #[.string x.name, .slice pa pn pc] 92))) := (Below.refl _ _).alloc (Nat.le_refl _) _
      clear hcell hp3 hx ht ho h1 h2 h3 e1
      go_wp2_with fail
      go_loopw [3, 17] (fun u i wi => ∃ j : Nat, j ≤ pn ∧ i = .int .i64 j ∧ Hid (OwnS w.heap.size wi u (addM o (x.vals.take j))) ∧ Below w.heap.size w wi ∧ Below B wr wi) (fun _ i _ => pn - (intOf i).toNat)
      case atStart => exact ⟨0, Nat.zero_le _, rfl, HK.out.keep HB0.out, hbel.trans (HB0.out.mono hws), HB0.out.mono (by omega)⟩
      case round =>
        obtain ⟨j, hj, rfl, HJ, hbi, hbB⟩ := hrel
        have hwi := hbi.size
        by_cases hlt2 : j < pn
        · rcases (HP3.out.below hbB).2 with h0 | ⟨b', off', rfl, hb', hc'⟩
          · omega
          have d0 := hc' j (by omega)
          obtain ⟨y, hy⟩ : ∃ y, x.vals[j]'(by omega) = y := ⟨_, rfl⟩
          rw [hy] at d0
          have hbr' : b' < wr.heap.size := by omega
          have HT2 : Hid (addM o (x.vals.take (j + 1)) = addS (addM o (x.vals.take j)) y) := by
            show _ = _
            rw [← hy]; exact addM_take o x.vals (by omega)
          obtain ⟨cur, hcur⟩ : ∃ cur, addM o (x.vals.take j) = cur := ⟨_, rfl⟩
          have hcl : cur.length ≤ o.length + j := by
            rw [← hcur]
            have := addM_len o (x.vals.take j)
            simp at this
            omega
          rw [hcur] at HJ HT2
          obtain ⟨ua, uc, eu, huc, huz, hub⟩ := HJ.out.form
          have HC := hidOf (containsS_any wr.heap.size ua cur.length uc cur y wr (by omega) huz)
          obtain ⟨m, hm⟩ : ∃ m, cur.length = m := ⟨_, rfl⟩
          have HM := hidOf hm
          rw [hm] at HC hcl eu huc
          subst eu
          obtain ⟨M, hM⟩ : ∃ M, decide (0 ≤ findM cur y) = M := ⟨_, rfl⟩
          have HMM := hidOf hM
          rw [hM] at HC
          have HOW : Hid (wr.ownsRow w.heap.size 9 1 (.slice ua m uc) m (cur.map Value.string)) := by
            have := HJ.out
            unfold OwnS at this
            rw [HM.out] at this
            exact this
          clear hc' hy huz hm hM hcur
          cases M with
          | true =>
            have hadd : addS cur y = cur := by unfold addS; rw [if_neg (by have := of_decide_eq_true HMM.out; omega)]
            have HADD := hidOf hadd
            clear hadd
            go_wp2_with (go_at_call 139; refine HC.out.mono ?_; rintro e w' ⟨rfl, hw'⟩; rw [hw']; clear hw' w')
            go_roundw
            case rel => exact ⟨j + 1, by omega, by go_num, by show OwnS _ _ _ _; rw [HT2.out, HADD.out]; exact HJ.out, hbi, hbB⟩
            case measure => simp [intOf]; omega
          | false =>
            have hadd : addS cur y = cur ++ [y] := by unfold addS; rw [if_pos (by have := of_decide_eq_false HMM.out; omega)]
            have HADD := hidOf hadd
            clear hadd
            go_wp2_with (first
              | (go_at_call 139; refine HC.out.mono ?_; rintro e w' ⟨rfl, hw'⟩; rw [hw']; clear hw' w')
              | (at_builtin; (refine wpList_append_own _ rfl (.tmp 25) (.tmp 27) 28 rfl w.heap.size 9 i0 (.string ByteArray.empty) 1 16 Tryz.underlying28 hi hz0 hz1 hz2 rfl (by decide) _ m (cur.map Value.string) rfl (by exact (HOW.out.alloc _)) ⟨wr.heap.size, 0, none⟩ 1 1 [.string y] rfl rfl (by exact one_new _ _ _) (by intro u hu; simp at hu; subst hu; rfl) (by unfold maxLen; omega) (by omega) (by simp; omega) ?_)))
            intro v' w2 hown' hgrow' _
            have HG : Hid (Below w.heap.size wr w2) := ((Below.refl w.heap.size wr).alloc hwi _).grown hgrow' (by simp; omega) (fun q hq => (World.ownsRow.lt HOW.out q hq).1)
            have HO2 : Hid (OwnS w.heap.size w2 v' (cur ++ [y])) := by
              show World.ownsRow _ _ _ _ _ _ _
              rw [List.length_append, HM.out, List.map_append]
              exact hown'
            clear hown' hgrow'
            go_wp2_with fail
            go_roundw
            case rel => exact ⟨j + 1, by omega, by go_num, by show OwnS _ _ _ _; rw [HT2.out, HADD.out]; exact HO2.out, hbi.trans HG.out, hbB.trans (HG.out.mono hB)⟩
            case measure => simp [intOf]; omega
        · have : j = pn := by omega
          subst this
          rw [List.take_of_length_le (by omega)] at HJ
          go_wp2_with fail
          go_roundw
          case rel => exact ⟨k + 1, by omega, by go_num, by show OwnS _ _ _ _; rw [HT.out]; exact HJ.out, hbi⟩
          case measure => simp [intOf]; omega
    · have : k = n := by omega
      subst this
      rw [List.take_of_length_le (by omega)] at HK
      go_wp2_with fail
      go_ret
      exact ⟨_, rfl, HK.out, hbel⟩
end Go.Proofs.YtchemhjcknkbgaaGreatDoor

/- The law's comparisons of a block with a copy of it. -/
namespace Go.Proofs.YtchemhjcknkbgaaGreatDoor
open Go Go.RowKit Go.PlainAid
set_option linter.unusedSimpArgs false
set_option linter.unusedVariables false

set_option maxHeartbeats 800000 in
set_option maxRecDepth 100000 in
theorem eqPort_same (B : Nat) (x : Pt) (hf : FewPt x) (a : Option Addr) (n c : Nat) (a' : Option Addr) (n' c' : Nat) (w : World) (hB : B ≤ w.heap.size) (hv : IsStrs B w a n x.vals) (hv' : IsStrs B w a' n' x.vals) :
    Calls Tryz.prog 88 #[.agg #[.string x.name, .slice a n c], .agg #[.string x.name, .slice a' n' c']] w fun e w' => e = .returned (.bool true) ∧ Below w.heap.size w w' := by
  obtain ⟨xn, xv⟩ := x
  unfold FewPt at hf
  simp only at hf hv hv' ⊢
  have l1 := hv.1
  have l2 := hv'.1
  have hnn : n' = n := by omega
  subst hnn
  have HE : Hid (∀ W, Below w.heap.size w W → Calls Tryz.prog 9 #[.slice a n' c, .slice a' n' c'] W fun e w' => e = .returned (.bool true) ∧ Below W.heap.size W w') := fun W hb => eqStringS_same B a a' n' c c' xv W (by omega) (by have := hb.size; omega) (hv.below (hb.mono hB)) (hv'.below (hb.mono hB))
  have HB0 : Hid (Below w.heap.size w ((w.alloc (.cells #[.string xn, .slice a n' c] 92)).alloc (.cells #[.string xn, .slice a' n' c'] 92))) := ((Below.refl _ _).alloc (Nat.le_refl _) _).alloc (by simp) _
  clear hv hv'
  go_enter Tryz.func88, Tryz.ntmps88
  go_wp2_with (go_at_call 9; refine (HE.out _ (by first | exact HB0.out | go_grown)).mono ?_; rintro e w1 ⟨rfl, hb1⟩)
  go_ret
  refine ⟨ret_bool (by simp), ?_⟩
  exact HB0.out.trans (hb1.mono HB0.out.size)

set_option maxHeartbeats 800000 in
theorem eqVar_same (x : Vr) (w : World) : Calls Tryz.prog 89 #[.agg #[.string x.name, .int .i64 x.num], .agg #[.string x.name, .int .i64 x.num]] w fun e w' => e = .returned (.bool true) ∧ Below w.heap.size w w' := by
  obtain ⟨y0, y1⟩ := x
  simp only
  go_enter Tryz.func89, Tryz.ntmps89
  go_wp2
  go_ret
  refine ⟨ret_bool (by simp), ?_⟩
  go_grown

set_option maxHeartbeats 1600000 in
set_option maxRecDepth 100000 in
theorem eqVarS_same (B : Nat) (a a' : Option Addr) (n cap cap' : Nat) (l : List Vr) (w : World) (hn : n ≤ 1048576) (hB : B ≤ w.heap.size) (hsm : ∀ x ∈ l, FewVr x) (hz : IsArr 2 QVr B w a n l) (hz' : IsArr 2 QVr B w a' n l) :
    Calls Tryz.prog 44 #[.slice a n cap, .slice a' n cap'] w fun e w' => e = .returned (.bool true) ∧ Below w.heap.size w w' := by
  have hlen := hz.1
  have HZ := hidOf hz
  have HZ' := hidOf hz'
  have HSM := hidOf hsm
  clear hz hz' hsm
  go_enter Tryz.func44, Tryz.ntmps44
  go_wp2
  go_loopw [5] (fun i wr => ∃ k : Nat, k ≤ n ∧ i = .int .i64 k ∧ Below w.heap.size w wr) (fun i _ => n - (intOf i).toNat)
  case atStart => exact ⟨0, Nat.zero_le _, rfl, Below.refl _ _⟩
  case round =>
    obtain ⟨k, hk, rfl, hbel⟩ := hrel
    by_cases hlt : k < n
    · obtain ⟨b, off, cs, rfl, hb, hq, hcell⟩ := IsArr.at (HZ.out.below (QVr.lift (hbel.mono hB)) (hbel.mono hB)) hlt (show k < l.length by omega)
      obtain ⟨b', off', cs', rfl, hb', hq', hcell'⟩ := IsArr.at (HZ'.out.below (QVr.lift (hbel.mono hB)) (hbel.mono hB)) hlt (show k < l.length by omega)
      have hbr : b < wr.heap.size := by have := hbel.size; omega
      have hbr' : b' < wr.heap.size := by have := hbel.size; omega
      have hbB : B ≤ wr.heap.size := by have := hbel.size; omega
      have hsmx := HSM.out (l[k]'(by omega)) (List.getElem_mem _)
      obtain ⟨x, hx⟩ : ∃ x, l[k]'(by omega) = x := ⟨_, rfl⟩
      rw [hx] at hq hq' hsmx
      unfold QVr at hq
      subst hq
      unfold QVr at hq'
      subst hq'
      have c0 : wr.cell? ⟨b, off + k * 2, none⟩ = some (.string x.name) := hcell 0 _ rfl
      have c1 : wr.cell? ⟨b, off + k * 2 + 1, none⟩ = some (.int .i64 x.num) := hcell 1 _ rfl
      have d0 : wr.cell? ⟨b', off' + k * 2, none⟩ = some (.string x.name) := hcell' 0 _ rfl
      have d1 : wr.cell? ⟨b', off' + k * 2 + 1, none⟩ = some (.int .i64 x.num) := hcell' 1 _ rfl
      have HE : Hid (∀ W, Calls Tryz.prog 89 #[.agg #[.string x.name, .int .i64 x.num], .agg #[.string x.name, .int .i64 x.num]] W fun e w' => e = .returned (.bool true) ∧ Below W.heap.size W w') := fun W => eqVar_same x W
      clear hcell hcell' hx hsmx
      go_wp2_with fail
      go_region_held3 (fun w' => w'.cell? ⟨b, off + k * 2, none⟩ = some (.string x.name) ∧ w'.cell? ⟨b, off + k * 2 + 1, none⟩ = some (.int .i64 x.num) ∧ w'.cell? ⟨b', off' + k * 2, none⟩ = some (.string x.name) ∧ w'.cell? ⟨b', off' + k * 2 + 1, none⟩ = some (.int .i64 x.num)) (simp [go_sem, *])
        (first | (go_at_call 89; refine (HE.out _).mono ?_; rintro e w' ⟨rfl, hb1⟩; replace hb1 := undrew hb1; obtain ⟨hc1, hf1⟩ := bcell hb1))
      go_wp2_with fail
      go_roundw
      case rel => exact ⟨k + 1, by omega, by go_num, hbel.trans (hb1.mono hbel.size)⟩
      case measure => simp [intOf]; omega
    · go_wp2_with fail
      go_ret
      exact ⟨rfl, hbel⟩

set_option maxHeartbeats 800000 in
theorem eqMove_same (x : Mo) (w : World) : Calls Tryz.prog 185 #[.agg #[.string x.event, .string x.cond, .string x.to], .agg #[.string x.event, .string x.cond, .string x.to]] w fun e w' => e = .returned (.bool true) ∧ Below w.heap.size w w' := by
  obtain ⟨y0, y1, y2⟩ := x
  simp only
  go_enter Tryz.func185, Tryz.ntmps185
  go_wp2
  go_ret
  refine ⟨ret_bool (by simp), ?_⟩
  go_grown

set_option maxHeartbeats 1600000 in
set_option maxRecDepth 100000 in
theorem eqMoveS_same (B : Nat) (a a' : Option Addr) (n cap cap' : Nat) (l : List Mo) (w : World) (hn : n ≤ 1048576) (hB : B ≤ w.heap.size) (hsm : ∀ x ∈ l, FewMo x) (hz : IsArr 3 QMo B w a n l) (hz' : IsArr 3 QMo B w a' n l) :
    Calls Tryz.prog 140 #[.slice a n cap, .slice a' n cap'] w fun e w' => e = .returned (.bool true) ∧ Below w.heap.size w w' := by
  have hlen := hz.1
  have HZ := hidOf hz
  have HZ' := hidOf hz'
  have HSM := hidOf hsm
  clear hz hz' hsm
  go_enter Tryz.func140, Tryz.ntmps140
  go_wp2
  go_loopw [5] (fun i wr => ∃ k : Nat, k ≤ n ∧ i = .int .i64 k ∧ Below w.heap.size w wr) (fun i _ => n - (intOf i).toNat)
  case atStart => exact ⟨0, Nat.zero_le _, rfl, Below.refl _ _⟩
  case round =>
    obtain ⟨k, hk, rfl, hbel⟩ := hrel
    by_cases hlt : k < n
    · obtain ⟨b, off, cs, rfl, hb, hq, hcell⟩ := IsArr.at (HZ.out.below (QMo.lift (hbel.mono hB)) (hbel.mono hB)) hlt (show k < l.length by omega)
      obtain ⟨b', off', cs', rfl, hb', hq', hcell'⟩ := IsArr.at (HZ'.out.below (QMo.lift (hbel.mono hB)) (hbel.mono hB)) hlt (show k < l.length by omega)
      have hbr : b < wr.heap.size := by have := hbel.size; omega
      have hbr' : b' < wr.heap.size := by have := hbel.size; omega
      have hbB : B ≤ wr.heap.size := by have := hbel.size; omega
      have hsmx := HSM.out (l[k]'(by omega)) (List.getElem_mem _)
      obtain ⟨x, hx⟩ : ∃ x, l[k]'(by omega) = x := ⟨_, rfl⟩
      rw [hx] at hq hq' hsmx
      unfold QMo at hq
      subst hq
      unfold QMo at hq'
      subst hq'
      have c0 : wr.cell? ⟨b, off + k * 3, none⟩ = some (.string x.event) := hcell 0 _ rfl
      have c1 : wr.cell? ⟨b, off + k * 3 + 1, none⟩ = some (.string x.cond) := hcell 1 _ rfl
      have c2 : wr.cell? ⟨b, off + k * 3 + 1 + 1, none⟩ = some (.string x.to) := hcell 2 _ rfl
      have d0 : wr.cell? ⟨b', off' + k * 3, none⟩ = some (.string x.event) := hcell' 0 _ rfl
      have d1 : wr.cell? ⟨b', off' + k * 3 + 1, none⟩ = some (.string x.cond) := hcell' 1 _ rfl
      have d2 : wr.cell? ⟨b', off' + k * 3 + 1 + 1, none⟩ = some (.string x.to) := hcell' 2 _ rfl
      have HE : Hid (∀ W, Calls Tryz.prog 185 #[.agg #[.string x.event, .string x.cond, .string x.to], .agg #[.string x.event, .string x.cond, .string x.to]] W fun e w' => e = .returned (.bool true) ∧ Below W.heap.size W w') := fun W => eqMove_same x W
      clear hcell hcell' hx hsmx
      go_wp2_with fail
      go_region_held3 (fun w' => w'.cell? ⟨b, off + k * 3, none⟩ = some (.string x.event) ∧ w'.cell? ⟨b, off + k * 3 + 1, none⟩ = some (.string x.cond) ∧ w'.cell? ⟨b, off + k * 3 + 1 + 1, none⟩ = some (.string x.to) ∧ w'.cell? ⟨b', off' + k * 3, none⟩ = some (.string x.event) ∧ w'.cell? ⟨b', off' + k * 3 + 1, none⟩ = some (.string x.cond) ∧ w'.cell? ⟨b', off' + k * 3 + 1 + 1, none⟩ = some (.string x.to)) (simp [go_sem, *])
        (first | (go_at_call 185; refine (HE.out _).mono ?_; rintro e w' ⟨rfl, hb1⟩; replace hb1 := undrew hb1; obtain ⟨hc1, hf1⟩ := bcell hb1))
      go_wp2_with fail
      go_roundw
      case rel => exact ⟨k + 1, by omega, by go_num, hbel.trans (hb1.mono hbel.size)⟩
      case measure => simp [intOf]; omega
    · go_wp2_with fail
      go_ret
      exact ⟨rfl, hbel⟩

set_option maxHeartbeats 800000 in
theorem eqAct_same (x : Ac) (w : World) : Calls Tryz.prog 186 #[.agg #[.int .i64 x.kind, .string x.name, .string x.sum], .agg #[.int .i64 x.kind, .string x.name, .string x.sum]] w fun e w' => e = .returned (.bool true) ∧ Below w.heap.size w w' := by
  obtain ⟨y0, y1, y2⟩ := x
  simp only
  go_enter Tryz.func186, Tryz.ntmps186
  go_wp2
  go_ret
  refine ⟨ret_bool (by simp), ?_⟩
  go_grown

set_option maxHeartbeats 1600000 in
set_option maxRecDepth 100000 in
theorem eqActS_same (B : Nat) (a a' : Option Addr) (n cap cap' : Nat) (l : List Ac) (w : World) (hn : n ≤ 1048576) (hB : B ≤ w.heap.size) (hsm : ∀ x ∈ l, FewAc x) (hz : IsArr 3 QAc B w a n l) (hz' : IsArr 3 QAc B w a' n l) :
    Calls Tryz.prog 141 #[.slice a n cap, .slice a' n cap'] w fun e w' => e = .returned (.bool true) ∧ Below w.heap.size w w' := by
  have hlen := hz.1
  have HZ := hidOf hz
  have HZ' := hidOf hz'
  have HSM := hidOf hsm
  clear hz hz' hsm
  go_enter Tryz.func141, Tryz.ntmps141
  go_wp2
  go_loopw [5] (fun i wr => ∃ k : Nat, k ≤ n ∧ i = .int .i64 k ∧ Below w.heap.size w wr) (fun i _ => n - (intOf i).toNat)
  case atStart => exact ⟨0, Nat.zero_le _, rfl, Below.refl _ _⟩
  case round =>
    obtain ⟨k, hk, rfl, hbel⟩ := hrel
    by_cases hlt : k < n
    · obtain ⟨b, off, cs, rfl, hb, hq, hcell⟩ := IsArr.at (HZ.out.below (QAc.lift (hbel.mono hB)) (hbel.mono hB)) hlt (show k < l.length by omega)
      obtain ⟨b', off', cs', rfl, hb', hq', hcell'⟩ := IsArr.at (HZ'.out.below (QAc.lift (hbel.mono hB)) (hbel.mono hB)) hlt (show k < l.length by omega)
      have hbr : b < wr.heap.size := by have := hbel.size; omega
      have hbr' : b' < wr.heap.size := by have := hbel.size; omega
      have hbB : B ≤ wr.heap.size := by have := hbel.size; omega
      have hsmx := HSM.out (l[k]'(by omega)) (List.getElem_mem _)
      obtain ⟨x, hx⟩ : ∃ x, l[k]'(by omega) = x := ⟨_, rfl⟩
      rw [hx] at hq hq' hsmx
      unfold QAc at hq
      subst hq
      unfold QAc at hq'
      subst hq'
      have c0 : wr.cell? ⟨b, off + k * 3, none⟩ = some (.int .i64 x.kind) := hcell 0 _ rfl
      have c1 : wr.cell? ⟨b, off + k * 3 + 1, none⟩ = some (.string x.name) := hcell 1 _ rfl
      have c2 : wr.cell? ⟨b, off + k * 3 + 1 + 1, none⟩ = some (.string x.sum) := hcell 2 _ rfl
      have d0 : wr.cell? ⟨b', off' + k * 3, none⟩ = some (.int .i64 x.kind) := hcell' 0 _ rfl
      have d1 : wr.cell? ⟨b', off' + k * 3 + 1, none⟩ = some (.string x.name) := hcell' 1 _ rfl
      have d2 : wr.cell? ⟨b', off' + k * 3 + 1 + 1, none⟩ = some (.string x.sum) := hcell' 2 _ rfl
      have HE : Hid (∀ W, Calls Tryz.prog 186 #[.agg #[.int .i64 x.kind, .string x.name, .string x.sum], .agg #[.int .i64 x.kind, .string x.name, .string x.sum]] W fun e w' => e = .returned (.bool true) ∧ Below W.heap.size W w') := fun W => eqAct_same x W
      clear hcell hcell' hx hsmx
      go_wp2_with fail
      go_region_held3 (fun w' => w'.cell? ⟨b, off + k * 3, none⟩ = some (.int .i64 x.kind) ∧ w'.cell? ⟨b, off + k * 3 + 1, none⟩ = some (.string x.name) ∧ w'.cell? ⟨b, off + k * 3 + 1 + 1, none⟩ = some (.string x.sum) ∧ w'.cell? ⟨b', off' + k * 3, none⟩ = some (.int .i64 x.kind) ∧ w'.cell? ⟨b', off' + k * 3 + 1, none⟩ = some (.string x.name) ∧ w'.cell? ⟨b', off' + k * 3 + 1 + 1, none⟩ = some (.string x.sum)) (simp [go_sem, *])
        (first | (go_at_call 186; refine (HE.out _).mono ?_; rintro e w' ⟨rfl, hb1⟩; replace hb1 := undrew hb1; obtain ⟨hc1, hf1⟩ := bcell hb1))
      go_wp2_with fail
      go_roundw
      case rel => exact ⟨k + 1, by omega, by go_num, hbel.trans (hb1.mono hbel.size)⟩
      case measure => simp [intOf]; omega
    · go_wp2_with fail
      go_ret
      exact ⟨rfl, hbel⟩

set_option maxHeartbeats 1600000 in
set_option maxRecDepth 100000 in
theorem eqPortS_same (B : Nat) (a a' : Option Addr) (n cap cap' : Nat) (l : List Pt) (w : World) (hn : n ≤ 1048576) (hB : B ≤ w.heap.size) (hsm : ∀ x ∈ l, FewPt x) (hz : IsArr 2 QPt B w a n l) (hz' : IsArr 2 QPt B w a' n l) :
    Calls Tryz.prog 43 #[.slice a n cap, .slice a' n cap'] w fun e w' => e = .returned (.bool true) ∧ Below w.heap.size w w' := by
  have hlen := hz.1
  have HZ := hidOf hz
  have HZ' := hidOf hz'
  have HSM := hidOf hsm
  clear hz hz' hsm
  go_enter Tryz.func43, Tryz.ntmps43
  go_wp2
  go_loopw [5] (fun i wr => ∃ k : Nat, k ≤ n ∧ i = .int .i64 k ∧ Below w.heap.size w wr) (fun i _ => n - (intOf i).toNat)
  case atStart => exact ⟨0, Nat.zero_le _, rfl, Below.refl _ _⟩
  case round =>
    obtain ⟨k, hk, rfl, hbel⟩ := hrel
    by_cases hlt : k < n
    · obtain ⟨b, off, cs, rfl, hb, hq, hcell⟩ := IsArr.at (HZ.out.below (QPt.lift (hbel.mono hB)) (hbel.mono hB)) hlt (show k < l.length by omega)
      obtain ⟨b', off', cs', rfl, hb', hq', hcell'⟩ := IsArr.at (HZ'.out.below (QPt.lift (hbel.mono hB)) (hbel.mono hB)) hlt (show k < l.length by omega)
      have hbr : b < wr.heap.size := by have := hbel.size; omega
      have hbr' : b' < wr.heap.size := by have := hbel.size; omega
      have hbB : B ≤ wr.heap.size := by have := hbel.size; omega
      have hsmx := HSM.out (l[k]'(by omega)) (List.getElem_mem _)
      obtain ⟨x, hx⟩ : ∃ x, l[k]'(by omega) = x := ⟨_, rfl⟩
      rw [hx] at hq hq' hsmx
      obtain ⟨pa, pn, pc, rfl, hp1, hp2, hp3⟩ := hq
      obtain ⟨qa, qn, qc, rfl, hq1, hq2, hq3⟩ := hq'
      have c0 : wr.cell? ⟨b, off + k * 2, none⟩ = some (.string x.name) := hcell 0 _ rfl
      have c1 : wr.cell? ⟨b, off + k * 2 + 1, none⟩ = some (.slice pa pn pc) := hcell 1 _ rfl
      have d0 : wr.cell? ⟨b', off' + k * 2, none⟩ = some (.string x.name) := hcell' 0 _ rfl
      have d1 : wr.cell? ⟨b', off' + k * 2 + 1, none⟩ = some (.slice qa qn qc) := hcell' 1 _ rfl
      have HE : Hid (∀ W, Below wr.heap.size wr W → Calls Tryz.prog 88 #[.agg #[.string x.name, .slice pa pn pc], .agg #[.string x.name, .slice qa qn qc]] W fun e w' => e = .returned (.bool true) ∧ Below W.heap.size W w') := fun W hb => eqPort_same B x hsmx pa pn pc qa qn qc W (by have := hb.size; omega) (hp3.below (hb.mono hbB)) (hq3.below (hb.mono hbB))
      have hdr : Below wr.heap.size wr wr.drew := ⟨rfl, rfl, rfl, Nat.le_refl _, fun _ _ => rfl⟩
      clear hp3 hq3
      clear hcell hcell' hx hsmx
      go_wp2_with fail
      go_region_held3 (fun w' => w'.cell? ⟨b, off + k * 2, none⟩ = some (.string x.name) ∧ w'.cell? ⟨b, off + k * 2 + 1, none⟩ = some (.slice pa pn pc) ∧ w'.cell? ⟨b', off' + k * 2, none⟩ = some (.string x.name) ∧ w'.cell? ⟨b', off' + k * 2 + 1, none⟩ = some (.slice qa qn qc)) (simp [go_sem, *])
        (first | (go_at_call 88; refine (HE.out _ (by first | exact hdr | exact Below.refl _ _)).mono ?_; rintro e w' ⟨rfl, hb1⟩; replace hb1 := undrew hb1; obtain ⟨hc1, hf1⟩ := bcell hb1))
      go_wp2_with fail
      go_roundw
      case rel => exact ⟨k + 1, by omega, by go_num, hbel.trans (hb1.mono hbel.size)⟩
      case measure => simp [intOf]; omega
    · go_wp2_with fail
      go_ret
      exact ⟨rfl, hbel⟩

set_option maxHeartbeats 1600000 in
set_option maxRecDepth 100000 in
theorem eqState_same (B : Nat) (x : St) (hf : FewSt x) (a : Option Addr) (n c : Nat) (b : Option Addr) (m d : Nat) (a' : Option Addr) (n' c' : Nat) (b' : Option Addr) (m' d' : Nat) (w : World) (hB : B ≤ w.heap.size) (hm : IsArr 3 QMo B w a n x.moves) (ha : IsArr 3 QAc B w b m x.acts) (hm' : IsArr 3 QMo B w a' n' x.moves) (ha' : IsArr 3 QAc B w b' m' x.acts) :
    Calls Tryz.prog 90 #[.agg #[.string x.name, .slice a n c, .slice b m d], .agg #[.string x.name, .slice a' n' c', .slice b' m' d']] w fun e w' => e = .returned (.bool true) ∧ Below w.heap.size w w' := by
  obtain ⟨xn, xm, xa⟩ := x
  unfold FewSt at hf
  simp only at hf hm ha hm' ha' ⊢
  have l1 := hm.1
  have l2 := ha.1
  have hnn : n' = n := by have := hm'.1; omega
  have hmm : m' = m := by have := ha'.1; omega
  subst hnn
  subst hmm
  have HM : Hid (∀ W, Below w.heap.size w W → Calls Tryz.prog 140 #[.slice a n' c, .slice a' n' c'] W fun e w' => e = .returned (.bool true) ∧ Below W.heap.size W w') := fun W hb => eqMoveS_same B a a' n' c c' xm W (by omega) (by have := hb.size; omega) (fun _ _ => trivial) (hm.below (QMo.lift (hb.mono hB)) (hb.mono hB)) (hm'.below (QMo.lift (hb.mono hB)) (hb.mono hB))
  have HA : Hid (∀ W, Below w.heap.size w W → Calls Tryz.prog 141 #[.slice b m' d, .slice b' m' d'] W fun e w' => e = .returned (.bool true) ∧ Below W.heap.size W w') := fun W hb => eqActS_same B b b' m' d d' xa W (by omega) (by have := hb.size; omega) (fun _ _ => trivial) (ha.below (QAc.lift (hb.mono hB)) (hb.mono hB)) (ha'.below (QAc.lift (hb.mono hB)) (hb.mono hB))
  clear hm ha hm' ha'
  obtain ⟨W0, hW0⟩ : ∃ W0, W0 = (w.alloc (.cells #[.string xn, .slice a n' c, .slice b m' d] 65)).alloc (.cells #[.string xn, .slice a' n' c', .slice b' m' d'] 65) := ⟨_, rfl⟩
  have HB0 : Hid (Below w.heap.size w W0) := by
    show Below _ _ _
    rw [hW0]; exact ((Below.refl _ _).alloc (Nat.le_refl _) _).alloc (by simp) _
  have k1 : W0.cell? ⟨w.heap.size, 2, none⟩ = some (.slice b m' d) := by rw [hW0]; simp [go_sem]
  have k2 : W0.cell? ⟨w.heap.size + 1, 2, none⟩ = some (.slice b' m' d') := by rw [hW0]; simp [go_sem]
  have hz0 : W0.heap.size = w.heap.size + 1 + 1 := by rw [hW0]; simp
  have HW0 := hidOf hW0
  clear hW0
  go_enter Tryz.func90, Tryz.ntmps90
  go_wp2_with (first
    | (go_at_call 140; rw [← HW0.out]; refine (HM.out _ HB0.out).mono ?_; rintro e w1 ⟨rfl, hb1⟩; have m1 := (hb1.cell (p := ⟨w.heap.size, 2, none⟩) (by simp; omega)).trans k1; have m2 := (hb1.cell (p := ⟨w.heap.size + 1, 2, none⟩) (by simp; omega)).trans k2; have HB1 : Hid (Below w.heap.size w w1) := HB0.out.trans (hb1.mono HB0.out.size); have hz1 : w.heap.size + 1 < w1.heap.size := (by have := hb1.size; omega); clear hb1)
    | (go_at_call 141; refine (HA.out _ HB1.out).mono ?_; rintro e w2 ⟨rfl, hb2⟩; have HB2 : Hid (Below w.heap.size w w2) := HB1.out.trans (hb2.mono HB1.out.size); clear hb2))
  go_ret
  exact ⟨ret_bool (by simp), HB2.out⟩

set_option maxHeartbeats 1600000 in
set_option maxRecDepth 100000 in
theorem eqStateS_same (B : Nat) (a a' : Option Addr) (n cap cap' : Nat) (l : List St) (w : World) (hn : n ≤ 1048576) (hB : B ≤ w.heap.size) (hsm : ∀ x ∈ l, FewSt x) (hz : IsArr 3 QSt B w a n l) (hz' : IsArr 3 QSt B w a' n l) :
    Calls Tryz.prog 45 #[.slice a n cap, .slice a' n cap'] w fun e w' => e = .returned (.bool true) ∧ Below w.heap.size w w' := by
  have hlen := hz.1
  have HZ := hidOf hz
  have HZ' := hidOf hz'
  have HSM := hidOf hsm
  clear hz hz' hsm
  go_enter Tryz.func45, Tryz.ntmps45
  go_wp2
  go_loopw [5] (fun i wr => ∃ k : Nat, k ≤ n ∧ i = .int .i64 k ∧ Below w.heap.size w wr) (fun i _ => n - (intOf i).toNat)
  case atStart => exact ⟨0, Nat.zero_le _, rfl, Below.refl _ _⟩
  case round =>
    obtain ⟨k, hk, rfl, hbel⟩ := hrel
    by_cases hlt : k < n
    · obtain ⟨b, off, cs, rfl, hb, hq, hcell⟩ := IsArr.at (HZ.out.below (QSt.lift (hbel.mono hB)) (hbel.mono hB)) hlt (show k < l.length by omega)
      obtain ⟨b', off', cs', rfl, hb', hq', hcell'⟩ := IsArr.at (HZ'.out.below (QSt.lift (hbel.mono hB)) (hbel.mono hB)) hlt (show k < l.length by omega)
      have hbr : b < wr.heap.size := by have := hbel.size; omega
      have hbr' : b' < wr.heap.size := by have := hbel.size; omega
      have hbB : B ≤ wr.heap.size := by have := hbel.size; omega
      have hsmx := HSM.out (l[k]'(by omega)) (List.getElem_mem _)
      obtain ⟨x, hx⟩ : ∃ x, l[k]'(by omega) = x := ⟨_, rfl⟩
      rw [hx] at hq hq' hsmx
      obtain ⟨pa, pn, pc, ra, rn, rc, rfl, hp1, hp2, hp3, hp4, hp5, hp6⟩ := hq
      obtain ⟨qa, qn, qc, sa, sn, sc, rfl, hq1, hq2, hq3, hq4, hq5, hq6⟩ := hq'
      have c0 : wr.cell? ⟨b, off + k * 3, none⟩ = some (.string x.name) := hcell 0 _ rfl
      have c1 : wr.cell? ⟨b, off + k * 3 + 1, none⟩ = some (.slice pa pn pc) := hcell 1 _ rfl
      have c2 : wr.cell? ⟨b, off + k * 3 + 1 + 1, none⟩ = some (.slice ra rn rc) := hcell 2 _ rfl
      have d0 : wr.cell? ⟨b', off' + k * 3, none⟩ = some (.string x.name) := hcell' 0 _ rfl
      have d1 : wr.cell? ⟨b', off' + k * 3 + 1, none⟩ = some (.slice qa qn qc) := hcell' 1 _ rfl
      have d2 : wr.cell? ⟨b', off' + k * 3 + 1 + 1, none⟩ = some (.slice sa sn sc) := hcell' 2 _ rfl
      have HE : Hid (∀ W, Below wr.heap.size wr W → Calls Tryz.prog 90 #[.agg #[.string x.name, .slice pa pn pc, .slice ra rn rc], .agg #[.string x.name, .slice qa qn qc, .slice sa sn sc]] W fun e w' => e = .returned (.bool true) ∧ Below W.heap.size W w') := fun W hb => eqState_same B x hsmx pa pn pc ra rn rc qa qn qc sa sn sc W (by have := hb.size; omega) (hp5.below (QMo.lift (hb.mono hbB)) (hb.mono hbB)) (hp6.below (QAc.lift (hb.mono hbB)) (hb.mono hbB)) (hq5.below (QMo.lift (hb.mono hbB)) (hb.mono hbB)) (hq6.below (QAc.lift (hb.mono hbB)) (hb.mono hbB))
      have hdr : Below wr.heap.size wr wr.drew := ⟨rfl, rfl, rfl, Nat.le_refl _, fun _ _ => rfl⟩
      clear hp5 hp6 hq5 hq6
      clear hcell hcell' hx hsmx
      go_wp2_with fail
      go_region_held3 (fun w' => w'.cell? ⟨b, off + k * 3, none⟩ = some (.string x.name) ∧ w'.cell? ⟨b, off + k * 3 + 1, none⟩ = some (.slice pa pn pc) ∧ w'.cell? ⟨b, off + k * 3 + 1 + 1, none⟩ = some (.slice ra rn rc) ∧ w'.cell? ⟨b', off' + k * 3, none⟩ = some (.string x.name) ∧ w'.cell? ⟨b', off' + k * 3 + 1, none⟩ = some (.slice qa qn qc) ∧ w'.cell? ⟨b', off' + k * 3 + 1 + 1, none⟩ = some (.slice sa sn sc)) (simp [go_sem, *])
        (first | (go_at_call 90; refine (HE.out _ (by first | exact hdr | exact Below.refl _ _)).mono ?_; rintro e w' ⟨rfl, hb1⟩; replace hb1 := undrew hb1; obtain ⟨hc1, hf1⟩ := bcell hb1))
      go_wp2_with fail
      go_roundw
      case rel => exact ⟨k + 1, by omega, by go_num, hbel.trans (hb1.mono hbel.size)⟩
      case measure => simp [intOf]; omega
    · go_wp2_with fail
      go_ret
      exact ⟨rfl, hbel⟩

end Go.Proofs.YtchemhjcknkbgaaGreatDoor

/- The law's comparison of a block with a copy of it. -/
namespace Go.Proofs.YtchemhjcknkbgaaGreatDoor
open Go Go.RowKit Go.PlainAid
set_option linter.unusedSimpArgs false
set_option linter.unusedVariables false

set_option maxHeartbeats 3200000 in
set_option maxRecDepth 100000 in
theorem eqBlock_same (B : Nat) (v v' : BkV) (x : Bk) (w : World) (hB : B ≤ w.heap.size) (hf : FewBk x) (hx : IsBk B w v x) (hx' : IsBk B w v' x) :
    Calls Tryz.prog 10 #[v.val x.name, v'.val x.name] w fun e w' => e = .returned (.bool true) ∧ Below w.heap.size w w' := by
  obtain ⟨ai, ni, ci, ao, no, co, av, nv, cv, at_, nt, ct⟩ := v
  obtain ⟨pai, pni, pci, pao, pno, pco, pav, pnv, pcv, pat_, pnt, pct⟩ := v'
  obtain ⟨xn, xi, xo, xv, xs⟩ := x
  obtain ⟨⟨f1, f1'⟩, ⟨f2, f2'⟩, f3, ⟨f4, f4'⟩⟩ := hf
  obtain ⟨hins, houts, hvars, hstates, _⟩ := hx
  obtain ⟨hins', houts', hvars', hstates', _⟩ := hx'
  simp only at f1 f2 f3 f4 f1' f2' f4' hins houts hvars hstates hins' houts' hvars' hstates'
  have l1 := hins.1
  have l2 := houts.1
  have l3 := hvars.1
  have l4 := hstates.1
  have e1 : pni = ni := by have := hins'.1; omega
  have e2 : pno = no := by have := houts'.1; omega
  have e3 : pnv = nv := by have := hvars'.1; omega
  have e4 : pnt = nt := by have := hstates'.1; omega
  subst e1
  subst e2
  subst e3
  subst e4
  have T0 : Hid (∀ W, Below w.heap.size w W → Calls Tryz.prog 43 #[.slice ai pni ci, .slice pai pni pci] W fun e w' => e = .returned (.bool true) ∧ Below W.heap.size W w') := fun W hb => eqPortS_same B ai pai pni ci pci xi W (by omega) (by have := hb.size; omega) f1' (hins.below (QPt.lift (hb.mono hB)) (hb.mono hB)) (hins'.below (QPt.lift (hb.mono hB)) (hb.mono hB))
  have T1 : Hid (∀ W, Below w.heap.size w W → Calls Tryz.prog 43 #[.slice ao pno co, .slice pao pno pco] W fun e w' => e = .returned (.bool true) ∧ Below W.heap.size W w') := fun W hb => eqPortS_same B ao pao pno co pco xo W (by omega) (by have := hb.size; omega) f2' (houts.below (QPt.lift (hb.mono hB)) (hb.mono hB)) (houts'.below (QPt.lift (hb.mono hB)) (hb.mono hB))
  have T2 : Hid (∀ W, Below w.heap.size w W → Calls Tryz.prog 44 #[.slice av pnv cv, .slice pav pnv pcv] W fun e w' => e = .returned (.bool true) ∧ Below W.heap.size W w') := fun W hb => eqVarS_same B av pav pnv cv pcv xv W (by omega) (by have := hb.size; omega) (fun _ _ => trivial) (hvars.below (QVr.lift (hb.mono hB)) (hb.mono hB)) (hvars'.below (QVr.lift (hb.mono hB)) (hb.mono hB))
  have T3 : Hid (∀ W, Below w.heap.size w W → Calls Tryz.prog 45 #[.slice at_ pnt ct, .slice pat_ pnt pct] W fun e w' => e = .returned (.bool true) ∧ Below W.heap.size W w') := fun W hb => eqStateS_same B at_ pat_ pnt ct pct xs W (by omega) (by have := hb.size; omega) f4' (hstates.below (QSt.lift (hb.mono hB)) (hb.mono hB)) (hstates'.below (QSt.lift (hb.mono hB)) (hb.mono hB))
  clear hins houts hvars hstates hins' houts' hvars' hstates' f1' f2' f4'
  show Calls Tryz.prog 10 #[.agg #[.string xn, .slice ai pni ci, .slice ao pno co, .slice av pnv cv, .slice at_ pnt ct], .agg #[.string xn, .slice pai pni pci, .slice pao pno pco, .slice pav pnv pcv, .slice pat_ pnt pct]] w _
  obtain ⟨w0, hw0⟩ : ∃ W0, W0 = (w.alloc (.cells #[.string xn, .slice ai pni ci, .slice ao pno co, .slice av pnv cv, .slice at_ pnt ct] 34)).alloc (.cells #[.string xn, .slice pai pni pci, .slice pao pno pco, .slice pav pnv pcv, .slice pat_ pnt pct] 34) := ⟨_, rfl⟩
  have B0 : Hid (Below w.heap.size w w0) := by
    show Below _ _ _
    rw [hw0]; exact ((Below.refl _ _).alloc (Nat.le_refl _) _).alloc (by simp) _
  have hz0 : w0.heap.size = w.heap.size + 1 + 1 := by rw [hw0]; simp
  have A0 : BoxAt w.heap.size [.string xn, .slice ai pni ci, .slice ao pno co, .slice av pnv cv, .slice at_ pnt ct] w0 := by
    refine ⟨by omega, fun j u hu => ?_⟩
    have hj : j < 5 := (List.getElem?_eq_some_iff.1 hu).1
    have : j = 0 ∨ j = 1 ∨ j = 2 ∨ j = 3 ∨ j = 4 := by omega
    rw [hw0]
    rcases this with rfl | rfl | rfl | rfl | rfl <;> (simp at hu; subst hu; simp [go_sem])
  have P0 : BoxAt (w.heap.size + 1) [.string xn, .slice pai pni pci, .slice pao pno pco, .slice pav pnv pcv, .slice pat_ pnt pct] w0 := by
    refine ⟨by omega, fun j u hu => ?_⟩
    have hj : j < 5 := (List.getElem?_eq_some_iff.1 hu).1
    have : j = 0 ∨ j = 1 ∨ j = 2 ∨ j = 3 ∨ j = 4 := by omega
    rw [hw0]
    rcases this with rfl | rfl | rfl | rfl | rfl <;> (simp at hu; subst hu; simp [go_sem])
  have HA0 := hidOf A0
  have HP0 := hidOf P0
  have HW0 := hidOf hw0
  clear A0 P0 hw0
  go_enter Tryz.func10, Tryz.ntmps10
  go_wp2_with fail
  rw [← HW0.out]
  refine (T0.out w0 B0.out).mono ?_
  rintro e w1 ⟨rfl, b1⟩
  have B1 : Hid (Below w.heap.size w w1) := B0.out.trans (b1.mono B0.out.size)
  have HA1 := hidOf (HA0.out.below b1)
  have HP1 := hidOf (HP0.out.below b1)
  clear b1
  have x1 : w1.cell? ⟨w.heap.size, 2, none⟩ = some (.slice ao pno co) := (HA1.out.2 2 _ rfl).1
  have y1 : w1.cell? ⟨w.heap.size + 1, 2, none⟩ = some (.slice pao pno pco) := (HP1.out.2 2 _ rfl).1
  have z1 := HA1.out.1
  have zz1 := HP1.out.1
  go_wp2_with fail
  refine (T1.out w1 B1.out).mono ?_
  rintro e w2 ⟨rfl, b2⟩
  have B2 : Hid (Below w.heap.size w w2) := B1.out.trans (b2.mono B1.out.size)
  have HA2 := hidOf (HA1.out.below b2)
  have HP2 := hidOf (HP1.out.below b2)
  clear b2
  have x2 : w2.cell? ⟨w.heap.size, 3, none⟩ = some (.slice av pnv cv) := (HA2.out.2 3 _ rfl).1
  have y2 : w2.cell? ⟨w.heap.size + 1, 3, none⟩ = some (.slice pav pnv pcv) := (HP2.out.2 3 _ rfl).1
  have z2 := HA2.out.1
  have zz2 := HP2.out.1
  go_wp2_with fail
  refine (T2.out w2 B2.out).mono ?_
  rintro e w3 ⟨rfl, b3⟩
  have B3 : Hid (Below w.heap.size w w3) := B2.out.trans (b3.mono B2.out.size)
  have HA3 := hidOf (HA2.out.below b3)
  have HP3 := hidOf (HP2.out.below b3)
  clear b3
  have x3 : w3.cell? ⟨w.heap.size, 4, none⟩ = some (.slice at_ pnt ct) := (HA3.out.2 4 _ rfl).1
  have y3 : w3.cell? ⟨w.heap.size + 1, 4, none⟩ = some (.slice pat_ pnt pct) := (HP3.out.2 4 _ rfl).1
  have z3 := HA3.out.1
  have zz3 := HP3.out.1
  go_wp2_with fail
  refine (T3.out w3 B3.out).mono ?_
  rintro e w4 ⟨rfl, b4⟩
  have B4 : Hid (Below w.heap.size w w4) := B3.out.trans (b4.mono B3.out.size)
  have HA4 := hidOf (HA3.out.below b4)
  have HP4 := hidOf (HP3.out.below b4)
  clear b4
  go_wp2_with fail
  go_ret
  exact ⟨ret_bool (by simp), B4.out⟩
end Go.Proofs.YtchemhjcknkbgaaGreatDoor
