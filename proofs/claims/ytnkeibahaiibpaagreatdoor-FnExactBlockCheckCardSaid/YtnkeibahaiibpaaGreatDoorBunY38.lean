/- slices.Grow and slices.Concat at texts. -/
import Derived.Test.YtnkeibahaiibpaaGreatDoorBunY35
import Derived.Test.YtnkeibahaiibpaaGreatDoorBunY1
import Derived.Lib.AppendZeros
import Derived.Test.YtnkeibahaiibpaaGreatDoorBunY33
import Derived.Deep.RegionHeld3
namespace Go.Proofs.YtnkeibahaiibpaaGreatDoor
open Go Go.RowKit Go.PlainAid
set_option linter.unusedSimpArgs false
set_option linter.unusedVariables false

theorem ownS_nil (B : Nat) (w : World) : OwnS B w (.slice none 0 0) [] := ⟨rfl, .inl ⟨rfl, rfl⟩⟩
set_option maxHeartbeats 800000 in
set_option maxRecDepth 100000 in
theorem growS_any (n : Nat) (w : World) (hn : n ≤ 1000) :
    Calls Tryz.prog 155 #[.slice none 0 0, .int .i64 n] w fun e w' => ∃ v, e = .returned v ∧ OwnS w.heap.size w' v [] ∧ Below w.heap.size w w' := by
  have hw0 : IntKind.i64.wrap (n : Int) = n := IntWalk.i64_in _ ⟨by omega, by omega⟩
  by_cases h0 : n = 0
  · subst h0
    go_enter Tryz.func155, Tryz.ntmps155
    go_wp2_with fail
    go_ret
    exact ⟨_, rfl, ownS_nil _ _, Below.refl _ _⟩
  obtain ⟨i0, hi, hz0, hz1, hz2⟩ := info_parts infoStr'
  have hrun := Lib.run_append_nil_zeros (P := Tryz.prog) w 37 3 37 9 i0 (.string ByteArray.empty) .i64 .i64 Tryz.underlying37 Tryz.underlying3 hi hz0 n (by omega) (by omega) (by omega) (by rw [hz2]; omega)
  have hge := grownCap_ge w n 0 9
  have hle := grownCap_le_maxLen w n 0 9 (by unfold maxLen; omega)
  generalize grownCap w n 0 9 = cap' at *
  obtain ⟨cs, hcs⟩ : ∃ cs, Builtin.zeroCells (Value.string ByteArray.empty).cells n ++ Builtin.zeroCells (Value.string ByteArray.empty).cells (cap' - n) = cs := ⟨_, rfl⟩
  have hsz : cs.size = cap' * 1 := by
    rw [← hcs, Array.size_append, size_zeroCells, size_zeroCells]
    have : (Value.string ByteArray.empty).cells.size = 1 := rfl
    rw [this]; omega
  rw [hcs] at hrun
  have HR := hidOf hrun
  have hnI : (0 : Int) < n := by omega
  have HO : Hid (OwnS w.heap.size (w.drew.alloc (.cells cs 9)) (.slice (some ⟨w.heap.size, 0, none⟩) 0 cap') []) := by
    refine ⟨rfl, .inr ⟨w.heap.size, cap', cs, rfl, Nat.le_refl _, ?_, Nat.zero_le _, hle, hsz, by simp⟩⟩
    exact (show (w.heap.push (Obj.cells cs 9))[w.heap.size]? = some (Obj.cells cs 9) by simp)
  have hb0 : Below w.heap.size w (w.drew.alloc (.cells cs 9)) := by
    have := (Below.refl w.heap.size w.drew).alloc (Nat.le_refl _) (.cells cs 9)
    exact ⟨this.os, this.tape, this.output, this.size, this.block⟩
  have HB := hidOf hb0
  generalize w.drew.alloc (.cells cs 9) = W at *
  clear hrun hb0
  go_enter Tryz.func155, Tryz.ntmps155
  go_wp2_with (at_builtin; refine Lib.wpList_append_run _ rfl (.tmp 20) (.tmp 21) _ _ rfl _ _ rfl rfl _ _ HR.out ?_)
  go_wp2_with fail
  go_ret
  exact ⟨_, rfl, HO.out, HB.out⟩

def lensTo (Ls : List (List ByteArray)) (k : Nat) : Nat := ((Ls.take k).map List.length).sum
theorem lensTo_step (Ls : List (List ByteArray)) {k : Nat} (h : k < Ls.length) : lensTo Ls (k + 1) = lensTo Ls k + Ls[k].length := by
  unfold lensTo; rw [List.take_succ_eq_append_getElem h, List.map_append, List.sum_append]; simp
theorem lensTo_le (Ls : List (List ByteArray)) : ∀ d k, k + d = Ls.length → lensTo Ls k ≤ lensTo Ls Ls.length
  | 0, k, h => by rw [show k = Ls.length by omega]; exact Nat.le_refl _
  | d + 1, k, h => by
    have h1 := lensTo_le Ls d (k + 1) (by omega)
    rw [lensTo_step Ls (by omega)] at h1
    omega
theorem flatten_len (Ls : List (List ByteArray)) (k : Nat) : (Ls.take k).flatten.length = lensTo Ls k := by unfold lensTo; rw [List.length_flatten]
theorem flatten_step (Ls : List (List ByteArray)) {k : Nat} (h : k < Ls.length) : (Ls.take (k + 1)).flatten = (Ls.take k).flatten ++ Ls[k] := by
  rw [List.take_succ_eq_append_getElem h, List.flatten_append]; simp
set_option maxHeartbeats 1600000 in
set_option maxRecDepth 100000 in
theorem concatS_any (g m c : Nat) (Ls : List (List ByteArray)) (w : World) (hg : g < w.heap.size) (hm : Ls.length = m) (hm5 : m ≤ 5) (hsum : lensTo Ls Ls.length ≤ 1000)
    (hz : ∀ k, (h : k < Ls.length) → ∃ a c, w.cell? ⟨g, k, none⟩ = some (.slice a Ls[k].length c) ∧ IsStrs w.heap.size w a Ls[k].length Ls[k]) :
    Calls Tryz.prog 97 #[.slice (some ⟨g, 0, none⟩) m c] w fun e w' => ∃ v, e = .returned v ∧ OwnS w.heap.size w' v Ls.flatten ∧ Below w.heap.size w w' := by
  obtain ⟨i0, hi, hz0, hz1, hz2⟩ := info_parts infoStr'
  have HZ := hidOf hz
  have HM := hidOf hm
  clear hz
  go_enter Tryz.func97, Tryz.ntmps97
  go_wp2_with fail
  go_loopw [3, 11] (fun v i wr => ∃ k : Nat, k ≤ m ∧ i = .int .i64 k ∧ v = .int .i64 (lensTo Ls k : Nat) ∧ wr = w) (fun _ i _ => m - (intOf i).toNat)
  case atStart => exact ⟨0, Nat.zero_le _, rfl, rfl, rfl⟩
  case round =>
    obtain ⟨k, hk, rfl, rfl, rfl⟩ := hrel
    have hle := lensTo_le Ls (Ls.length - k) k (by omega)
    by_cases hlt : k < m
    · obtain ⟨a, c', hc, _⟩ := HZ.out k (by omega)
      have hst := lensTo_step Ls (show k < Ls.length by omega)
      have hle2 := lensTo_le Ls (Ls.length - (k + 1)) (k + 1) (by omega)
      obtain ⟨nk, hnk⟩ : ∃ n, (Ls[k]'(by omega)).length = n := ⟨_, rfl⟩
      obtain ⟨S, hS⟩ : ∃ n, lensTo Ls k = n := ⟨_, rfl⟩
      rw [hnk] at hc hst
      rw [hS] at hst ⊢
      have HS2 := hidOf hst
      have p1 : IntKind.i64.wrap ((S : Int) + nk) = (S : Int) + nk := IntWalk.i64_in _ ⟨by omega, by omega⟩
      have p2 : ¬ ((S : Int) + nk < 0) := by omega
      clear hst hle hle2 hsum hS hnk
      go_wp2_with fail
      go_roundw
      case rel => exact ⟨k + 1, by omega, by go_num, by rw [HS2.out]; push_cast; rfl, by first | rfl | trivial⟩
      case measure => simp [intOf]; omega
    · have hkm : k = m := by omega
      have HG := hidOf (growS_any (lensTo Ls k) wr (by omega))
      obtain ⟨S, hS⟩ : ∃ n, lensTo Ls k = n := ⟨_, rfl⟩
      rw [hS] at HG ⊢
      clear hle hS hkm
      go_wp2_with fail
      refine HG.out.mono ?_
      rintro e w1 ⟨v1, rfl, o1, b1⟩
      have HO1 := hidOf o1
      have HB1 := hidOf b1
      clear o1 b1 HG
      go_wp2_with fail
      clear hlt hk
      generalize hW : wr = W0 at *
      have HEQ := hidOf hW
      clear hW
      go_loopw [6, 27] (fun v i wq => ∃ k : Nat, k ≤ m ∧ i = .int .i64 k ∧ Hid (OwnS W0.heap.size wq v (Ls.take k).flatten) ∧ Below W0.heap.size W0 wq) (fun _ i _ => m - (intOf i).toNat)
      case atStart => exact ⟨0, Nat.zero_le _, rfl, HO1, HB1.out⟩
      case round =>
        obtain ⟨k, hk, rfl, HO, hbel⟩ := hrel
        have hle := lensTo_le Ls (Ls.length - k) k (by omega)
        have hfl := flatten_len Ls k
        by_cases hlt : k < m
        · obtain ⟨a, c', hc, hst⟩ := HZ.out k (by omega)
          have hc2 := (hbel.cell (p := ⟨g, k, none⟩) hg).trans hc
          have hst2 := hst.below hbel
          have hle2 := lensTo_le Ls (Ls.length - (k + 1)) (k + 1) (by omega)
          have hls := lensTo_step Ls (show k < Ls.length by omega)
          have hfs := flatten_step Ls (show k < Ls.length by omega)
          have hs := hbel.size
          obtain ⟨Lk, hLk⟩ : ∃ L, Ls[k]'(by omega) = L := ⟨_, rfl⟩
          rw [hLk] at hc2 hst2 hls hfs
          obtain ⟨nk, hnk⟩ : ∃ n, Lk.length = n := ⟨_, rfl⟩
          rw [hnk] at hc2 hst2 hls
          obtain ⟨FL, hFL⟩ : ∃ L, (Ls.take k).flatten = L := ⟨_, rfl⟩
          rw [hFL] at HO hfl hfs
          obtain ⟨af, cf, hform, hcf, _⟩ := HO.out.form
          have HFS := hidOf hfs
          have HSRC : Hid (nk = 0 ∧ a = none ∨ ∃ ad, a = some ad ∧ ∀ j u, (Lk.map Value.string)[j]? = some u → wr.cell? (ad.add j) = some u) := by
            show _ ∨ _
            rcases hst2.2 with h0 | ⟨b, off, rfl, _, hcc⟩
            · cases a with
              | none => exact .inl ⟨h0, rfl⟩
              | some ad => exact .inr ⟨ad, rfl, fun j u hu => by
                  have : j < (Lk.map Value.string).length := (List.getElem?_eq_some_iff.1 hu).1
                  simp at this; omega⟩
            · refine .inr ⟨_, rfl, fun j u hu => ?_⟩
              have hj : j < Lk.length := by have : j < (Lk.map Value.string).length := (List.getElem?_eq_some_iff.1 hu).1; simpa using this
              rw [WideShapes.add_plain, hcc j hj]
              rw [List.getElem?_map, List.getElem?_eq_getElem hj] at hu
              simpa using hu
          have HOW := hidOf (show wr.ownsRow W0.heap.size 9 1 u6 FL.length (FL.map Value.string) from HO.out)
          obtain ⟨N0, hN0⟩ : ∃ n, FL.length = n := ⟨_, rfl⟩
          rw [hN0] at HOW hform
          have h63 : N0 + nk ≤ maxLen := by unfold maxLen; omega
          have hby : (N0 + nk) * 16 ≤ 140737488355328 := by omega
          have HL16 : Hid ((Lk.map Value.string).length = nk * 1) := by show _ = _; simp [hnk]
          have HNK := hidOf hnk
          have HN0 := hidOf hN0
          subst hform
          clear hc hst hst2 hls hfs hFL hLk hnk hN0 hfl hcf hle hle2
          go_wp2_with (at_builtin; refine wpList_append_from rfl (.tmp 31) (.tmp 32) 37 rfl W0.heap.size 9 i0 (.string ByteArray.empty) 1 16 Tryz.underlying37 hi hz0 hz1 hz2 rfl (by decide) _ N0 (FL.map Value.string) rfl HOW.out a nk c' (Lk.map Value.string) rfl HL16.out HSRC.out (by intro u hu; obtain ⟨y, _, rfl⟩ := List.mem_map.1 hu; rfl) h63 hby (by omega) ?_)
          intro v' w2 hown2 hb2
          have HB2 : Hid (Below W0.heap.size W0 w2) := hbel.trans hb2
          have HO2 : Hid (OwnS W0.heap.size w2 v' (Ls.take (k + 1)).flatten) := by
            show World.ownsRow _ _ _ _ _ _ _
            rw [HFS.out, List.length_append, List.map_append, HNK.out, HN0.out]
            exact hown2
          clear hown2 hb2
          obtain ⟨av, cv, hform2, hcv, _⟩ := HO2.out.form
          rw [hform2] at HO2 ⊢
          clear hform2
          go_wp2_with fail
          go_roundw
          case rel => exact ⟨k + 1, by omega, by go_num, HO2, HB2.out⟩
          case measure => simp [intOf]; omega
        · obtain ⟨af, cf, hform, hcf, _⟩ := HO.out.form
          have HOF := HO
          rw [hform] at HOF ⊢
          have HT : Hid ((Ls.take k).flatten = Ls.flatten) := by show _ = _; rw [List.take_of_length_le (by omega)]
          clear hform
          go_wp2_with fail
          go_ret
          exact ⟨_, rfl, by rw [HEQ.out, ← HT.out]; exact HOF.out, by rw [HEQ.out]; exact hbel⟩
end Go.Proofs.YtnkeibahaiibpaaGreatDoor

/- The law's comparisons of a block with a copy of it. -/
namespace Go.Proofs.YtnkeibahaiibpaaGreatDoor
open Go Go.RowKit Go.PlainAid
set_option linter.unusedSimpArgs false
set_option linter.unusedVariables false

set_option maxHeartbeats 800000 in
set_option maxRecDepth 100000 in
theorem eqPort_same (B : Nat) (x : Pt) (hf : FewPt x) (a : Option Addr) (n c : Nat) (a' : Option Addr) (n' c' : Nat) (w : World) (hB : B ≤ w.heap.size) (hv : IsStrs B w a n x.vals) (hv' : IsStrs B w a' n' x.vals) :
    Calls Tryz.prog 107 #[.agg #[.string x.name, .slice a n c], .agg #[.string x.name, .slice a' n' c']] w fun e w' => e = .returned (.bool true) ∧ Below w.heap.size w w' := by
  obtain ⟨xn, xv⟩ := x
  unfold FewPt at hf
  simp only at hf hv hv' ⊢
  have l1 := hv.1
  have l2 := hv'.1
  have hnn : n' = n := by omega
  subst hnn
  have HE : Hid (∀ W, Below w.heap.size w W → Calls Tryz.prog 16 #[.slice a n' c, .slice a' n' c'] W fun e w' => e = .returned (.bool true) ∧ Below W.heap.size W w') := fun W hb => eqStringS_same B a a' n' c c' xv W (by omega) (by have := hb.size; omega) (hv.below (hb.mono hB)) (hv'.below (hb.mono hB))
  have HB0 : Hid (Below w.heap.size w ((w.alloc (.cells #[.string xn, .slice a n' c] 88)).alloc (.cells #[.string xn, .slice a' n' c'] 88))) := ((Below.refl _ _).alloc (Nat.le_refl _) _).alloc (by simp) _
  clear hv hv'
  go_enter Tryz.func107, Tryz.ntmps107
  go_wp2_with (go_at_call 16; refine (HE.out _ (by first | exact HB0.out | go_grown)).mono ?_; rintro e w1 ⟨rfl, hb1⟩)
  go_ret
  refine ⟨ret_bool (by simp), ?_⟩
  exact HB0.out.trans (hb1.mono HB0.out.size)

set_option maxHeartbeats 800000 in
theorem eqVar_same (x : Vr) (w : World) : Calls Tryz.prog 108 #[.agg #[.string x.name, .int .i64 x.num], .agg #[.string x.name, .int .i64 x.num]] w fun e w' => e = .returned (.bool true) ∧ Below w.heap.size w w' := by
  obtain ⟨y0, y1⟩ := x
  simp only
  go_enter Tryz.func108, Tryz.ntmps108
  go_wp2
  go_ret
  refine ⟨ret_bool (by simp), ?_⟩
  go_grown

set_option maxHeartbeats 1600000 in
set_option maxRecDepth 100000 in
theorem eqVarS_same (B : Nat) (a a' : Option Addr) (n cap cap' : Nat) (l : List Vr) (w : World) (hn : n ≤ 1048576) (hB : B ≤ w.heap.size) (hsm : ∀ x ∈ l, FewVr x) (hz : IsArr 2 QVr B w a n l) (hz' : IsArr 2 QVr B w a' n l) :
    Calls Tryz.prog 57 #[.slice a n cap, .slice a' n cap'] w fun e w' => e = .returned (.bool true) ∧ Below w.heap.size w w' := by
  have hlen := hz.1
  have HZ := hidOf hz
  have HZ' := hidOf hz'
  have HSM := hidOf hsm
  clear hz hz' hsm
  go_enter Tryz.func57, Tryz.ntmps57
  go_wp2
  go_loopw [5] (fun i wr => ∃ k : Nat, k ≤ n ∧ i = .int .i64 k ∧ Below w.heap.size w wr) (fun i _ => n - (intOf i).toNat)
  case atStart => exact ⟨0, Nat.zero_le _, rfl, Below.refl _ _⟩
  case round =>
    obtain ⟨k, hk, rfl, hbel⟩ := hrel
    by_cases hlt : k < n
    · obtain ⟨b, off, cs, rfl, hb, hq, hcell⟩ := IsArr.at (HZ.out.below (QVr.lift (hbel.mono hB)) (hbel.mono hB)) hlt (show k < l.length by omega)
      obtain ⟨b', off', cs', rfl, hb', hq', hcell'⟩ := IsArr.at (HZ'.out.below (QVr.lift (hbel.mono hB)) (hbel.mono hB)) hlt (show k < l.length by omega)
      have hbr : b < wr.heap.size := by have := hbel.size; omega
      have hbr' : b' < wr.heap.size := by have := hbel.size; omega
      have hbB : B ≤ wr.heap.size := by have := hbel.size; omega
      have hsmx := HSM.out (l[k]'(by omega)) (List.getElem_mem _)
      obtain ⟨x, hx⟩ : ∃ x, l[k]'(by omega) = x := ⟨_, rfl⟩
      rw [hx] at hq hq' hsmx
      unfold QVr at hq
      subst hq
      unfold QVr at hq'
      subst hq'
      have c0 : wr.cell? ⟨b, off + k * 2, none⟩ = some (.string x.name) := hcell 0 _ rfl
      have c1 : wr.cell? ⟨b, off + k * 2 + 1, none⟩ = some (.int .i64 x.num) := hcell 1 _ rfl
      have d0 : wr.cell? ⟨b', off' + k * 2, none⟩ = some (.string x.name) := hcell' 0 _ rfl
      have d1 : wr.cell? ⟨b', off' + k * 2 + 1, none⟩ = some (.int .i64 x.num) := hcell' 1 _ rfl
      have HE : Hid (∀ W, Calls Tryz.prog 108 #[.agg #[.string x.name, .int .i64 x.num], .agg #[.string x.name, .int .i64 x.num]] W fun e w' => e = .returned (.bool true) ∧ Below W.heap.size W w') := fun W => eqVar_same x W
      clear hcell hcell' hx hsmx
      go_wp2_with fail
      go_region_held3 (fun w' => w'.cell? ⟨b, off + k * 2, none⟩ = some (.string x.name) ∧ w'.cell? ⟨b, off + k * 2 + 1, none⟩ = some (.int .i64 x.num) ∧ w'.cell? ⟨b', off' + k * 2, none⟩ = some (.string x.name) ∧ w'.cell? ⟨b', off' + k * 2 + 1, none⟩ = some (.int .i64 x.num)) (simp [go_sem, *])
        (first | (go_at_call 108; refine (HE.out _).mono ?_; rintro e w' ⟨rfl, hb1⟩; replace hb1 := undrew hb1; obtain ⟨hc1, hf1⟩ := bcell hb1))
      go_wp2_with fail
      go_roundw
      case rel => exact ⟨k + 1, by omega, by go_num, hbel.trans (hb1.mono hbel.size)⟩
      case measure => simp [intOf]; omega
    · go_wp2_with fail
      go_ret
      exact ⟨rfl, hbel⟩

set_option maxHeartbeats 800000 in
theorem eqMove_same (x : Mo) (w : World) : Calls Tryz.prog 193 #[.agg #[.string x.event, .string x.cond, .string x.to], .agg #[.string x.event, .string x.cond, .string x.to]] w fun e w' => e = .returned (.bool true) ∧ Below w.heap.size w w' := by
  obtain ⟨y0, y1, y2⟩ := x
  simp only
  go_enter Tryz.func193, Tryz.ntmps193
  go_wp2
  go_ret
  refine ⟨ret_bool (by simp), ?_⟩
  go_grown

set_option maxHeartbeats 1600000 in
set_option maxRecDepth 100000 in
theorem eqMoveS_same (B : Nat) (a a' : Option Addr) (n cap cap' : Nat) (l : List Mo) (w : World) (hn : n ≤ 1048576) (hB : B ≤ w.heap.size) (hsm : ∀ x ∈ l, FewMo x) (hz : IsArr 3 QMo B w a n l) (hz' : IsArr 3 QMo B w a' n l) :
    Calls Tryz.prog 167 #[.slice a n cap, .slice a' n cap'] w fun e w' => e = .returned (.bool true) ∧ Below w.heap.size w w' := by
  have hlen := hz.1
  have HZ := hidOf hz
  have HZ' := hidOf hz'
  have HSM := hidOf hsm
  clear hz hz' hsm
  go_enter Tryz.func167, Tryz.ntmps167
  go_wp2
  go_loopw [5] (fun i wr => ∃ k : Nat, k ≤ n ∧ i = .int .i64 k ∧ Below w.heap.size w wr) (fun i _ => n - (intOf i).toNat)
  case atStart => exact ⟨0, Nat.zero_le _, rfl, Below.refl _ _⟩
  case round =>
    obtain ⟨k, hk, rfl, hbel⟩ := hrel
    by_cases hlt : k < n
    · obtain ⟨b, off, cs, rfl, hb, hq, hcell⟩ := IsArr.at (HZ.out.below (QMo.lift (hbel.mono hB)) (hbel.mono hB)) hlt (show k < l.length by omega)
      obtain ⟨b', off', cs', rfl, hb', hq', hcell'⟩ := IsArr.at (HZ'.out.below (QMo.lift (hbel.mono hB)) (hbel.mono hB)) hlt (show k < l.length by omega)
      have hbr : b < wr.heap.size := by have := hbel.size; omega
      have hbr' : b' < wr.heap.size := by have := hbel.size; omega
      have hbB : B ≤ wr.heap.size := by have := hbel.size; omega
      have hsmx := HSM.out (l[k]'(by omega)) (List.getElem_mem _)
      obtain ⟨x, hx⟩ : ∃ x, l[k]'(by omega) = x := ⟨_, rfl⟩
      rw [hx] at hq hq' hsmx
      unfold QMo at hq
      subst hq
      unfold QMo at hq'
      subst hq'
      have c0 : wr.cell? ⟨b, off + k * 3, none⟩ = some (.string x.event) := hcell 0 _ rfl
      have c1 : wr.cell? ⟨b, off + k * 3 + 1, none⟩ = some (.string x.cond) := hcell 1 _ rfl
      have c2 : wr.cell? ⟨b, off + k * 3 + 1 + 1, none⟩ = some (.string x.to) := hcell 2 _ rfl
      have d0 : wr.cell? ⟨b', off' + k * 3, none⟩ = some (.string x.event) := hcell' 0 _ rfl
      have d1 : wr.cell? ⟨b', off' + k * 3 + 1, none⟩ = some (.string x.cond) := hcell' 1 _ rfl
      have d2 : wr.cell? ⟨b', off' + k * 3 + 1 + 1, none⟩ = some (.string x.to) := hcell' 2 _ rfl
      have HE : Hid (∀ W, Calls Tryz.prog 193 #[.agg #[.string x.event, .string x.cond, .string x.to], .agg #[.string x.event, .string x.cond, .string x.to]] W fun e w' => e = .returned (.bool true) ∧ Below W.heap.size W w') := fun W => eqMove_same x W
      clear hcell hcell' hx hsmx
      go_wp2_with fail
      go_region_held3 (fun w' => w'.cell? ⟨b, off + k * 3, none⟩ = some (.string x.event) ∧ w'.cell? ⟨b, off + k * 3 + 1, none⟩ = some (.string x.cond) ∧ w'.cell? ⟨b, off + k * 3 + 1 + 1, none⟩ = some (.string x.to) ∧ w'.cell? ⟨b', off' + k * 3, none⟩ = some (.string x.event) ∧ w'.cell? ⟨b', off' + k * 3 + 1, none⟩ = some (.string x.cond) ∧ w'.cell? ⟨b', off' + k * 3 + 1 + 1, none⟩ = some (.string x.to)) (simp [go_sem, *])
        (first | (go_at_call 193; refine (HE.out _).mono ?_; rintro e w' ⟨rfl, hb1⟩; replace hb1 := undrew hb1; obtain ⟨hc1, hf1⟩ := bcell hb1))
      go_wp2_with fail
      go_roundw
      case rel => exact ⟨k + 1, by omega, by go_num, hbel.trans (hb1.mono hbel.size)⟩
      case measure => simp [intOf]; omega
    · go_wp2_with fail
      go_ret
      exact ⟨rfl, hbel⟩

set_option maxHeartbeats 800000 in
theorem eqAct_same (x : Ac) (w : World) : Calls Tryz.prog 194 #[.agg #[.int .i64 x.kind, .string x.name, .string x.sum], .agg #[.int .i64 x.kind, .string x.name, .string x.sum]] w fun e w' => e = .returned (.bool true) ∧ Below w.heap.size w w' := by
  obtain ⟨y0, y1, y2⟩ := x
  simp only
  go_enter Tryz.func194, Tryz.ntmps194
  go_wp2
  go_ret
  refine ⟨ret_bool (by simp), ?_⟩
  go_grown

set_option maxHeartbeats 1600000 in
set_option maxRecDepth 100000 in
theorem eqActS_same (B : Nat) (a a' : Option Addr) (n cap cap' : Nat) (l : List Ac) (w : World) (hn : n ≤ 1048576) (hB : B ≤ w.heap.size) (hsm : ∀ x ∈ l, FewAc x) (hz : IsArr 3 QAc B w a n l) (hz' : IsArr 3 QAc B w a' n l) :
    Calls Tryz.prog 168 #[.slice a n cap, .slice a' n cap'] w fun e w' => e = .returned (.bool true) ∧ Below w.heap.size w w' := by
  have hlen := hz.1
  have HZ := hidOf hz
  have HZ' := hidOf hz'
  have HSM := hidOf hsm
  clear hz hz' hsm
  go_enter Tryz.func168, Tryz.ntmps168
  go_wp2
  go_loopw [5] (fun i wr => ∃ k : Nat, k ≤ n ∧ i = .int .i64 k ∧ Below w.heap.size w wr) (fun i _ => n - (intOf i).toNat)
  case atStart => exact ⟨0, Nat.zero_le _, rfl, Below.refl _ _⟩
  case round =>
    obtain ⟨k, hk, rfl, hbel⟩ := hrel
    by_cases hlt : k < n
    · obtain ⟨b, off, cs, rfl, hb, hq, hcell⟩ := IsArr.at (HZ.out.below (QAc.lift (hbel.mono hB)) (hbel.mono hB)) hlt (show k < l.length by omega)
      obtain ⟨b', off', cs', rfl, hb', hq', hcell'⟩ := IsArr.at (HZ'.out.below (QAc.lift (hbel.mono hB)) (hbel.mono hB)) hlt (show k < l.length by omega)
      have hbr : b < wr.heap.size := by have := hbel.size; omega
      have hbr' : b' < wr.heap.size := by have := hbel.size; omega
      have hbB : B ≤ wr.heap.size := by have := hbel.size; omega
      have hsmx := HSM.out (l[k]'(by omega)) (List.getElem_mem _)
      obtain ⟨x, hx⟩ : ∃ x, l[k]'(by omega) = x := ⟨_, rfl⟩
      rw [hx] at hq hq' hsmx
      unfold QAc at hq
      subst hq
      unfold QAc at hq'
      subst hq'
      have c0 : wr.cell? ⟨b, off + k * 3, none⟩ = some (.int .i64 x.kind) := hcell 0 _ rfl
      have c1 : wr.cell? ⟨b, off + k * 3 + 1, none⟩ = some (.string x.name) := hcell 1 _ rfl
      have c2 : wr.cell? ⟨b, off + k * 3 + 1 + 1, none⟩ = some (.string x.sum) := hcell 2 _ rfl
      have d0 : wr.cell? ⟨b', off' + k * 3, none⟩ = some (.int .i64 x.kind) := hcell' 0 _ rfl
      have d1 : wr.cell? ⟨b', off' + k * 3 + 1, none⟩ = some (.string x.name) := hcell' 1 _ rfl
      have d2 : wr.cell? ⟨b', off' + k * 3 + 1 + 1, none⟩ = some (.string x.sum) := hcell' 2 _ rfl
      have HE : Hid (∀ W, Calls Tryz.prog 194 #[.agg #[.int .i64 x.kind, .string x.name, .string x.sum], .agg #[.int .i64 x.kind, .string x.name, .string x.sum]] W fun e w' => e = .returned (.bool true) ∧ Below W.heap.size W w') := fun W => eqAct_same x W
      clear hcell hcell' hx hsmx
      go_wp2_with fail
      go_region_held3 (fun w' => w'.cell? ⟨b, off + k * 3, none⟩ = some (.int .i64 x.kind) ∧ w'.cell? ⟨b, off + k * 3 + 1, none⟩ = some (.string x.name) ∧ w'.cell? ⟨b, off + k * 3 + 1 + 1, none⟩ = some (.string x.sum) ∧ w'.cell? ⟨b', off' + k * 3, none⟩ = some (.int .i64 x.kind) ∧ w'.cell? ⟨b', off' + k * 3 + 1, none⟩ = some (.string x.name) ∧ w'.cell? ⟨b', off' + k * 3 + 1 + 1, none⟩ = some (.string x.sum)) (simp [go_sem, *])
        (first | (go_at_call 194; refine (HE.out _).mono ?_; rintro e w' ⟨rfl, hb1⟩; replace hb1 := undrew hb1; obtain ⟨hc1, hf1⟩ := bcell hb1))
      go_wp2_with fail
      go_roundw
      case rel => exact ⟨k + 1, by omega, by go_num, hbel.trans (hb1.mono hbel.size)⟩
      case measure => simp [intOf]; omega
    · go_wp2_with fail
      go_ret
      exact ⟨rfl, hbel⟩

set_option maxHeartbeats 1600000 in
set_option maxRecDepth 100000 in
theorem eqPortS_same (B : Nat) (a a' : Option Addr) (n cap cap' : Nat) (l : List Pt) (w : World) (hn : n ≤ 1048576) (hB : B ≤ w.heap.size) (hsm : ∀ x ∈ l, FewPt x) (hz : IsArr 2 QPt B w a n l) (hz' : IsArr 2 QPt B w a' n l) :
    Calls Tryz.prog 56 #[.slice a n cap, .slice a' n cap'] w fun e w' => e = .returned (.bool true) ∧ Below w.heap.size w w' := by
  have hlen := hz.1
  have HZ := hidOf hz
  have HZ' := hidOf hz'
  have HSM := hidOf hsm
  clear hz hz' hsm
  go_enter Tryz.func56, Tryz.ntmps56
  go_wp2
  go_loopw [5] (fun i wr => ∃ k : Nat, k ≤ n ∧ i = .int .i64 k ∧ Below w.heap.size w wr) (fun i _ => n - (intOf i).toNat)
  case atStart => exact ⟨0, Nat.zero_le _, rfl, Below.refl _ _⟩
  case round =>
    obtain ⟨k, hk, rfl, hbel⟩ := hrel
    by_cases hlt : k < n
    · obtain ⟨b, off, cs, rfl, hb, hq, hcell⟩ := IsArr.at (HZ.out.below (QPt.lift (hbel.mono hB)) (hbel.mono hB)) hlt (show k < l.length by omega)
      obtain ⟨b', off', cs', rfl, hb', hq', hcell'⟩ := IsArr.at (HZ'.out.below (QPt.lift (hbel.mono hB)) (hbel.mono hB)) hlt (show k < l.length by omega)
      have hbr : b < wr.heap.size := by have := hbel.size; omega
      have hbr' : b' < wr.heap.size := by have := hbel.size; omega
      have hbB : B ≤ wr.heap.size := by have := hbel.size; omega
      have hsmx := HSM.out (l[k]'(by omega)) (List.getElem_mem _)
      obtain ⟨x, hx⟩ : ∃ x, l[k]'(by omega) = x := ⟨_, rfl⟩
      rw [hx] at hq hq' hsmx
      obtain ⟨pa, pn, pc, rfl, hp1, hp2, hp3⟩ := hq
      obtain ⟨qa, qn, qc, rfl, hq1, hq2, hq3⟩ := hq'
      have c0 : wr.cell? ⟨b, off + k * 2, none⟩ = some (.string x.name) := hcell 0 _ rfl
      have c1 : wr.cell? ⟨b, off + k * 2 + 1, none⟩ = some (.slice pa pn pc) := hcell 1 _ rfl
      have d0 : wr.cell? ⟨b', off' + k * 2, none⟩ = some (.string x.name) := hcell' 0 _ rfl
      have d1 : wr.cell? ⟨b', off' + k * 2 + 1, none⟩ = some (.slice qa qn qc) := hcell' 1 _ rfl
      have HE : Hid (∀ W, Below wr.heap.size wr W → Calls Tryz.prog 107 #[.agg #[.string x.name, .slice pa pn pc], .agg #[.string x.name, .slice qa qn qc]] W fun e w' => e = .returned (.bool true) ∧ Below W.heap.size W w') := fun W hb => eqPort_same B x hsmx pa pn pc qa qn qc W (by have := hb.size; omega) (hp3.below (hb.mono hbB)) (hq3.below (hb.mono hbB))
      have hdr : Below wr.heap.size wr wr.drew := ⟨rfl, rfl, rfl, Nat.le_refl _, fun _ _ => rfl⟩
      clear hp3 hq3
      clear hcell hcell' hx hsmx
      go_wp2_with fail
      go_region_held3 (fun w' => w'.cell? ⟨b, off + k * 2, none⟩ = some (.string x.name) ∧ w'.cell? ⟨b, off + k * 2 + 1, none⟩ = some (.slice pa pn pc) ∧ w'.cell? ⟨b', off' + k * 2, none⟩ = some (.string x.name) ∧ w'.cell? ⟨b', off' + k * 2 + 1, none⟩ = some (.slice qa qn qc)) (simp [go_sem, *])
        (first | (go_at_call 107; refine (HE.out _ (by first | exact hdr | exact Below.refl _ _)).mono ?_; rintro e w' ⟨rfl, hb1⟩; replace hb1 := undrew hb1; obtain ⟨hc1, hf1⟩ := bcell hb1))
      go_wp2_with fail
      go_roundw
      case rel => exact ⟨k + 1, by omega, by go_num, hbel.trans (hb1.mono hbel.size)⟩
      case measure => simp [intOf]; omega
    · go_wp2_with fail
      go_ret
      exact ⟨rfl, hbel⟩

set_option maxHeartbeats 1600000 in
set_option maxRecDepth 100000 in
theorem eqState_same (B : Nat) (x : St) (hf : FewSt x) (a : Option Addr) (n c : Nat) (b : Option Addr) (m d : Nat) (a' : Option Addr) (n' c' : Nat) (b' : Option Addr) (m' d' : Nat) (w : World) (hB : B ≤ w.heap.size) (hm : IsArr 3 QMo B w a n x.moves) (ha : IsArr 3 QAc B w b m x.acts) (hm' : IsArr 3 QMo B w a' n' x.moves) (ha' : IsArr 3 QAc B w b' m' x.acts) :
    Calls Tryz.prog 109 #[.agg #[.string x.name, .slice a n c, .slice b m d], .agg #[.string x.name, .slice a' n' c', .slice b' m' d']] w fun e w' => e = .returned (.bool true) ∧ Below w.heap.size w w' := by
  obtain ⟨xn, xm, xa⟩ := x
  unfold FewSt at hf
  simp only at hf hm ha hm' ha' ⊢
  have l1 := hm.1
  have l2 := ha.1
  have hnn : n' = n := by have := hm'.1; omega
  have hmm : m' = m := by have := ha'.1; omega
  subst hnn
  subst hmm
  have HM : Hid (∀ W, Below w.heap.size w W → Calls Tryz.prog 167 #[.slice a n' c, .slice a' n' c'] W fun e w' => e = .returned (.bool true) ∧ Below W.heap.size W w') := fun W hb => eqMoveS_same B a a' n' c c' xm W (by omega) (by have := hb.size; omega) (fun _ _ => trivial) (hm.below (QMo.lift (hb.mono hB)) (hb.mono hB)) (hm'.below (QMo.lift (hb.mono hB)) (hb.mono hB))
  have HA : Hid (∀ W, Below w.heap.size w W → Calls Tryz.prog 168 #[.slice b m' d, .slice b' m' d'] W fun e w' => e = .returned (.bool true) ∧ Below W.heap.size W w') := fun W hb => eqActS_same B b b' m' d d' xa W (by omega) (by have := hb.size; omega) (fun _ _ => trivial) (ha.below (QAc.lift (hb.mono hB)) (hb.mono hB)) (ha'.below (QAc.lift (hb.mono hB)) (hb.mono hB))
  clear hm ha hm' ha'
  obtain ⟨W0, hW0⟩ : ∃ W0, W0 = (w.alloc (.cells #[.string xn, .slice a n' c, .slice b m' d] 114)).alloc (.cells #[.string xn, .slice a' n' c', .slice b' m' d'] 114) := ⟨_, rfl⟩
  have HB0 : Hid (Below w.heap.size w W0) := by
    show Below _ _ _
    rw [hW0]; exact ((Below.refl _ _).alloc (Nat.le_refl _) _).alloc (by simp) _
  have k1 : W0.cell? ⟨w.heap.size, 2, none⟩ = some (.slice b m' d) := by rw [hW0]; simp [go_sem]
  have k2 : W0.cell? ⟨w.heap.size + 1, 2, none⟩ = some (.slice b' m' d') := by rw [hW0]; simp [go_sem]
  have hz0 : W0.heap.size = w.heap.size + 1 + 1 := by rw [hW0]; simp
  have HW0 := hidOf hW0
  clear hW0
  go_enter Tryz.func109, Tryz.ntmps109
  go_wp2_with (first
    | (go_at_call 167; rw [← HW0.out]; refine (HM.out _ HB0.out).mono ?_; rintro e w1 ⟨rfl, hb1⟩; have m1 := (hb1.cell (p := ⟨w.heap.size, 2, none⟩) (by simp; omega)).trans k1; have m2 := (hb1.cell (p := ⟨w.heap.size + 1, 2, none⟩) (by simp; omega)).trans k2; have HB1 : Hid (Below w.heap.size w w1) := HB0.out.trans (hb1.mono HB0.out.size); have hz1 : w.heap.size + 1 < w1.heap.size := (by have := hb1.size; omega); clear hb1)
    | (go_at_call 168; refine (HA.out _ HB1.out).mono ?_; rintro e w2 ⟨rfl, hb2⟩; have HB2 : Hid (Below w.heap.size w w2) := HB1.out.trans (hb2.mono HB1.out.size); clear hb2))
  go_ret
  exact ⟨ret_bool (by simp), HB2.out⟩

set_option maxHeartbeats 1600000 in
set_option maxRecDepth 100000 in
theorem eqStateS_same (B : Nat) (a a' : Option Addr) (n cap cap' : Nat) (l : List St) (w : World) (hn : n ≤ 1048576) (hB : B ≤ w.heap.size) (hsm : ∀ x ∈ l, FewSt x) (hz : IsArr 3 QSt B w a n l) (hz' : IsArr 3 QSt B w a' n l) :
    Calls Tryz.prog 58 #[.slice a n cap, .slice a' n cap'] w fun e w' => e = .returned (.bool true) ∧ Below w.heap.size w w' := by
  have hlen := hz.1
  have HZ := hidOf hz
  have HZ' := hidOf hz'
  have HSM := hidOf hsm
  clear hz hz' hsm
  go_enter Tryz.func58, Tryz.ntmps58
  go_wp2
  go_loopw [5] (fun i wr => ∃ k : Nat, k ≤ n ∧ i = .int .i64 k ∧ Below w.heap.size w wr) (fun i _ => n - (intOf i).toNat)
  case atStart => exact ⟨0, Nat.zero_le _, rfl, Below.refl _ _⟩
  case round =>
    obtain ⟨k, hk, rfl, hbel⟩ := hrel
    by_cases hlt : k < n
    · obtain ⟨b, off, cs, rfl, hb, hq, hcell⟩ := IsArr.at (HZ.out.below (QSt.lift (hbel.mono hB)) (hbel.mono hB)) hlt (show k < l.length by omega)
      obtain ⟨b', off', cs', rfl, hb', hq', hcell'⟩ := IsArr.at (HZ'.out.below (QSt.lift (hbel.mono hB)) (hbel.mono hB)) hlt (show k < l.length by omega)
      have hbr : b < wr.heap.size := by have := hbel.size; omega
      have hbr' : b' < wr.heap.size := by have := hbel.size; omega
      have hbB : B ≤ wr.heap.size := by have := hbel.size; omega
      have hsmx := HSM.out (l[k]'(by omega)) (List.getElem_mem _)
      obtain ⟨x, hx⟩ : ∃ x, l[k]'(by omega) = x := ⟨_, rfl⟩
      rw [hx] at hq hq' hsmx
      obtain ⟨pa, pn, pc, ra, rn, rc, rfl, hp1, hp2, hp3, hp4, hp5, hp6⟩ := hq
      obtain ⟨qa, qn, qc, sa, sn, sc, rfl, hq1, hq2, hq3, hq4, hq5, hq6⟩ := hq'
      have c0 : wr.cell? ⟨b, off + k * 3, none⟩ = some (.string x.name) := hcell 0 _ rfl
      have c1 : wr.cell? ⟨b, off + k * 3 + 1, none⟩ = some (.slice pa pn pc) := hcell 1 _ rfl
      have c2 : wr.cell? ⟨b, off + k * 3 + 1 + 1, none⟩ = some (.slice ra rn rc) := hcell 2 _ rfl
      have d0 : wr.cell? ⟨b', off' + k * 3, none⟩ = some (.string x.name) := hcell' 0 _ rfl
      have d1 : wr.cell? ⟨b', off' + k * 3 + 1, none⟩ = some (.slice qa qn qc) := hcell' 1 _ rfl
      have d2 : wr.cell? ⟨b', off' + k * 3 + 1 + 1, none⟩ = some (.slice sa sn sc) := hcell' 2 _ rfl
      have HE : Hid (∀ W, Below wr.heap.size wr W → Calls Tryz.prog 109 #[.agg #[.string x.name, .slice pa pn pc, .slice ra rn rc], .agg #[.string x.name, .slice qa qn qc, .slice sa sn sc]] W fun e w' => e = .returned (.bool true) ∧ Below W.heap.size W w') := fun W hb => eqState_same B x hsmx pa pn pc ra rn rc qa qn qc sa sn sc W (by have := hb.size; omega) (hp5.below (QMo.lift (hb.mono hbB)) (hb.mono hbB)) (hp6.below (QAc.lift (hb.mono hbB)) (hb.mono hbB)) (hq5.below (QMo.lift (hb.mono hbB)) (hb.mono hbB)) (hq6.below (QAc.lift (hb.mono hbB)) (hb.mono hbB))
      have hdr : Below wr.heap.size wr wr.drew := ⟨rfl, rfl, rfl, Nat.le_refl _, fun _ _ => rfl⟩
      clear hp5 hp6 hq5 hq6
      clear hcell hcell' hx hsmx
      go_wp2_with fail
      go_region_held3 (fun w' => w'.cell? ⟨b, off + k * 3, none⟩ = some (.string x.name) ∧ w'.cell? ⟨b, off + k * 3 + 1, none⟩ = some (.slice pa pn pc) ∧ w'.cell? ⟨b, off + k * 3 + 1 + 1, none⟩ = some (.slice ra rn rc) ∧ w'.cell? ⟨b', off' + k * 3, none⟩ = some (.string x.name) ∧ w'.cell? ⟨b', off' + k * 3 + 1, none⟩ = some (.slice qa qn qc) ∧ w'.cell? ⟨b', off' + k * 3 + 1 + 1, none⟩ = some (.slice sa sn sc)) (simp [go_sem, *])
        (first | (go_at_call 109; refine (HE.out _ (by first | exact hdr | exact Below.refl _ _)).mono ?_; rintro e w' ⟨rfl, hb1⟩; replace hb1 := undrew hb1; obtain ⟨hc1, hf1⟩ := bcell hb1))
      go_wp2_with fail
      go_roundw
      case rel => exact ⟨k + 1, by omega, by go_num, hbel.trans (hb1.mono hbel.size)⟩
      case measure => simp [intOf]; omega
    · go_wp2_with fail
      go_ret
      exact ⟨rfl, hbel⟩

end Go.Proofs.YtnkeibahaiibpaaGreatDoor

/- The law's comparison of a block with a copy of it. -/
namespace Go.Proofs.YtnkeibahaiibpaaGreatDoor
open Go Go.RowKit Go.PlainAid
set_option linter.unusedSimpArgs false
set_option linter.unusedVariables false

set_option maxHeartbeats 3200000 in
set_option maxRecDepth 100000 in
theorem eqBlock_same (B : Nat) (v v' : BkV) (x : Bk) (w : World) (hB : B ≤ w.heap.size) (hf : FewBk x) (hx : IsBk B w v x) (hx' : IsBk B w v' x) :
    Calls Tryz.prog 13 #[v.val x.name, v'.val x.name] w fun e w' => e = .returned (.bool true) ∧ Below w.heap.size w w' := by
  obtain ⟨ai, ni, ci, ao, no, co, av, nv, cv, at_, nt, ct⟩ := v
  obtain ⟨pai, pni, pci, pao, pno, pco, pav, pnv, pcv, pat_, pnt, pct⟩ := v'
  obtain ⟨xn, xi, xo, xv, xs⟩ := x
  obtain ⟨⟨f1, f1'⟩, ⟨f2, f2'⟩, f3, ⟨f4, f4'⟩⟩ := hf
  obtain ⟨hins, houts, hvars, hstates, _⟩ := hx
  obtain ⟨hins', houts', hvars', hstates', _⟩ := hx'
  simp only at f1 f2 f3 f4 f1' f2' f4' hins houts hvars hstates hins' houts' hvars' hstates'
  have l1 := hins.1
  have l2 := houts.1
  have l3 := hvars.1
  have l4 := hstates.1
  have e1 : pni = ni := by have := hins'.1; omega
  have e2 : pno = no := by have := houts'.1; omega
  have e3 : pnv = nv := by have := hvars'.1; omega
  have e4 : pnt = nt := by have := hstates'.1; omega
  subst e1
  subst e2
  subst e3
  subst e4
  have T0 : Hid (∀ W, Below w.heap.size w W → Calls Tryz.prog 56 #[.slice ai pni ci, .slice pai pni pci] W fun e w' => e = .returned (.bool true) ∧ Below W.heap.size W w') := fun W hb => eqPortS_same B ai pai pni ci pci xi W (by omega) (by have := hb.size; omega) f1' (hins.below (QPt.lift (hb.mono hB)) (hb.mono hB)) (hins'.below (QPt.lift (hb.mono hB)) (hb.mono hB))
  have T1 : Hid (∀ W, Below w.heap.size w W → Calls Tryz.prog 56 #[.slice ao pno co, .slice pao pno pco] W fun e w' => e = .returned (.bool true) ∧ Below W.heap.size W w') := fun W hb => eqPortS_same B ao pao pno co pco xo W (by omega) (by have := hb.size; omega) f2' (houts.below (QPt.lift (hb.mono hB)) (hb.mono hB)) (houts'.below (QPt.lift (hb.mono hB)) (hb.mono hB))
  have T2 : Hid (∀ W, Below w.heap.size w W → Calls Tryz.prog 57 #[.slice av pnv cv, .slice pav pnv pcv] W fun e w' => e = .returned (.bool true) ∧ Below W.heap.size W w') := fun W hb => eqVarS_same B av pav pnv cv pcv xv W (by omega) (by have := hb.size; omega) (fun _ _ => trivial) (hvars.below (QVr.lift (hb.mono hB)) (hb.mono hB)) (hvars'.below (QVr.lift (hb.mono hB)) (hb.mono hB))
  have T3 : Hid (∀ W, Below w.heap.size w W → Calls Tryz.prog 58 #[.slice at_ pnt ct, .slice pat_ pnt pct] W fun e w' => e = .returned (.bool true) ∧ Below W.heap.size W w') := fun W hb => eqStateS_same B at_ pat_ pnt ct pct xs W (by omega) (by have := hb.size; omega) f4' (hstates.below (QSt.lift (hb.mono hB)) (hb.mono hB)) (hstates'.below (QSt.lift (hb.mono hB)) (hb.mono hB))
  clear hins houts hvars hstates hins' houts' hvars' hstates' f1' f2' f4'
  show Calls Tryz.prog 13 #[.agg #[.string xn, .slice ai pni ci, .slice ao pno co, .slice av pnv cv, .slice at_ pnt ct], .agg #[.string xn, .slice pai pni pci, .slice pao pno pco, .slice pav pnv pcv, .slice pat_ pnt pct]] w _
  obtain ⟨w0, hw0⟩ : ∃ W0, W0 = (w.alloc (.cells #[.string xn, .slice ai pni ci, .slice ao pno co, .slice av pnv cv, .slice at_ pnt ct] 33)).alloc (.cells #[.string xn, .slice pai pni pci, .slice pao pno pco, .slice pav pnv pcv, .slice pat_ pnt pct] 33) := ⟨_, rfl⟩
  have B0 : Hid (Below w.heap.size w w0) := by
    show Below _ _ _
    rw [hw0]; exact ((Below.refl _ _).alloc (Nat.le_refl _) _).alloc (by simp) _
  have hz0 : w0.heap.size = w.heap.size + 1 + 1 := by rw [hw0]; simp
  have A0 : BoxAt w.heap.size [.string xn, .slice ai pni ci, .slice ao pno co, .slice av pnv cv, .slice at_ pnt ct] w0 := by
    refine ⟨by omega, fun j u hu => ?_⟩
    have hj : j < 5 := (List.getElem?_eq_some_iff.1 hu).1
    have : j = 0 ∨ j = 1 ∨ j = 2 ∨ j = 3 ∨ j = 4 := by omega
    rw [hw0]
    rcases this with rfl | rfl | rfl | rfl | rfl <;> (simp at hu; subst hu; simp [go_sem])
  have P0 : BoxAt (w.heap.size + 1) [.string xn, .slice pai pni pci, .slice pao pno pco, .slice pav pnv pcv, .slice pat_ pnt pct] w0 := by
    refine ⟨by omega, fun j u hu => ?_⟩
    have hj : j < 5 := (List.getElem?_eq_some_iff.1 hu).1
    have : j = 0 ∨ j = 1 ∨ j = 2 ∨ j = 3 ∨ j = 4 := by omega
    rw [hw0]
    rcases this with rfl | rfl | rfl | rfl | rfl <;> (simp at hu; subst hu; simp [go_sem])
  have HA0 := hidOf A0
  have HP0 := hidOf P0
  have HW0 := hidOf hw0
  clear A0 P0 hw0
  go_enter Tryz.func13, Tryz.ntmps13
  go_wp2_with fail
  rw [← HW0.out]
  refine (T0.out w0 B0.out).mono ?_
  rintro e w1 ⟨rfl, b1⟩
  have B1 : Hid (Below w.heap.size w w1) := B0.out.trans (b1.mono B0.out.size)
  have HA1 := hidOf (HA0.out.below b1)
  have HP1 := hidOf (HP0.out.below b1)
  clear b1
  have x1 : w1.cell? ⟨w.heap.size, 2, none⟩ = some (.slice ao pno co) := (HA1.out.2 2 _ rfl).1
  have y1 : w1.cell? ⟨w.heap.size + 1, 2, none⟩ = some (.slice pao pno pco) := (HP1.out.2 2 _ rfl).1
  have z1 := HA1.out.1
  have zz1 := HP1.out.1
  go_wp2_with fail
  refine (T1.out w1 B1.out).mono ?_
  rintro e w2 ⟨rfl, b2⟩
  have B2 : Hid (Below w.heap.size w w2) := B1.out.trans (b2.mono B1.out.size)
  have HA2 := hidOf (HA1.out.below b2)
  have HP2 := hidOf (HP1.out.below b2)
  clear b2
  have x2 : w2.cell? ⟨w.heap.size, 3, none⟩ = some (.slice av pnv cv) := (HA2.out.2 3 _ rfl).1
  have y2 : w2.cell? ⟨w.heap.size + 1, 3, none⟩ = some (.slice pav pnv pcv) := (HP2.out.2 3 _ rfl).1
  have z2 := HA2.out.1
  have zz2 := HP2.out.1
  go_wp2_with fail
  refine (T2.out w2 B2.out).mono ?_
  rintro e w3 ⟨rfl, b3⟩
  have B3 : Hid (Below w.heap.size w w3) := B2.out.trans (b3.mono B2.out.size)
  have HA3 := hidOf (HA2.out.below b3)
  have HP3 := hidOf (HP2.out.below b3)
  clear b3
  have x3 : w3.cell? ⟨w.heap.size, 4, none⟩ = some (.slice at_ pnt ct) := (HA3.out.2 4 _ rfl).1
  have y3 : w3.cell? ⟨w.heap.size + 1, 4, none⟩ = some (.slice pat_ pnt pct) := (HP3.out.2 4 _ rfl).1
  have z3 := HA3.out.1
  have zz3 := HP3.out.1
  go_wp2_with fail
  refine (T3.out w3 B3.out).mono ?_
  rintro e w4 ⟨rfl, b4⟩
  have B4 : Hid (Below w.heap.size w w4) := B3.out.trans (b4.mono B3.out.size)
  have HA4 := hidOf (HA3.out.below b4)
  have HP4 := hidOf (HP3.out.below b4)
  clear b4
  go_wp2_with fail
  go_ret
  exact ⟨ret_bool (by simp), B4.out⟩
end Go.Proofs.YtnkeibahaiibpaaGreatDoor
