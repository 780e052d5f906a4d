/- slices.Grow and slices.Concat at ops. -/
import Derived.Test.YtbpfonmkbbnkcaaGreatDoorPushOp
import Derived.Lib.AppendZeros
namespace Go.Proofs.YtbpfonmkbbnkcaaGreatDoor
open Go Go.RowKit Go.PlainAid
set_option linter.unusedSimpArgs false
set_option linter.unusedVariables false

set_option maxHeartbeats 800000 in
set_option maxRecDepth 100000 in
theorem growO_any (n : Nat) (w : World) (h0 : 0 < n) (hn : n ≤ 1000) :
    Calls Tryz.prog 108 #[.slice none 0 0, .int .i64 n] w fun e w' => ∃ cap', e = .returned (.slice (some ⟨w.heap.size, 0, none⟩) 0 cap') ∧ n ≤ cap' ∧ OwnOp w.heap.size w' (.slice (some ⟨w.heap.size, 0, none⟩) 0 cap') [] ∧ Below w.heap.size w w' := by
  obtain ⟨i0, hi, hz0, hz1, hz2⟩ := info_parts infoOp
  have hrun := Lib.run_append_nil_zeros (P := Tryz.prog) w 41 3 41 82 i0 (.agg #[.int .i64 0, .int .i64 0]) .i64 .i64 Tryz.underlying41 Tryz.underlying3 hi hz0 n h0 (by omega) (by omega) (by rw [hz2]; omega)
  have hge := grownCap_ge w n 0 82
  have hle := grownCap_le_maxLen w n 0 82 (by unfold maxLen; omega)
  generalize grownCap w n 0 82 = cap' at *
  obtain ⟨cs, hcs⟩ : ∃ cs, Builtin.zeroCells (Value.agg #[.int .i64 0, .int .i64 0]).cells n ++ Builtin.zeroCells (Value.agg #[.int .i64 0, .int .i64 0]).cells (cap' - n) = cs := ⟨_, rfl⟩
  have hsz : cs.size = cap' * 2 := by
    rw [← hcs, Array.size_append, size_zeroCells, size_zeroCells]
    have : (Value.agg #[.int .i64 0, .int .i64 0]).cells.size = 2 := rfl
    rw [this]; omega
  rw [hcs] at hrun
  have HR := hidOf hrun
  have hw0 : IntKind.i64.wrap (n : Int) = n := IntWalk.i64_in _ ⟨by omega, by omega⟩
  have hnI : (0 : Int) < n := by omega
  have HO : Hid (OwnOp w.heap.size (w.drew.alloc (.cells cs 82)) (.slice (some ⟨w.heap.size, 0, none⟩) 0 cap') []) := by
    refine ⟨rfl, .inr ⟨w.heap.size, cap', cs, rfl, Nat.le_refl _, ?_, Nat.zero_le _, hle, hsz, by simp [opRow]⟩⟩
    exact (show (w.heap.push (Obj.cells cs 82))[w.heap.size]? = some (Obj.cells cs 82) by simp)
  have HB : Hid (Below w.heap.size w (w.drew.alloc (.cells cs 82))) := below_drew0 ((Below.refl w.heap.size w.drew).alloc (Nat.le_refl _) (.cells cs 82))
  generalize w.drew.alloc (.cells cs 82) = W at *
  clear hrun
  go_enter Tryz.func108, Tryz.ntmps108
  go_wp2_with (at_builtin; refine Lib.wpList_append_run _ rfl (.tmp 20) (.tmp 21) _ _ rfl _ _ rfl rfl _ _ HR.out ?_)
  go_wp2_with fail
  go_ret
  exact ⟨cap', rfl, hge, HO.out, HB.out⟩

def opFlat (zs : List (Int × Int)) : List Value := zs.flatMap fun x => [.int .i64 x.1, .int .i64 x.2]
theorem opFlat_len (zs : List (Int × Int)) : (opFlat zs).length = zs.length * 2 := by
  induction zs with
  | nil => rfl
  | cons x r ih => simp only [opFlat, List.flatMap_cons, List.length_append, List.length_cons, List.length_nil] at *; omega
theorem opFlat_at (zs : List (Int × Int)) : ∀ i, i < zs.length → (opFlat zs)[i * 2]? = some (.int .i64 (zs.getD i (0, 0)).1) ∧ (opFlat zs)[i * 2 + 1]? = some (.int .i64 (zs.getD i (0, 0)).2) := by
  induction zs with
  | nil => intro i h; simp at h
  | cons x r ih =>
    intro i h
    have e : opFlat (x :: r) = .int .i64 x.1 :: .int .i64 x.2 :: opFlat r := by simp [opFlat]
    rw [e]
    cases i with
    | zero => simp
    | succ i =>
      have := ih i (by simpa using h)
      rw [show (i + 1) * 2 = i * 2 + 1 + 1 from by omega]
      simpa using this
theorem opRow_flat (zs : List (Int × Int)) : opRow zs.reverse = opFlat zs := by unfold opRow opFlat; rw [List.reverse_reverse]
theorem opFlat_app (a b : List (Int × Int)) : opFlat (a ++ b) = opFlat a ++ opFlat b := by simp [opFlat]
theorem opFlat_one (zs : List (Int × Int)) : ∀ u ∈ opFlat zs, u.oneCell' = true := by
  intro u hu
  unfold opFlat at hu
  obtain ⟨x, _, hx⟩ := List.mem_flatMap.1 hu
  simp at hx
  rcases hx with rfl | rfl <;> rfl
theorem ops_news {w : World} {b off n : Nat} {zs : List (Int × Int)} (hlen : zs.length = n) (hc : ∀ i, i < n → w.cell? ⟨b, off + i * 2, none⟩ = some (.int .i64 (zs.getD i (0, 0)).1) ∧ w.cell? ⟨b, off + i * 2 + 1, none⟩ = some (.int .i64 (zs.getD i (0, 0)).2)) :
    ∀ j u, (opFlat zs)[j]? = some u → w.cell? ((⟨b, off, none⟩ : Addr).add j) = some u := by
  intro j u hu
  have hj : j < zs.length * 2 := by rw [← opFlat_len]; exact (List.getElem?_eq_some_iff.1 hu).1
  obtain ⟨e1, e2⟩ := opFlat_at zs (j / 2) (by omega)
  rw [WideShapes.add_plain]
  by_cases hp : j % 2 = 0
  · rw [show j = j / 2 * 2 from by omega] at hu ⊢
    rw [e1] at hu
    cases hu
    exact (hc (j / 2) (by omega)).1
  · rw [show j = j / 2 * 2 + 1 from by omega] at hu ⊢
    rw [e2] at hu
    cases hu
    exact (hc (j / 2) (by omega)).2

set_option maxHeartbeats 1600000 in
set_option maxRecDepth 100000 in
theorem concatO_any (h b1 o1 n1 c1 b2 o2 n2 c2 : Nat) (z1 z2 : List (Int × Int)) (w : World) (hh : h < w.heap.size) (m1 : 1 ≤ n1) (m2 : 1 ≤ n2) (k1 : n1 ≤ 100) (k2 : n2 ≤ 100)
    (g1 : w.cell? ⟨h, 0, none⟩ = some (.slice (some ⟨b1, o1, none⟩) n1 c1)) (g2 : w.cell? ⟨h, 1, none⟩ = some (.slice (some ⟨b2, o2, none⟩) n2 c2)) (h1 : IsOps w (some ⟨b1, o1, none⟩) n1 z1) (h2 : IsOps w (some ⟨b2, o2, none⟩) n2 z2) :
    Calls Tryz.prog 82 #[.slice (some ⟨h, 0, none⟩) 2 2] w fun e w' => ∃ v', e = .returned v' ∧ OwnOp w.heap.size w' v' (z1 ++ z2).reverse ∧ Below w.heap.size w w' := by
  obtain ⟨l1, q1⟩ := h1
  obtain ⟨l2, q2⟩ := h2
  obtain ⟨i0, hi, hz0, hz1, hz2⟩ := info_parts infoOp
  rcases q1 with q1 | ⟨_, _, e1, hb1, d1⟩
  · omega
  cases e1
  rcases q2 with q2 | ⟨_, _, e2, hb2, d2⟩
  · omega
  cases e2
  have D1 := hidOf d1
  have D2 := hidOf d2
  clear d1 d2
  have p1 : IntKind.i64.wrap ((n1 : Int) + n2) = (n1 : Int) + n2 := IntWalk.i64_in _ ⟨by omega, by omega⟩
  have p2 : IntKind.i64.wrap (n1 : Int) = n1 := IntWalk.i64_in _ ⟨by omega, by omega⟩
  have HG := hidOf (growO_any (n1 + n2) w (by omega) (by omega))
  have ec : ((n1 + n2 : Nat) : Int) = (n1 : Int) + n2 := by omega
  rw [ec] at HG
  go_enter Tryz.func82, Tryz.ntmps82
  go_wp2_with fail
  go_loopw [3, 11] (fun v i wr => (i = .int .i64 0 ∧ v = .int .i64 0 ∨ i = .int .i64 1 ∧ v = .int .i64 n1 ∨ i = .int .i64 2 ∧ v = .int .i64 ((n1 : Int) + n2)) ∧ wr = w) (fun _ i _ => 2 - (intOf i).toNat)
  case atStart => exact ⟨.inl ⟨rfl, rfl⟩, rfl⟩
  case round =>
    obtain ⟨hv, rfl⟩ := hrel
    rcases hv with ⟨rfl, rfl⟩ | ⟨rfl, rfl⟩ | ⟨rfl, rfl⟩
    · go_wp2_with fail
      go_roundw
      case rel => exact ⟨.inr (.inl ⟨rfl, rfl⟩), trivial⟩
      case measure => decide
    · go_wp2_with fail
      go_roundw
      case rel => exact ⟨.inr (.inr ⟨rfl, rfl⟩), trivial⟩
      case measure => decide
    · go_wp2_with fail
      refine HG.out.mono ?_
      rintro e w1 ⟨cap', rfl, hcap', hown1, bel1⟩
      have HO1 : Hid (OwnOp wr.heap.size w1 (.slice (some ⟨wr.heap.size, 0, none⟩) 0 cap') []) := hown1
      have HB1 : Hid (Below wr.heap.size wr w1) := bel1
      clear hown1 bel1 HG
      go_wp2_with fail
      generalize hW : wr = W0 at *
      have HEQ := hidOf hW
      clear hW
      go_loopw [6, 27] (fun v i wq => (i = .int .i64 0 ∧ Hid (OwnOp W0.heap.size wq v []) ∨ i = .int .i64 1 ∧ Hid (OwnOp W0.heap.size wq v z1.reverse) ∨ i = .int .i64 2 ∧ Hid (OwnOp W0.heap.size wq v (z1 ++ z2).reverse)) ∧ Below W0.heap.size W0 wq) (fun _ i _ => 2 - (intOf i).toNat)
      case atStart => exact ⟨.inl ⟨rfl, HO1⟩, HB1.out⟩
      case round =>
        obtain ⟨hv, hbel⟩ := hrel
        rcases hv with ⟨rfl, HO⟩ | ⟨rfl, HO⟩ | ⟨rfl, HO⟩
        · obtain ⟨af, cf, hform, hcf⟩ := HO.out.form
          have hcell := (hbel.cell (p := ⟨h, 0, none⟩) hh).trans g1
          have hs := hbel.size
          have HS : Hid (wr.ownsRow W0.heap.size 82 2 (.slice af 0 cf) 0 []) := by
            show World.ownsRow _ _ _ _ _ _ _
            have := HO.out
            rw [hform] at this
            unfold OwnOp at this
            simp only [List.length_nil, opRow, opFlat, List.reverse_nil, List.flatMap_nil] at this
            exact this
          have hu6 : u6 = .slice af 0 cf := by rw [hform]; simp only [List.length_nil, opRow, opFlat, List.reverse_nil, List.flatMap_nil]
          subst hu6
          have HN := hidOf (ops_news (w := wr) l1 (fun i hi => ⟨(hbel.cell (p := ⟨b1, o1 + i * 2, none⟩) hb1).trans (D1.out i hi).1, (hbel.cell (p := ⟨b1, o1 + i * 2 + 1, none⟩) hb1).trans (D1.out i hi).2⟩))
          clear hform hcf
          go_wp2_with (at_builtin; refine wpList_append_own _ rfl (.tmp 31) (.tmp 32) 41 rfl W0.heap.size 82 i0 (.agg #[.int .i64 0, .int .i64 0]) 2 16 Tryz.underlying41 hi hz0 hz1 hz2 rfl (by decide) _ 0 [] rfl HS.out ⟨b1, o1, none⟩ n1 c1 (opFlat z1) rfl (by rw [opFlat_len, l1]) HN.out (opFlat_one _) (by unfold maxLen; omega) (by omega) (by omega) ?_)
          intro v' w2 hown2 hgrow2 _
          have HB2 : Hid (Below W0.heap.size W0 w2) := hbel.trans ((Below.refl W0.heap.size wr).grown hgrow2 (by omega) (fun q hq => (World.ownsRow.lt HS.out q hq).1))
          have HO2 : Hid (OwnOp W0.heap.size w2 v' z1.reverse) := by
            show World.ownsRow _ _ _ _ _ _ _
            rw [opRow_flat, List.length_reverse, l1]
            exact hown2
          clear hown2 hgrow2
          obtain ⟨av, cv, hform2, hcv⟩ := HO2.out.form
          rw [hform2] at HO2 ⊢
          clear hform2
          go_wp2_with fail
          go_roundw
          case rel => exact ⟨.inr (.inl ⟨rfl, HO2⟩), HB2.out⟩
          case measure => decide
        · obtain ⟨af, cf, hform, hcf⟩ := HO.out.form
          have hcell := (hbel.cell (p := ⟨h, 1, none⟩) hh).trans g2
          have hs := hbel.size
          have HS : Hid (wr.ownsRow W0.heap.size 82 2 (.slice af n1 cf) n1 (opFlat z1)) := by
            show World.ownsRow _ _ _ _ _ _ _
            have := HO.out
            rw [hform] at this
            unfold OwnOp at this
            simp only [List.length_reverse, l1, opRow_flat] at this
            exact this
          have hu6 : u6 = .slice af n1 cf := by rw [hform]; simp only [List.length_reverse, l1, opRow_flat]
          subst hu6
          have HN := hidOf (ops_news (w := wr) l2 (fun i hi => ⟨(hbel.cell (p := ⟨b2, o2 + i * 2, none⟩) hb2).trans (D2.out i hi).1, (hbel.cell (p := ⟨b2, o2 + i * 2 + 1, none⟩) hb2).trans (D2.out i hi).2⟩))
          clear hform hcf
          go_wp2_with (at_builtin; refine wpList_append_own _ rfl (.tmp 31) (.tmp 32) 41 rfl W0.heap.size 82 i0 (.agg #[.int .i64 0, .int .i64 0]) 2 16 Tryz.underlying41 hi hz0 hz1 hz2 rfl (by decide) _ n1 (opFlat z1) rfl HS.out ⟨b2, o2, none⟩ n2 c2 (opFlat z2) rfl (by rw [opFlat_len, l2]) HN.out (opFlat_one _) (by unfold maxLen; omega) (by omega) (by omega) ?_)
          intro v' w2 hown2 hgrow2 _
          have HB2 : Hid (Below W0.heap.size W0 w2) := hbel.trans ((Below.refl W0.heap.size wr).grown hgrow2 (by omega) (fun q hq => (World.ownsRow.lt HS.out q hq).1))
          have HO2 : Hid (OwnOp W0.heap.size w2 v' (z1 ++ z2).reverse) := by
            show World.ownsRow _ _ _ _ _ _ _
            rw [opRow_flat, List.length_reverse, List.length_append, l1, l2, opFlat_app]
            exact hown2
          clear hown2 hgrow2
          obtain ⟨av, cv, hform2, hcv⟩ := HO2.out.form
          rw [hform2] at HO2 ⊢
          clear hform2
          go_wp2_with fail
          go_roundw
          case rel => exact ⟨.inr (.inr ⟨rfl, HO2⟩), HB2.out⟩
          case measure => decide
        · obtain ⟨af, cf, hform, hcf⟩ := HO.out.form
          have HOF := HO
          rw [hform] at HOF ⊢
          clear hform
          go_wp2_with fail
          go_ret
          exact ⟨_, rfl, by rw [HEQ.out]; exact HOF.out, by rw [HEQ.out]; exact hbel⟩
end Go.Proofs.YtbpfonmkbbnkcaaGreatDoor
