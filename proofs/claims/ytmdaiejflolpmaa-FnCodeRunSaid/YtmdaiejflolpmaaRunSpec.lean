/- What CodeRun of the model comes to. -/
import Derived.Test.YtmdaiejflolpmaaRunOps
import Derived.Test.YtmdaiejflolpmaaRunPlain
import Derived.Deep.RegionWith
namespace Go.Proofs.Ytmdaiejflolpmaa
open Go.RowKit Go.PlainAid
set_option linter.unusedSimpArgs false
set_option linter.unusedVariables false

theorem infoInt : (Try.prog.info? 3).map (fun i => (i.zero, i.size, i.bytes)) = some (some (.int .i64 0), 1, 8) := by kernel_rfl
def i64s (st : List Int) : List Value := st.reverse.map (Value.int .i64)
theorem i64s_cons (x : Int) (st : List Int) : i64s (x :: st) = i64s st ++ [Value.int .i64 x] := by simp [i64s]

/-- the model's stack: the slice (g, cap) owns st, its top first -/
def Own (B g cap : Nat) (w : World) (st : List Int) : Prop := w.ownsRow B 3 1 (.slice (some ⟨g, 0, none⟩) st.length cap) st.length (i64s st)
theorem i64s_len (st : List Int) : (i64s st).length = st.length := by simp [i64s]
theorem Own.top {B g cap : Nat} {w : World} {z : Int} {r : List Int} (h : Own B g cap w (z :: r)) : w.cell? ⟨g, r.length, none⟩ = some (.int .i64 z) ∧ w.frozen? ⟨g, r.length, none⟩ = false := by
  unfold Own at h
  rw [i64s_cons] at h
  refine ⟨?_, h.frozenAt _⟩
  rw [h.cellAt r.length (by simp)]
  simp [i64s]
theorem Own.next {B g cap : Nat} {w : World} {z z' : Int} {r : List Int} (h : Own B g cap w (z :: z' :: r)) : w.cell? ⟨g, r.length, none⟩ = some (.int .i64 z') ∧ w.frozen? ⟨g, r.length, none⟩ = false := by
  unfold Own at h
  rw [i64s_cons, i64s_cons] at h
  refine ⟨?_, h.frozenAt _⟩
  rw [h.cellAt r.length (by simp; omega)]
  simp [i64s]
theorem Own.put {B g cap : Nat} {w : World} {z : Int} {r : List Int} (h : Own B g cap w (z :: r)) (u : Int) : Own B g cap (w.setCell ⟨g, r.length, none⟩ (.int .i64 u)) (u :: r) := by
  unfold Own at *
  have h2 := (h.stored r.length (.int .i64 u)).1
  have e : (i64s (z :: r)).set r.length (.int .i64 u) = i64s (u :: r) := by
    rw [i64s_cons, i64s_cons, List.set_append_right _ _ (by rw [i64s_len]; exact Nat.le_refl _), i64s_len]; simp
  rw [e] at h2
  exact h2
theorem Own.pop {B g cap : Nat} {w : World} {z : Int} {r : List Int} (h : Own B g cap w (z :: r)) : Own B g cap w r := by
  unfold Own at *
  rw [i64s_cons] at h
  exact ownsRow_pop (by simp [i64s]) h
theorem Own.put2 {B g cap : Nat} {w : World} {z z' : Int} {r : List Int} (h : Own B g cap w (z :: z' :: r)) (u : Int) : Own B g cap (w.setCell ⟨g, r.length, none⟩ (.int .i64 u)) (u :: r) := h.pop.put u
theorem Own.lt {B g cap : Nat} {w : World} {st : List Int} (h : Own B g cap w st) : B ≤ g ∧ g < w.heap.size := World.ownsRow.lt h g rfl
theorem Own.cap {B g cap : Nat} {w : World} {st : List Int} (h : Own B g cap w st) : st.length ≤ cap := by
  rcases h.2 with ⟨h, _⟩ | ⟨g', cap', cur, h, _, _, h3, _⟩
  · simp at h
  · simp at h; omega
/-- behind an append -/
theorem Own.of {B : Nat} {w : World} {v' : Value} {z : Int} {st : List Int} (h : w.ownsRow B 3 1 v' (st.length + 1) (i64s st ++ [.int .i64 z])) : ∃ g cap, v' = .slice (some ⟨g, 0, none⟩) (st.length + 1) cap ∧ Own B g cap w (z :: st) := by
  have h0 := h.2
  rcases h0 with ⟨_, h1⟩ | ⟨g, cap, cur, h1, _⟩
  · simp at h1
  · refine ⟨g, cap, h1, ?_⟩
    subst h1
    unfold Own
    rw [i64s_cons]; exact h

theorem ops_below {w w' : World} {a : Option Addr} {n : Nat} {zs : List (Int × Int)} (h : IsOps w a n zs) (hb : Below w.heap.size w w') : IsOps w' a n zs := by
  obtain ⟨h1, h2⟩ := h
  refine ⟨h1, ?_⟩
  rcases h2 with h2 | ⟨b, off, rfl, hlt, hc⟩
  · exact .inl h2
  · exact .inr ⟨b, off, rfl, by have := hb.size; omega, fun i hi => ⟨(hb.cell hlt).trans (hc i hi).1, (hb.cell hlt).trans (hc i hi).2⟩⟩

set_option maxHeartbeats 1600000 in
set_option maxRecDepth 100000 in
theorem l2Run_any (a : Option Addr) (n cap : Nat) (va : Option Addr) (vn vcap : Nat) (zs : List (Int × Int)) (vs : List Int) (w : World) (hn : n ≤ 1048576) (hvn : vn ≤ 1048576) (hz : IsOps w a n zs) (hv : IsInts w.heap.size w va vn vs)
    (hdp : ¬ deepOf vn zs < 0) :
    Calls Try.prog 27 #[.slice a n cap, .slice va vn vcap] w fun e w' => e = .returned (.int .i64 ((runTo vs zs n).headD 0)) ∧ Below w.heap.size w w' := by
  have hlen := hz.1
  have hvlen := hv.1
  have HZ : Hid (IsOps w a n zs) := hz
  have HV : Hid (IsInts w.heap.size w va vn vs) := hv
  obtain ⟨⟨s0, s1, s2⟩, mm, hdn⟩ := deepOf_ok hdp
  rw [hlen] at hdn s2
  have HD : Hid (deepTo vn zs n = some (1, mm)) := hdn
  obtain ⟨i0, hi, hz0, hz1, hz2⟩ := info_parts infoInt
  clear hz hv hdn hdp
  go_enter Try.func27, Try.ntmps27
  go_wp2_with fail
  go_loopw [5, 6] (fun v i wr => ∃ (k g c : Nat), k ≤ n ∧ i = .int .i64 k ∧ v = .slice (some ⟨g, 0, none⟩) (runTo vs zs k).length c ∧ Hid (Own w.heap.size g c wr (runTo vs zs k)) ∧ Below w.heap.size w wr) (fun _ i _ => n - (intOf i).toNat)
  case atStart =>
    exact ⟨0, w.heap.size, 0, Nat.zero_le _, rfl, rfl, World.ownsRow_made w #[] 0 (Nat.le_refl _) (Nat.zero_le _) rfl, (Below.refl _ _).alloc (Nat.le_refl _) _⟩
  case round =>
    obtain ⟨k, g, c, hk, rfl, rfl, HO, hbel⟩ := hrel
    obtain ⟨hg1, hg2⟩ := HO.out.lt
    have hcap := HO.out.cap
    by_cases hlt : k < n
    · obtain ⟨d, m, hd⟩ := deepTo_some HD.out (show k ≤ n by omega)
      obtain ⟨o1, o2, m', o3⟩ := step_of HD.out hlt hd
      have hl := run_le (vs := vs) HD.out (show k ≤ n by omega)
      obtain ⟨hrl, h32⟩ := run_len (vs := vs) HD.out k (by omega) hd
      rcases HZ.out.2 with h0 | ⟨b, off, rfl, hb, hc⟩
      · omega
      have c0 := (hbel.cell (p := ⟨b, off + k * 2, none⟩) hb).trans (hc k hlt).1
      have c1 := (hbel.cell (p := ⟨b, off + k * 2 + 1, none⟩) hb).trans (hc k hlt).2
      obtain ⟨⟨x, y⟩, hxy⟩ : ∃ xy, zs.getD k (0, 0) = xy := ⟨_, rfl⟩
      have HR : Hid (runTo vs zs (k + 1) = runOp vs (x, y) (runTo vs zs k)) := by
        show runTo vs zs (k + 1) = _
        rw [← hxy]; rfl
      rw [hxy] at c0 c1 o1 o2
      generalize runTo vs zs k = st at *
      have hbw : b < wr.heap.size := by have := hbel.size; omega
      have hws := hbel.size
      clear hc hxy o3 hd
      rcases okB_cases o1 with ⟨rfl, y0⟩ | ⟨rfl, y0, y1⟩ | hx | hx
      · have HR0 : runOp vs (1, y) st = y :: st := by simp [runOp, wr32_in y0]
        rw [HR0] at HR
        clear HR0 h32
        · skip
          go_wp2_with (first
            | (go_at_call 45; refine (l1Wrap_any _ _).mono ?_; rintro e w' ⟨rfl, hw'⟩; rw [hw']; clear hw' w')
            | (at_builtin; refine wpList_append_own _ rfl _ _ 24 rfl w.heap.size 3 i0 (.int .i64 0) 1 8 Try.underlying24 hi hz0 hz1 hz2 rfl (by decide) _ _ _ rfl (World.ownsRow.alloc HO.out _) ⟨wr.heap.size, 0, none⟩ 1 1 [.int .i64 y] rfl rfl ?c1 ?c2 ?c3 ?c4 ?c5 ?_))
          case c2 => rfl
          case c3 => unfold maxLen; omega
          case c4 => omega
          case c5 => omega
          intro v' w1 hown' hgrow _
          obtain ⟨g1, cap1, hv1, ho1⟩ := Own.of hown'
          have hb1 : Below w.heap.size w w1 := (hbel.alloc hbel.size _).grown hgrow (by simp; omega) (fun q hq => by have := (World.ownsRow.lt HO.out q hq).1; omega)
          have HO1 : Hid (Own w.heap.size g1 cap1 w1 (runTo vs zs (k + 1))) := by
            show Own _ _ _ _ _
            rw [HR.out]; exact ho1
          have HL : Hid ((runTo vs zs (k + 1)).length = st.length + 1) := by
            show List.length _ = _
            rw [HR.out]; simp
          clear hown' hgrow ho1
          subst hv1
          go_wp2_with fail
          go_roundw
          case rel => exact ⟨k + 1, g1, cap1, by omega, by go_num, by rw [HL.out], HO1.out, hb1⟩
          case measure => simp [intOf]; omega
      · obtain ⟨q, rfl⟩ := Int.eq_ofNat_of_zero_le y0
        obtain ⟨vq, hvq⟩ : ∃ vq, vs.getD q 0 = vq := ⟨_, rfl⟩
        have HR0 : runOp vs (2, (q : Int)) st = wr32 vq :: st := by rw [← hvq]; simp [runOp]
        rw [HR0] at HR
        clear HR0 h32
        rcases (HV.out.below hbel).2 with h0 | ⟨vb, voff, rfl, hvb, hvc⟩
        · omega
        have vc := hvc q (by omega)
        rw [hvq] at vc
        clear hvc hvq
        · skip
          go_wp2_with (first
            | (go_at_call 45; refine (l1Wrap_any _ _).mono ?_; rintro e w' ⟨rfl, hw'⟩; rw [hw']; clear hw' w')
            | (at_builtin; refine wpList_append_own _ rfl _ _ 24 rfl w.heap.size 3 i0 (.int .i64 0) 1 8 Try.underlying24 hi hz0 hz1 hz2 rfl (by decide) _ _ _ rfl (World.ownsRow.alloc HO.out _) ⟨wr.heap.size, 0, none⟩ 1 1 [.int .i64 (wr32 vq)] rfl rfl ?d1 ?d2 ?d3 ?d4 ?d5 ?_))
          case d1 => exact one_new _ _ _
          case d2 => intro u hu; simp at hu; subst hu; rfl
          case d3 => unfold maxLen; omega
          case d4 => omega
          case d5 => simp; omega
          intro v' w1 hown' hgrow _
          obtain ⟨g1, cap1, hv1, ho1⟩ := Own.of hown'
          have hb1 : Below w.heap.size w w1 := (hbel.alloc hbel.size _).grown hgrow (by simp; omega) (fun q hq => by have := (World.ownsRow.lt HO.out q hq).1; omega)
          have HO1 : Hid (Own w.heap.size g1 cap1 w1 (runTo vs zs (k + 1))) := by
            show Own _ _ _ _ _
            rw [HR.out]; exact ho1
          have HL : Hid ((runTo vs zs (k + 1)).length = st.length + 1) := by
            show List.length _ = _
            rw [HR.out]; simp
          clear hown' hgrow ho1
          subst hv1
          go_wp2_with fail
          go_roundw
          case rel => exact ⟨k + 1, g1, cap1, by omega, by go_num, by rw [HL.out], HO1.out, hb1⟩
          case measure => simp [intOf]; omega
      · have hst1 : ∃ z r, st = z :: r := by
          cases st with
          | nil => rcases hx with rfl | rfl <;> simp [tk] at o2 hrl <;> omega
          | cons z r => exact ⟨z, r, rfl⟩
        obtain ⟨z, r, rfl⟩ := hst1
        obtain ⟨z1, z2⟩ := h32 z (by simp)
        obtain ⟨t1, t2⟩ := HO.out.top
        have HL : Hid ((runTo vs zs (k + 1)).length = r.length + 1) := by
          show List.length _ = _
          rw [HR.out]; rcases hx with rfl | rfl <;> simp [runOp]
        have HO1 : ∀ u, u = one x z → Hid (Own w.heap.size g c (wr.setCell ⟨g, r.length, none⟩ (.int .i64 u)) (runTo vs zs (k + 1))) := fun u hu => by
          show Own _ _ _ _ _
          have e : runTo vs zs (k + 1) = u :: r := by rw [HR.out, hu]; rcases hx with rfl | rfl <;> simp [runOp]
          rw [e]; exact HO.out.put u
        have hb1 : ∀ u, Below w.heap.size w (wr.setCell ⟨g, r.length, none⟩ u) := fun u => hbel.setCell hg1 u
        simp at hl hcap
        clear h32 HR
        rcases hx with rfl | rfl
        · have HO2 := HO1 (wr32 (-z)) rfl
          clear HO1
          go_wp2_with (go_at_call 45; refine (l1Wrap_any _ _).mono ?_; rintro e w' ⟨rfl, rfl⟩)
          go_roundw
          case rel => exact ⟨k + 1, g, c, by omega, by go_num, by rw [HL.out], HO2, hb1 _⟩
          case measure => simp [intOf]; omega
        · have HO2 := HO1 (bit (z == 0)) rfl
          clear HO1
          go_wp2_with (go_at_call 46; refine (l1Bit_any _ _).mono ?_; rintro e w' ⟨rfl, rfl⟩)
          go_roundw
          case rel => exact ⟨k + 1, g, c, by omega, by go_num, by rw [HL.out], HO2, hb1 _⟩
          case measure => simp [intOf]; omega
      · have htk : tk x = 2 := by unfold tk; rw [if_neg (by omega), if_neg (by omega)]
        rw [htk] at o2
        have hst1 : ∃ z z' r, st = z :: z' :: r := by
          match st, hrl with
          | [], h => simp at h; omega
          | [z], h => simp at h; omega
          | z :: z' :: r, _ => exact ⟨z, z', r, rfl⟩
        obtain ⟨z, z', r, rfl⟩ := hst1
        have HZ1 : Hid (In32 z) := h32 z (by simp)
        have HZ2 : Hid (In32 z') := h32 z' (by simp)
        have HX : Hid (5 ≤ x ∧ x ≤ 13) := hx
        obtain ⟨t1, t2⟩ := HO.out.top
        obtain ⟨t3, t4⟩ := HO.out.next
        have HR2 : runOp vs (x, y) (z :: z' :: r) = two x z' z :: r := by
          unfold runOp
          rw [if_neg (by simp; omega), if_neg (by simp; omega), if_neg (by simp; omega)]
          rfl
        have HL : Hid ((runTo vs zs (k + 1)).length = r.length + 1) := by
          show List.length _ = _
          rw [HR.out, HR2]; rfl
        have HO1 : Hid (Own w.heap.size g c (wr.setCell ⟨g, r.length, none⟩ (.int .i64 (two x z' z))) (runTo vs zs (k + 1))) := by
          show Own _ _ _ _ _
          rw [HR.out, HR2]; exact HO.out.put2 _
        have hb1 : ∀ u, Below w.heap.size w (wr.setCell ⟨g, r.length, none⟩ u) := fun u => hbel.setCell hg1 u
        have e1 : (x == 1) = false := by simp; omega
        have e2 : (x == 2) = false := by simp; omega
        have e3 : (x == 3) = false := by simp; omega
        have e4 : (x == 4) = false := by simp; omega
        obtain ⟨N, hN⟩ : ∃ N, (z :: z' :: r).length = N := ⟨_, rfl⟩
        obtain ⟨L, hL⟩ : ∃ L, r.length = L := ⟨_, rfl⟩
        obtain ⟨M, hM⟩ : ∃ M, (z' :: r).length = M := ⟨_, rfl⟩
        have q1 : (N : Int) - 2 = L := by simp at hN; omega
        have q2 : (N : Int) - 1 = M := by simp at hN hM; omega
        have q3 : L < N := by simp at hN; omega
        have q4 : M < N := by simp at hN hM; omega
        have q5 : M = L + 1 := by simp at hM; omega
        have HQ5 : Hid (M = L + 1) := q5
        have p1 : IntKind.i64.wrap (L : Int) = L := by exact IntWalk.i64_in _ ⟨by omega, by omega⟩
        have p2 : IntKind.i64.wrap (M : Int) = M := by exact IntWalk.i64_in _ ⟨by omega, by omega⟩
        have p3 : (L : Int) < N := by omega
        have p4 : (M : Int) < N := by omega
        have p5 : (0 : Int) ≤ L := by omega
        have p6 : (0 : Int) ≤ M := by omega
        clear q5
        rw [hN] at hl hcap ⊢
        rw [hL] at t3 t4 HO1 hb1 HL
        rw [hM] at t1 t2
        clear h32 HR HR2 htk hx hN hL hM HO hrl
        go_wp2_with fail
        go_region_with (go_at_call 47; refine (l1Two_any _ _ _ _ HX.out HZ2.out HZ1.out).mono ?_; rintro e w' ⟨rfl, rfl⟩)
        all_goals
          go_wp2_with fail
          go_roundw
          case rel => exact ⟨k + 1, g, c, by omega, by go_num, by rw [HL.out, HQ5.out], HO1.out, (hb1 _).drew⟩
          case measure => simp [intOf]; omega
    · have : k = n := by omega
      subst this
      obtain ⟨h1, h2⟩ := run_len (vs := vs) HD.out k (Nat.le_refl _) HD.out
      obtain ⟨st, hst⟩ : ∃ st, runTo vs zs k = st := ⟨_, rfl⟩
      have HE : Hid (runTo vs zs k = st) := hst
      rw [hst] at HO h1
      rw [hst]
      clear hst h2
      have hst1 : ∃ z, st = [z] := by
        match st, h1 with
        | [], h => simp at h
        | [z], _ => exact ⟨z, rfl⟩
        | _ :: _ :: _, h => simp at h; omega
      obtain ⟨z, rfl⟩ := hst1
      obtain ⟨t1, t2⟩ := HO.out.top
      simp at t1
      clear h1
      go_wp2_with fail
      go_ret
      exact ⟨ret_int (by rw [HE.out]; rfl), hbel⟩

theorem specRun_any (a : Option Addr) (n cap : Nat) (va : Option Addr) (vn vcap : Nat) (zs : List (Int × Int)) (vs : List Int) (w : World) (hn : n ≤ 1048576) (hvn : vn ≤ 1048576) (hz : IsOps w a n zs) (hv : IsInts w.heap.size w va vn vs) :
    Calls Try.prog 10 #[.slice a n cap, .slice va vn vcap] w fun e w' => e = .returned (.int .i64 (codeVal vs zs)) ∧ Below w.heap.size w w' := by
  have hlen := hz.1
  have hvlen := hv.1
  have HZ : Hid (IsOps w a n zs) := hz
  have HV : Hid (IsInts w.heap.size w va vn vs) := hv
  clear hz hv
  by_cases hneg : deepOf vn zs < 0
  · have HC : Hid (codeVal vs zs = 0) := by
      show codeVal vs zs = 0
      unfold codeVal; rw [if_pos (by rw [hvlen]; exact hneg)]
    go_enter Try.func10, Try.ntmps10
    go_wp2_with fail
    refine (specDeep_any _ _ _ _ zs _ hn HZ.out).mono ?_
    rintro e w1 ⟨rfl, hb1⟩
    go_wp2_with fail
    go_ret
    exact ⟨ret_int HC.out.symm, hb1⟩
  · have HC : Hid (codeVal vs zs = (runTo vs zs n).headD 0) := by
      show codeVal vs zs = _
      unfold codeVal; rw [if_neg (by rw [hvlen]; exact hneg), hlen]
    have HN : Hid (¬ deepOf vn zs < 0) := hneg
    go_enter Try.func10, Try.ntmps10
    go_wp2_with fail
    refine (specDeep_any _ _ _ _ zs _ hn HZ.out).mono ?_
    rintro e w1 ⟨rfl, hb1⟩
    go_wp2_with fail
    refine (l2Run_any _ _ _ _ _ _ zs vs _ hn hvn (ops_below HZ.out hb1) ((HV.out.below hb1).mono hb1.size) (by have := HN.out; omega)).mono ?_
    rintro e w2 ⟨rfl, hb2⟩
    go_wp2_with fail
    go_ret
    exact ⟨ret_int (by simpa using HC.out.symm), hb1.trans (hb2.mono hb1.size)⟩
end Go.Proofs.Ytmdaiejflolpmaa
