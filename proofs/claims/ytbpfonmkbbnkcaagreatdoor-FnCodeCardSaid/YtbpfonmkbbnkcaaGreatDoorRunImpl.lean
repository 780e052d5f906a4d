/- What CodeRun of the program comes to. -/
import Derived.Test.YtbpfonmkbbnkcaaGreatDoorBunJ
import Derived.Laws.EntriesVeiled
import Derived.Deep.RegionWith
namespace Go.Proofs.YtbpfonmkbbnkcaaGreatDoor
open Go.RowKit Go.PlainAid
set_option linter.unusedSimpArgs false
set_option linter.unusedVariables false

def fun39 : Value := .func (Fn.func 91) #[] #[]
/-- the functions of ops, by kind -/
def opTable : Array Value := #[.nilFunc, .func (Fn.func 88) #[] #[], .func (Fn.func 89) #[] #[], .func (Fn.func 90) #[] #[], .func (Fn.func 90) #[] #[], .func (Fn.func 91) #[] #[], .func (Fn.func 91) #[] #[], .func (Fn.func 91) #[] #[], .func (Fn.func 91) #[] #[], .func (Fn.func 91) #[] #[], .func (Fn.func 91) #[] #[], .func (Fn.func 91) #[] #[], .func (Fn.func 91) #[] #[], .func (Fn.func 91) #[] #[]]

theorem opFuncs_any (w : World) : Calls Tryz.prog 60 #[] w fun e w' => e = .returned (.agg opTable) ∧ Below w.heap.size w w' := by
  unfold opTable
  go_enter Tryz.func60, Tryz.ntmps60
  go_wp2
  go_returns
  exact ⟨rfl, (Below.refl _ _).alloc (Nat.le_refl _) _⟩

theorem tab_pair {q : Nat} (h : 5 ≤ q ∧ q ≤ 13) : opTable[q]? = some (.func (Fn.func 91) #[] #[]) := by
  have : q = 5 ∨ q = 6 ∨ q = 7 ∨ q = 8 ∨ q = 9 ∨ q = 10 ∨ q = 11 ∨ q = 12 ∨ q = 13 := by omega
  rcases this with rfl | rfl | rfl | rfl | rfl | rfl | rfl | rfl | rfl <;> rfl
theorem ints_alloc {B : Nat} {w : World} {a : Option Addr} {n : Nat} {vs : List Int} (h : IsInts B w a n vs) (hB : B ≤ w.heap.size) (o : Obj) : IsInts B (w.alloc o).drew a n vs :=
  h.below (((Below.refl _ _).alloc hB o).drew)
theorem rel_next {w w2 wr w' : World} {o : Obj} (hbel : Below w.heap.size w wr) (hsz : w2.heap.size + 1 < wr.heap.size) (hw2 : w.heap.size ≤ w2.heap.size)
    (HT : ∀ j v, opTable[j]? = some v → wr.cell? ⟨w2.heap.size, j, none⟩ = some v) (hb0 : Below (w2.heap.size + 1) (wr.alloc o).drew w') :
    Below w.heap.size w w' ∧ w2.heap.size + 1 < w'.heap.size ∧ ∀ j v, opTable[j]? = some v → w'.cell? ⟨w2.heap.size, j, none⟩ = some v := by
  have hb1 : Below (w2.heap.size + 1) (wr.alloc o) w' := ⟨hb0.os, hb0.tape, hb0.output, hb0.size, hb0.block⟩
  have h1 := hbel.size
  have h2 := hb1.size
  refine ⟨(hbel.alloc h1 o).trans (hb1.mono (by omega)), by simp at h2; omega, fun j v hj => ?_⟩
  rw [hb1.cell (by simp)]
  exact (World.cell?_alloc_past _ _ _ (by omega)).trans (HT j v hj)

set_option maxHeartbeats 800000 in
theorem implRun_any (a : Option Addr) (n cap : Nat) (va : Option Addr) (vn vcap : Nat) (zs : List (Int × Int)) (vs : List Int) (w : World) (hn : n ≤ 1048576) (hvn : vn ≤ 1048576) (hz : IsOps w a n zs) (hv : IsInts w.heap.size w va vn vs) :
    Calls Tryz.prog 28 #[.slice a n cap, .slice va vn vcap] w fun e w' => e = .returned (.int .i64 (codeVal vs zs)) ∧ Below w.heap.size w w' := by
  have hlen := hz.1
  have hvlen := hv.1
  have HZ : Hid (IsOps w a n zs) := hz
  have HV : Hid (IsInts w.heap.size w va vn vs) := hv
  clear hz hv
  by_cases hneg : deepOf vn zs < 0
  · have HC : Hid (codeVal vs zs = 0) := by
      show codeVal vs zs = 0
      unfold codeVal; rw [if_pos (by rw [hvlen]; exact hneg)]
    go_enter Tryz.func28, Tryz.ntmps28
    go_wp2_with fail
    refine (implDeep_any _ _ _ _ zs _ hn HZ.out).mono ?_
    rintro e w1 ⟨rfl, hb1⟩
    go_wp2_with fail
    go_ret
    exact ⟨ret_int HC.out.symm, hb1⟩
  · obtain ⟨⟨s0, s1, s2⟩, mm, hdn⟩ := deepOf_ok hneg
    have HC : Hid (codeVal vs zs = (runTo vs zs n).headD 0) := by
      show codeVal vs zs = _
      unfold codeVal; rw [if_neg (by rw [hvlen]; exact hneg), hlen]
    rw [hlen] at hdn s2
    have HD : Hid (deepTo vn zs n = some (1, mm)) := hdn
    have hneg' : decide (deepOf vn zs < 0) = false := by simpa using hneg
    clear hdn hneg
    go_enter Tryz.func28, Tryz.ntmps28
    go_wp2_with fail
    refine (implDeep_any _ _ _ _ zs _ hn HZ.out).mono ?_
    rintro e w1 ⟨rfl, hb1⟩
    go_wp2_with fail
    refine (opFuncs_any _).mono ?_
    rintro e w2 ⟨rfl, hb2⟩
    unfold opTable
    have hw2 : w.heap.size ≤ w2.heap.size := by have := hb1.size; have := hb2.size; omega
    go_wp2_with fail
    go_loopw [19] (fun i wr => ∃ k : Nat, k ≤ n ∧ i = .int .i64 k ∧ Hid (Stk (w2.heap.size + 1) wr (runTo vs zs k)) ∧ Below w.heap.size w wr ∧ w2.heap.size + 1 < wr.heap.size ∧ ∀ j v, opTable[j]? = some v → wr.cell? ⟨w2.heap.size, j, none⟩ = some v) (fun i _ => n - (intOf i).toNat)
    case atStart =>
      refine ⟨0, Nat.zero_le _, rfl, ?_, ?_, by simp, fun j v hj => ?_⟩
      · exact ⟨.slice none 0 0, by simp, by simp, World.ownsRow_nil _ _ _ _⟩
      · have := hb1.size
        have := hb2.size
        exact (((hb1.trans (hb2.mono hb1.size)).alloc (by omega) _).alloc (by simp; omega) _)
      · unfold opTable at hj; simpa using hj
    case round =>
      obtain ⟨k, hk, rfl, hst, hbel, hsz, htab⟩ := hrel
      by_cases hlt : k < n
      · obtain ⟨d, m, hd⟩ := deepTo_some HD.out (show k ≤ n by omega)
        obtain ⟨o1, o2, m', o3⟩ := step_of HD.out hlt hd
        have hl := run_le (vs := vs) HD.out (show k ≤ n by omega)
        have hrl := (run_len (vs := vs) HD.out k (by omega) hd).1
        rcases HZ.out.2 with h0 | ⟨b, off, rfl, hb, hc⟩
        · omega
        have c0 := (hbel.cell (p := ⟨b, off + k * 2, none⟩) hb).trans (hc k hlt).1
        have c1 := (hbel.cell (p := ⟨b, off + k * 2 + 1, none⟩) hb).trans (hc k hlt).2
        obtain ⟨⟨x, y⟩, hxy⟩ : ∃ xy, zs.getD k (0, 0) = xy := ⟨_, rfl⟩
        have HR : Hid (runTo vs zs (k + 1) = runOp vs (x, y) (runTo vs zs k)) := by
          show runTo vs zs (k + 1) = _
          rw [← hxy]; rfl
        rw [hxy] at c0 c1 o1 o2
        generalize runTo vs zs k = st at *
        clear hc hxy o3 hd
        rcases okB_cases o1 with ⟨rfl, _⟩ | ⟨rfl, y0, y1⟩ | hx | hx
        · skip
          have t1 : wr.cell? ⟨w2.heap.size, 1, none⟩ = some (.func (Fn.func 88) #[] #[]) := htab 1 _ rfl
          have HT : Hid (∀ j v, opTable[j]? = some v → wr.cell? ⟨w2.heap.size, j, none⟩ = some v) := htab
          clear htab
          have hq : w2.heap.size < wr.heap.size := by omega
          go_wp2_with fail
          go_region_with (go_at_call 88; refine (runNum_any _ _ _ _ _ _ st _ (by exact (hst.out.alloc _)) (by omega)).mono ?_; rintro e w' ⟨rfl, hs1, hb1⟩)
          all_goals
            have HN := rel_next hbel hsz hw2 HT.out hb1
            have HS1 : Hid (Stk (w2.heap.size + 1) w' (runTo vs zs (k + 1))) := by
              show Stk _ _ _
              rw [HR.out]; exact hs1
            clear hb1 hs1
            go_wp2_with fail
            go_roundw
            case rel => exact ⟨k + 1, by omega, by go_num, HS1.out, HN⟩
            case measure => simp [intOf]; omega
        · obtain ⟨q, rfl⟩ := Int.eq_ofNat_of_zero_le y0
          have HV2 : Hid (IsInts (w2.heap.size + 1) wr va vn vs) := (HV.out.below hbel).mono (by omega)
          have t1 : wr.cell? ⟨w2.heap.size, 2, none⟩ = some (.func (Fn.func 89) #[] #[]) := htab 2 _ rfl
          have HT : Hid (∀ j v, opTable[j]? = some v → wr.cell? ⟨w2.heap.size, j, none⟩ = some v) := htab
          clear htab
          have hq : w2.heap.size < wr.heap.size := by omega
          go_wp2_with fail
          go_region_with (go_at_call 89; refine (runName_any _ q _ _ _ vs st _ (by exact (hst.out.alloc _)) (by omega) (by exact ints_alloc HV2.out (by omega) _) (by omega) (by omega)).mono ?_; rintro e w' ⟨rfl, hs1, hb1⟩)
          all_goals
            have HN := rel_next hbel hsz hw2 HT.out hb1
            have HS1 : Hid (Stk (w2.heap.size + 1) w' (runTo vs zs (k + 1))) := by
              show Stk _ _ _
              rw [HR.out]; exact hs1
            clear hb1 hs1
            go_wp2_with fail
            go_roundw
            case rel => exact ⟨k + 1, by omega, by go_num, HS1.out, HN⟩
            case measure => simp [intOf]; omega
        · have hst1 : ∃ z r, st = z :: r := by
            cases st with
            | nil => rcases hx with rfl | rfl <;> simp [tk] at o2 hrl <;> omega
            | cons z r => exact ⟨z, r, rfl⟩
          obtain ⟨z, r, rfl⟩ := hst1
          simp at hl
          rcases hx with rfl | rfl
          · skip
            have t1 : wr.cell? ⟨w2.heap.size, 3, none⟩ = some (.func (Fn.func 90) #[] #[]) := htab 3 _ rfl
            have HT : Hid (∀ j v, opTable[j]? = some v → wr.cell? ⟨w2.heap.size, j, none⟩ = some v) := htab
            clear htab
            have hq : w2.heap.size < wr.heap.size := by omega
            go_wp2_with fail
            go_region_with (go_at_call 90; refine (runAhead_any _ _ _ z _ _ _ r _ (Or.inl rfl) (by exact (hst.out.alloc _)) (by omega)).mono ?_; rintro e w' ⟨rfl, hs1, hb1⟩)
            all_goals
              have HN := rel_next hbel hsz hw2 HT.out hb1
              have HS1 : Hid (Stk (w2.heap.size + 1) w' (runTo vs zs (k + 1))) := by
                show Stk _ _ _
                rw [HR.out]; exact hs1
              clear hb1 hs1
              go_wp2_with fail
              go_roundw
              case rel => exact ⟨k + 1, by omega, by go_num, HS1.out, HN⟩
              case measure => simp [intOf]; omega
          · skip
            have t1 : wr.cell? ⟨w2.heap.size, 4, none⟩ = some (.func (Fn.func 90) #[] #[]) := htab 4 _ rfl
            have HT : Hid (∀ j v, opTable[j]? = some v → wr.cell? ⟨w2.heap.size, j, none⟩ = some v) := htab
            clear htab
            have hq : w2.heap.size < wr.heap.size := by omega
            go_wp2_with fail
            go_region_with (go_at_call 90; refine (runAhead_any _ _ _ z _ _ _ r _ (Or.inr rfl) (by exact (hst.out.alloc _)) (by omega)).mono ?_; rintro e w' ⟨rfl, hs1, hb1⟩)
            all_goals
              have HN := rel_next hbel hsz hw2 HT.out hb1
              have HS1 : Hid (Stk (w2.heap.size + 1) w' (runTo vs zs (k + 1))) := by
                show Stk _ _ _
                rw [HR.out]; exact hs1
              clear hb1 hs1
              go_wp2_with fail
              go_roundw
              case rel => exact ⟨k + 1, by omega, by go_num, HS1.out, HN⟩
              case measure => simp [intOf]; omega
        · obtain ⟨q, rfl⟩ := Int.eq_ofNat_of_zero_le (show 0 ≤ x by omega)
          have hq5 : 5 ≤ q ∧ q ≤ 13 := by omega
          have HX : Hid (5 ≤ (q : Int) ∧ (q : Int) ≤ 13) := hx
          have htk : tk q = 2 := by unfold tk; rw [if_neg (by omega), if_neg (by omega)]
          rw [htk] at o2
          have hst1 : ∃ z z' r, st = z :: z' :: r := by
            match st, hrl with
            | [], h => simp at h; omega
            | [z], h => simp at h; omega
            | z :: z' :: r, _ => exact ⟨z, z', r, rfl⟩
          obtain ⟨z, z', r, rfl⟩ := hst1
          simp at hl
          have HR2 : runOp vs ((q : Int), y) (z :: z' :: r) = two q z' z :: r := by
            unfold runOp
            rw [if_neg (by simp; omega), if_neg (by simp; omega), if_neg (by simp; omega)]
            rfl
          replace HR : Hid (runTo vs zs (k + 1) = two q z' z :: r) := HR.out.trans HR2
          have hq13 : (q : Int) ≤ 13 := hx.2
          clear HR2 htk hx
          have t1 : wr.cell? ⟨w2.heap.size, q, none⟩ = some (.func (Fn.func 91) #[] #[]) := htab q _ (tab_pair hq5)
          have HT : Hid (∀ j v, opTable[j]? = some v → wr.cell? ⟨w2.heap.size, j, none⟩ = some v) := htab
          clear htab
          have hq : w2.heap.size < wr.heap.size := by omega
          go_wp2_with fail
          go_region_with (go_at_call 91; refine (runPair_any _ _ _ z' z _ _ _ r _ HX.out (by exact (hst.out.alloc _)) (by omega)).mono ?_; rintro e w' ⟨rfl, hs1, hb1⟩)
          all_goals
            have HN := rel_next hbel hsz hw2 HT.out hb1
            have HS1 : Hid (Stk (w2.heap.size + 1) w' (runTo vs zs (k + 1))) := by
              show Stk _ _ _
              rw [HR.out]; exact hs1
            clear hb1 hs1
            go_wp2_with fail
            go_roundw
            case rel => exact ⟨k + 1, by omega, by go_num, HS1.out, HN⟩
            case measure => simp [intOf]; omega
      · have : k = n := by omega
        subst this
        obtain ⟨h1, h2⟩ := run_len (vs := vs) HD.out k (Nat.le_refl _) HD.out
        generalize runTo vs zs k = st at *
        have hst1 : ∃ z, st = [z] := by
          match st, h1 with
          | [], h => simp at h
          | [z], _ => exact ⟨z, rfl⟩
          | _ :: _ :: _, h => simp at h; omega
        obtain ⟨z, rfl⟩ := hst1
        have hz32 := h2 z (by simp)
        obtain ⟨z1, z2⟩ := hz32
        clear h1 h2 htab
        go_wp2_with fail
        refine (pop_any _ z [] _ hst.out (by simp)).mono ?_
        rintro e w3 ⟨rfl, _, h3, _⟩
        go_wp2_with fail
        go_ret
        exact ⟨ret_int (by rw [HC.out]; rfl), hbel.trans (h3.mono (by omega))⟩
end Go.Proofs.YtbpfonmkbbnkcaaGreatDoor
