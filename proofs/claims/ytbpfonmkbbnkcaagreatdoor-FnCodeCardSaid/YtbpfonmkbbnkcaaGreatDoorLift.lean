/- What the laws on drawn sums share: a code that came in, opened; comparisons; what is drawn from a new reader. -/
import Derived.Test.YtbpfonmkbbnkcaaGreatDoorBunF
import Derived.Test.YtbpfonmkbbnkcaaGreatDoorAnyNodes
import Derived.Test.YtbpfonmkbbnkcaaGreatDoorRunM
import Derived.ShutString
import Derived.ChangeOld
namespace Go.Proofs.YtbpfonmkbbnkcaaGreatDoor
open Go Go.RowKit Go.PlainAid Go.ChangeShapes Go.WideShapes Go.ChangeAt
set_option linter.unusedSimpArgs false
set_option linter.unusedVariables false

/-- what the walk is told of a slice of integers that came in -/
def IsRow (k : IntKind) (w : World) (a : Option Addr) (len cap : Nat) (zs : List Int) : Prop :=
  (a = none ∧ len = 0 ∧ cap = 0 ∧ zs = []) ∨
  ∃ x, a = some x ∧ len ≤ cap ∧ cap ≤ maxLen ∧ zs.length = cap ∧ (∀ i, i < zs.length → w.cell? (x.add i) = some (.int k (zs.getD i 0))) ∧ ∀ n ∈ zs, (Lit.int k n).wf = true

theorem wf_u8 {n : Int} (h : (Lit.int .u8 n).wf = true) : 0 ≤ n ∧ n < 256 := by
  simp [Lit.wf, IntKind.min, IntKind.max, IntKind.signed, IntKind.bits] at h
  omega
theorem row_bytes {w : World} {a : Option Addr} {len cap : Nat} {zs : List Int} (h : IsRow .u8 w a len cap zs) : len ≤ cap ∧ cap ≤ maxLen ∧ ∃ l, IsBytes w.heap.size w a len l := by
  rcases h with ⟨rfl, rfl, rfl, rfl⟩ | ⟨x, rfl, h1, h2, h3, h4, h5⟩
  · exact ⟨by omega, by simp, [], rfl, .inl rfl⟩
  · refine ⟨h1, h2, zs.take len, by simp; omega, ?_⟩
    by_cases h0 : len = 0
    · exact .inl h0
    obtain ⟨b, off, spot⟩ := x
    have hc := h4 0 (by omega)
    have hspot : spot = none := by simpa [Addr.add] using World.cell?_spot hc
    subst hspot
    refine .inr ⟨b, off, rfl, World.block_lt_of_cell? _ _ hc, fun i hi => ?_⟩
    have hi2 : i < len := by simp at hi; omega
    have hi3 : i < zs.length := by omega
    have g := h4 i hi3
    rw [add_plain] at g
    have hw := wf_u8 (h5 zs[i] (List.getElem_mem hi3))
    rw [g]
    simp [hi3]
    exact hw

theorem ttSmall_any (n : Int) (w : World) : Calls Tryz.prog 22 #[.int .i64 n] w fun e w' => e = .returned (.bool (decide (-2147483648 ≤ n ∧ n ≤ 2147483647))) ∧ w' = w := by
  by_cases h : -2147483648 ≤ n
  · go_enter Tryz.func22, Tryz.ntmps22
    go_wp2
    go_ret
    exact ⟨ret_bool (by simp [h]), rfl⟩
  · go_enter Tryz.func22, Tryz.ntmps22
    go_wp2
    go_ret
    exact ⟨ret_bool (by simp; omega), rfl⟩

set_option maxHeartbeats 800000 in
set_option maxRecDepth 100000 in
theorem ttNodes_any (B : Nat) (a a' : Option Addr) (n n' cap cap' : Nat) (l l' : List Nd) (w : World) (hn : n ≤ 1048576) (hn' : n' ≤ 1048576) (hz : IsNds B w a n l) (hz' : IsNds B w a' n' l') :
    Calls Tryz.prog 16 #[.slice a n cap, .slice a' n' cap'] w fun e w' => e = .returned (.bool (decide (l = l'))) ∧ Below w.heap.size w w' := by
  obtain ⟨hlen, hcells⟩ := hz
  obtain ⟨hlen', hcells'⟩ := hz'
  obtain ⟨D, hD⟩ : ∃ D, decide (l = l') = D := ⟨_, rfl⟩
  have HD : Hid (decide (l = l') = D) := hD
  rw [hD]; clear hD
  by_cases hnn : n = n'
  · subst hnn
    go_enter Tryz.func16, Tryz.ntmps16
    go_wp2_with fail
    go_loopw [5] (fun i wr => ∃ k : Nat, k ≤ n ∧ i = .int .i64 k ∧ Hid (l.take k = l'.take k) ∧ Below w.heap.size w wr) (fun i _ => n - (intOf i).toNat)
    case atStart => exact ⟨0, Nat.zero_le _, rfl, by show _ = _; simp, Below.refl _ _⟩
    case round =>
      obtain ⟨k, hk, rfl, hdone, hbel⟩ := hrel
      by_cases hlt : k < n
      · rcases hcells with h0 | ⟨b, off, rfl, hb, hc⟩
        · omega
        rcases hcells' with h0 | ⟨b', off', rfl, hb', hc'⟩
        · omega
        have hkl : k < l.length := by omega
        have hkl' : k < l'.length := by omega
        obtain ⟨x0, x1, x2, hx⟩ : ∃ x0 x1 x2, l[k] = (x0, x1, x2) := ⟨_, _, _, rfl⟩
        obtain ⟨y0, y1, y2, hy⟩ : ∃ y0 y1 y2, l'[k] = (y0, y1, y2) := ⟨_, _, _, rfl⟩
        have hcx := hc k hkl
        have hcy := hc' k hkl'
        rw [hx] at hcx
        rw [hy] at hcy
        have hbw := World.block_lt_of_cell? w _ hcx.1
        have hbw' := World.block_lt_of_cell? w _ hcy.1
        have p0 := (hbel.cell (p := ⟨b, off + k * 3, none⟩) hbw).trans hcx.1
        have p1 := (hbel.cell (p := ⟨b, off + k * 3 + 1, none⟩) hbw).trans hcx.2.1
        have p2 := (hbel.cell (p := ⟨b, off + k * 3 + 1 + 1, none⟩) hbw).trans hcx.2.2
        have q0 := (hbel.cell (p := ⟨b', off' + k * 3, none⟩) hbw').trans hcy.1
        have q1 := (hbel.cell (p := ⟨b', off' + k * 3 + 1, none⟩) hbw').trans hcy.2.1
        have q2 := (hbel.cell (p := ⟨b', off' + k * 3 + 1 + 1, none⟩) hbw').trans hcy.2.2
        simp only at p0 p1 p2 q0 q1 q2
        have HT : Hid (l.take (k + 1) = l.take k ++ [(x0, x1, x2)] ∧ l'.take (k + 1) = l'.take k ++ [(y0, y1, y2)]) :=
          ⟨by rw [List.take_succ_eq_append_getElem hkl, hx], by rw [List.take_succ_eq_append_getElem hkl', hy]⟩
        clear hc hc' hcx hcy hx hy
        by_cases hxy : x0 = y0 ∧ x1 = y1 ∧ x2 = y2
        · obtain ⟨rfl, rfl, rfl⟩ := hxy
          go_wp2_with fail
          go_quiet (fail)
          go_wp2_with fail
          go_roundw
          case rel => exact ⟨k + 1, by omega, by go_num, by show _ = _; rw [HT.out.1, HT.out.2, hdone.out], drewN hbel _⟩
          case measure => simp [intOf]; omega
        · have HN : Hid (D = false) := by
            show D = false
            rw [← HD.out]; simp; intro h
            have h1 := HT.out.1
            have h2 := HT.out.2
            rw [h] at h1
            rw [h1] at h2
            have h3 := List.append_inj_right' h2 rfl
            simp at h3
            exact hxy h3
          by_cases h0 : x0 = y0
          · subst h0
            by_cases h1 : x1 = y1
            · subst h1
              have h2 : ¬ x2 = y2 := fun e => hxy ⟨rfl, rfl, e⟩
              have e2' : (x2.toList == y2.toList) = false := by
                simp only [beq_eq_false_iff_ne, ne_eq]
                intro e; exact h2 (by rw [Lib.toList_data, Lib.toList_data] at e; exact ByteArray.ext (Array.toList_inj.1 e))
              clear hxy h2
              go_wp2_with fail
              go_quiet (fail)
              go_wp2_with fail
              go_ret
              exact ⟨ret_bool HN.out.symm, drewN hbel _⟩
            · have e1 : (x1 == y1) = false := by simp [h1]
              clear hxy h1
              go_wp2_with fail
              go_quiet (fail)
              go_wp2_with fail
              go_ret
              exact ⟨ret_bool HN.out.symm, drewN hbel _⟩
          · have e0 : (x0 == y0) = false := by simp [h0]
            clear hxy h0
            go_wp2_with fail
            go_quiet (fail)
            go_wp2_with fail
            go_ret
            exact ⟨ret_bool HN.out.symm, drewN hbel _⟩
      · have : k = n := by omega
        subst this
        have HN : Hid (D = true) := by
          show D = true
          rw [← HD.out]
          have := hdone.out
          rw [List.take_of_length_le (by omega), List.take_of_length_le (by omega)] at this
          simp [this]
        go_wp2_with fail
        go_ret
        exact ⟨ret_bool HN.out.symm, hbel⟩
  · have hne : ((n : Int) != n') = true := by simp; omega
    have HN : Hid (D = false) := by
      show D = false
      rw [← HD.out]; simp; intro h; rw [h] at hlen; omega
    go_enter Tryz.func16, Tryz.ntmps16
    go_wp2_with fail
    go_ret
    exact ⟨ret_bool HN.out.symm, Below.refl _ _⟩

theorem open_code {H : Type} {enc : TypeId × Value → H} {W : World} {base : Nat} {spare : Nat → Bool} {held : Bool} {fuel : Nat} {a0 : Option Addr} {len0 cap0 : Nat} {x : DataW H × List MemPlace} (hsp : spare = fun _ => true)
    (h : DataW.trod enc Tryz.prog W base spare held fuel 22 (Value.slice a0 len0 cap0).cells.toList = some x) : len0 ≤ cap0 ∧ cap0 ≤ maxLen ∧ ∃ l, IsBytes W.heap.size W a0 len0 l := by
  subst hsp
  have : ∃ zs, IsRow .u8 W a0 len0 cap0 zs := by
    rcases open_ints Tryz.underlying22 Tryz.underlying5 (by kernel_rfl) h with ⟨hcs, _⟩ | ⟨x, l, c, zs, hcs, _, hl, hm, hz, _, hcell, hwz⟩
    · simp [Value.cells] at hcs
      obtain ⟨rfl, rfl, rfl⟩ := hcs
      exact ⟨[], .inl ⟨rfl, rfl, rfl, rfl⟩⟩
    · simp [Value.cells] at hcs
      obtain ⟨rfl, rfl, rfl⟩ := hcs
      exact ⟨zs, .inr ⟨_, rfl, hl, hm, by simpa using hz, hcell, hwz⟩⟩
  obtain ⟨zs, hr⟩ := this
  exact row_bytes hr

theorem Mv.fresh {w w1 w2 : World} (hb : Below w.heap.size w w1) (hm : Mv w.heap.size w1 w2) : Below w.heap.size w w2 :=
  ⟨hm.os.trans hb.os, hm.tape.trans hb.tape, hm.output.trans hb.output, Nat.le_trans hb.size hm.size, fun q hq => (hm.block q (Nat.lt_of_lt_of_le hq hb.size) (by omega)).trans (hb.block q hq)⟩

/-- what is written is read back -/
theorem put_get {l : List Nd} (h : (putM l).toList.isEmpty = false) : exprM (putM l) = some l ∧ (putM l).size ≤ 60 := by
  have hs : ∃ t, sumM l = some t := by
    cases e : sumM l with
    | none => rw [(putM_empty l).2 e] at h; cases h
    | some t => exact ⟨t, rfl⟩
  obtain ⟨t, ht⟩ := hs
  have hp : putM l = textT t := by rw [putM_sumM, ht]
  obtain ⟨_, _, hg, _⟩ := sumM_some ht
  rw [← hp] at hg
  refine ⟨?_, ?_⟩
  · unfold exprM
    rw [hg]
    simp only
    rw [if_neg (by rw [h]; decide)]
  · unfold getM at hg
    split at hg
    · cases hg
    · omega
theorem specPut_nds (B0 : Nat) (a : Option Addr) (n cap : Nat) (l : List Nd) (w : World) (hn : n ≤ 1048576) (hB0 : B0 ≤ w.heap.size) (hsz : ∀ x ∈ l, x.2.2.size ≤ 1048576) (hz : IsNds B0 w a n l) :
    Calls Tryz.prog 14 #[.slice a n cap] w fun e w' => e = .returned (.string (putM l)) ∧ Below w.heap.size w w' := by
  have HP : Hid (Calls Tryz.prog 46 #[.slice a n cap] w fun e w' => e = .returned (.string (putM l)) ∧ Below w.heap.size w w') := l1Put_any B0 a n cap l w hn hB0 hsz hz
  clear hz hsz
  go_enter Tryz.func14, Tryz.ntmps14
  go_wp2_with (go_at_call 46; refine HP.out.mono ?_; rintro e w1 ⟨rfl, hb1⟩)
  go_ret
  exact ⟨rfl, hb1⟩
end Go.Proofs.YtbpfonmkbbnkcaaGreatDoor
