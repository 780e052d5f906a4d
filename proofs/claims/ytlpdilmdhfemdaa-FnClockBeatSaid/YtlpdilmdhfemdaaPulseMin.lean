/- The pulse that comes first. -/
import Derived.Test.YtlpdilmdhfemdaaPulseL
namespace Go.Proofs.Ytlpdilmdhfemdaa
open Go Go.RowKit Go.PlainAid
set_option linter.unusedSimpArgs false
set_option linter.unusedVariables false

/-- the place of the first of the earliest among the first k + 1 -/
def minU (ps : List Pu) : Nat → Nat
  | 0 => 0
  | k + 1 => if (ps.getD (k + 1) (0, 0, 0)).1 < (ps.getD (minU ps k) (0, 0, 0)).1 then k + 1 else minU ps k
def minI (ps : List Pu) : Nat := minU ps (ps.length - 1)
theorem minU_le (ps : List Pu) : ∀ k, minU ps k ≤ k
  | 0 => Nat.le_refl _
  | k + 1 => by
    unfold minU
    split
    · exact Nat.le_refl _
    · exact Nat.le_succ_of_le (minU_le ps k)
theorem minI_lt {ps : List Pu} (h : ps ≠ []) : minI ps < ps.length := by
  have := minU_le ps (ps.length - 1)
  have : 0 < ps.length := List.length_pos_iff.2 h
  unfold minI
  omega
theorem Puls.ptr {lo : Nat} {W : World} {g n cap : Nat} {bs : List Nat} {ps : List Pu} (h : Puls lo W (.slice (some ⟨g, 0, none⟩) n cap) bs ps) {j : Nat} (hj : j < bs.length) : W.cell? ⟨g, j, none⟩ = some (ptrV bs[j]) := by
  have := h.row.cells (g := g) rfl j (ptrV bs[j]) (by simp [hj])
  rcases j with _ | j
  · simpa [Addr.add] using this
  · simpa [Addr.add] using this
theorem Puls.form {lo : Nat} {W : World} {v : Value} {bs : List Nat} {ps : List Pu} (h : Puls lo W v bs ps) (hne : ps ≠ []) : ∃ g cap, v = .slice (some ⟨g, 0, none⟩) bs.length cap ∧ lo ≤ g ∧ g < W.heap.size := by
  have hl : 0 < bs.length := by rw [h.len]; exact List.length_pos_iff.2 hne
  rcases h.row.2 with ⟨_, h0⟩ | ⟨g, cap, cur, rfl, hb, hg, _⟩
  · omega
  · exact ⟨g, cap, rfl, hb, (Array.getElem?_eq_some_iff.1 hg).1⟩

set_option maxHeartbeats 1600000 in
set_option maxRecDepth 100000 in
theorem minFunc_any (lo : Nat) (v : Value) (bs : List Nat) (ps : List Pu) (w : World) (h : Puls lo w v bs ps) (hne : ps ≠ []) (hl : ps.length ≤ 1048576) :
    Calls Try.prog 45 #[v, .func (Fn.func 46) #[] #[]] w fun e w' => e = .returned (ptrV (bs.getD (minI ps) 0)) ∧ Below w.heap.size w w' := by
  obtain ⟨g, cap, rfl, hg, hgl⟩ := h.form hne
  have HP := hidOf h
  have hlen := h.len
  have hpos : 0 < ps.length := List.length_pos_iff.2 hne
  obtain ⟨n, hn⟩ : ∃ n, bs.length = n := ⟨_, rfl⟩
  have c00 := h.ptr (j := 0) (by omega)
  have hn2 : ps.length = n := by omega
  rw [hn]
  have HPN : Hid (Puls lo w (.slice (some ⟨g, 0, none⟩) n cap) bs ps) := by rw [← hn]; exact h
  have e0 : bs[0]'(by omega) = bs.getD 0 0 := by simp [show 0 < bs.length by omega]
  rw [e0] at c00
  unfold ptrV at c00
  have HN := hidOf hn
  have HN2 := hidOf hn2
  have hn1 : 1 ≤ n := by omega
  have hn3 : n ≤ 1048576 := by omega
  have hni : ¬ (n : Int) < 1 := by omega
  clear h hlen hn hn2 hpos e0 hl HP
  go_enter Try.func45, Try.ntmps45
  go_wp2_with fail
  go_loopw [5, 6] (fun m i wr => ∃ k : Nat, k < n ∧ i = .int .i64 (k + 1 : Nat) ∧ m = .pointer (some ⟨bs.getD (minU ps k) 0, 0, none⟩) ∧ Below w.heap.size w wr) (fun _ i _ => n - (intOf i).toNat)
  case atStart => exact ⟨0, by omega, rfl, rfl, Below.refl _ _⟩
  case round =>
    obtain ⟨k, hk, rfl, rfl, hbel⟩ := hrel
    by_cases hlt : k + 1 < n
    · have hws := hbel.size
      have HK := hidOf (HPN.out.keep hbel)
      have hm := minU_le ps k
      have c1 := HK.out.ptr (j := k + 1) (by have := HN.out; omega)
      have e1 := HK.out.each (k + 1) (by have := HN.out; omega) (by have := HN2.out; omega)
      have e2 := HK.out.each (minU ps k) (by have := HN.out; omega) (by have := HN2.out; omega)
      have r1 : bs[k + 1]'(by have := HN.out; omega) = bs.getD (k + 1) 0 := by have := HN.out; simp [show k + 1 < bs.length by omega]
      have r2 : bs[minU ps k]'(by have := HN.out; omega) = bs.getD (minU ps k) 0 := by have := HN.out; simp [show minU ps k < bs.length by omega]
      have r3 : ps[k + 1]'(by have := HN2.out; omega) = ps.getD (k + 1) (0, 0, 0) := by have := HN2.out; simp [show k + 1 < ps.length by omega]
      have r4 : ps[minU ps k]'(by have := HN2.out; omega) = ps.getD (minU ps k) (0, 0, 0) := by have := HN2.out; simp [show minU ps k < ps.length by omega]
      rw [r1] at c1 e1
      rw [r2] at e2
      rw [r3] at e1
      rw [r4] at e2
      unfold ptrV at c1
      have hgr : g < wr.heap.size := by omega
      obtain ⟨M, hM⟩ : ∃ M, minU ps (k + 1) = M := ⟨_, rfl⟩
      have HM : Hid (M = if (ps.getD (k + 1) (0, 0, 0)).1 < (ps.getD (minU ps k) (0, 0, 0)).1 then k + 1 else minU ps k) := by rw [← hM]; rfl
      have HMM := hidOf hM
      have HB := hidOf (byTime_any _ _ _ _ wr e1.2.lt e2.2.lt e1.2.cell0 e2.2.cell0)
      obtain ⟨b1, hb1⟩ : ∃ b, bs.getD (k + 1) 0 = b := ⟨_, rfl⟩
      obtain ⟨b2, hb2⟩ : ∃ b, bs.getD (minU ps k) 0 = b := ⟨_, rfl⟩
      have HB1 := hidOf hb1
      have HB2 := hidOf hb2
      rw [hb1] at c1 HB
      rw [hb2] at HB ⊢
      clear hM e1 e2 r1 r2 r3 r4 hb1 hb2
      by_cases hcmp : (ps.getD (k + 1) (0, 0, 0)).1 < (ps.getD (minU ps k) (0, 0, 0)).1
      · have HC := hidOf hcmp
        clear hcmp
        go_wp2_with fail
        refine HB.out.mono ?_
        rintro e w1 ⟨r, rfl, hr, hbb⟩
        have hr0 : r < 0 := hr.2 HC.out
        have c2 := (hbb.cell (p := ⟨g, k + 1, none⟩) hgr).trans c1
        have HBB := hidOf (hbel.trans (hbb.mono hws))
        clear hr hbb
        go_wp2_with fail
        go_roundw
        case rel => exact ⟨k + 1, hlt, by go_num, by rw [HMM.out, HM.out, if_pos HC.out, HB1.out], HBB.out⟩
        case measure => simp [intOf]; omega
      · have HC := hidOf hcmp
        clear hcmp
        go_wp2_with fail
        refine HB.out.mono ?_
        rintro e w1 ⟨r, rfl, hr, hbb⟩
        have hr0 : ¬ r < 0 := fun h => by have h1 := HC.out; have h2 := hr.1 h; omega
        have HBB := hidOf (hbel.trans (hbb.mono hws))
        clear hr hbb
        go_wp2_with fail
        go_roundw
        case rel => exact ⟨k + 1, hlt, by go_num, by rw [HMM.out, HM.out, if_neg (by have := HC.out; omega), HB2.out], HBB.out⟩
        case measure => simp [intOf]; omega
    · have hkn : k + 1 = n := by omega
      have hmi : minI ps = minU ps k := by unfold minI; rw [HN2.out, ← hkn]; rfl
      have HMI := hidOf hmi
      clear hmi
      have hni2 : ¬ ((k + 1 : Nat) : Int) < (n : Int) := by omega
      go_wp2_with fail
      go_ret
      exact ⟨by rw [HMI.out]; rfl, hbel⟩

theorem coming_any (a : Option Addr) (n c : Nat) (t : Int) (w : World) :
    Calls Try.prog 30 #[.slice a n c, .int .i64 t] w fun e w' => e = .returned (.func (Fn.func 41) #[] #[.pointer (some ⟨w.heap.size, 0, none⟩), .pointer (some ⟨w.heap.size + 1, 0, none⟩)]) ∧ w' = (w.alloc (.cells #[.slice a n c] 23)).alloc (.cells #[.int .i64 t] 3) := by
  go_enter Try.func30, Try.ntmps30
  go_wp2
  go_ret
  exact ⟨rfl, rfl⟩
end Go.Proofs.Ytlpdilmdhfemdaa
