/- The program's isSum and canSet: whether a text is a sum of names of a block; whether a value may be set. -/
import Derived.Test.YtnkeibahaiibpaaGreatDoorBunY41
import Derived.Test.YtnkeibahaiibpaaGreatDoorBunY31
namespace Go.Proofs.YtnkeibahaiibpaaGreatDoor
open Go Go.RowKit Go.PlainAid
set_option linter.unusedSimpArgs false
set_option linter.unusedVariables false

set_option maxHeartbeats 800000 in
theorem isSum1_any (B : Nat) (names : List ByteArray) (k n : Int) (s : ByteArray) (g : Nat) (na : Option Addr) (nn nc : Nat) (W : World) (hB : B ≤ W.heap.size) (hg : g < W.heap.size) (hc : W.cell? ⟨g, 5, none⟩ = some (.slice na nn nc)) (hn : nn ≤ 1048576) (hz : IsStrs B W na nn names) :
    Calls Tryz.prog 208 #[.agg #[.int .i64 k, .int .i64 n, .string s], .pointer (some ⟨g, 0, none⟩)] W fun e w' => e = .returned (.bool (decide (k = 2) && decide (findM names s < 0))) ∧ Below W.heap.size W w' := by
  have HC : Hid (∀ o, Calls Tryz.prog 154 #[.slice na nn nc, .string s] (W.alloc o) fun e w' => e = .returned (.bool (decide (0 ≤ findM names s))) ∧ w' = W.alloc o) := fun o => containsS_any B na nn nc names s (W.alloc o) hn (hz.below ((Below.refl _ _).alloc hB _))
  obtain ⟨F, hF⟩ : ∃ F, findM names s = F := ⟨_, rfl⟩
  rw [hF] at HC ⊢
  clear hF hz
  by_cases hk : k = 2
  · subst hk
    go_enter Tryz.func208, Tryz.ntmps208
    go_wp2_with fail
    refine (HC.out _).mono ?_
    rintro e w' ⟨rfl, hw'⟩
    rw [hw']
    clear hw' w'
    go_wp2_with fail
    go_ret
    exact ⟨ret_bool (by by_cases h0 : F < 0 <;> simp [h0] <;> omega), by go_grown⟩
  · have hk' : (k == 2) = false := by simp [hk]
    go_enter Tryz.func208, Tryz.ntmps208
    go_wp2_with fail
    go_ret
    exact ⟨ret_bool (by simp [hk]), by go_grown⟩
/-- a name that is not among these -/
def strange (names : List ByteArray) (x : Nd) : Bool := decide (x.1 = 2) && decide (findM names x.2.2 < 0)
set_option maxHeartbeats 1600000 in
set_option maxRecDepth 100000 in
theorem hasNd_any (B : Nat) (names : List ByteArray) (g : Nat) (na : Option Addr) (nn nc : Nat) (a : Option Addr) (n c : Nat) (l : List Nd) (w : World) (hB : B ≤ w.heap.size) (hg : g < w.heap.size) (hc : w.cell? ⟨g, 5, none⟩ = some (.slice na nn nc)) (hnn : nn ≤ 1048576) (hn : n ≤ 1048576) (hz : IsStrs B w na nn names) (hl : IsNds w.heap.size w a n l) :
    Calls Tryz.prog 207 #[.slice a n c, .func (Fn.func 208) #[] #[.pointer (some ⟨g, 0, none⟩)]] w fun e w' => e = .returned (.bool (l.any (strange names))) ∧ Below w.heap.size w w' := by
  have HI : Hid (Calls Tryz.prog 225 #[.slice a n c, .func (Fn.func 208) #[] #[.pointer (some ⟨g, 0, none⟩)]] w fun e w' => e = .returned (.int .i64 (idxM (strange names) l)) ∧ Below w.heap.size w w') := by
    have hlen := hl.1
    have HL := hidOf hl
    have HC : Hid (∀ (W : World) (k n : Int) (s : ByteArray), Below w.heap.size w W → Calls Tryz.prog 208 #[.agg #[.int .i64 k, .int .i64 n, .string s], .pointer (some ⟨g, 0, none⟩)] W fun e w' => e = .returned (.bool (strange names (k, n, s))) ∧ Below W.heap.size W w') := fun W k n s hb => isSum1_any B names k n s g na nn nc W (by have := hb.size; omega) (by have := hb.size; omega) ((hb.cell (p := ⟨g, 5, none⟩) hg).trans hc) hnn (hz.below (hb.mono hB))
    clear hl hz
    obtain ⟨D, hD⟩ : ∃ D, idxM (strange names) l = D := ⟨_, rfl⟩
    have HD := hidOf hD
    show Calls _ _ _ _ _
    rw [hD]
    clear hD
    go_enter Tryz.func225, Tryz.ntmps225
    go_wp2
    go_loopw [8] (fun i wr => ∃ k : Nat, k ≤ n ∧ i = .int .i64 k ∧ Hid (∀ j, (h : j < l.length) → j < k → strange names l[j] = false) ∧ Below w.heap.size w wr) (fun i _ => n - (intOf i).toNat)
    case atStart => exact ⟨0, Nat.zero_le _, rfl, fun j _ h => absurd h (Nat.not_lt_zero _), Below.refl _ _⟩
    case round =>
      obtain ⟨k, hk, rfl, HK, hbel⟩ := hrel
      by_cases hlt : k < n
      · rcases (HL.out.below hbel).2 with h0 | ⟨b, off, rfl, hb, hcell⟩
        · omega
        obtain ⟨k0, k1, k2⟩ := hcell k (by omega)
        have hbr : b < wr.heap.size := by have := hbel.size; omega
        obtain ⟨⟨x0, x1, x2⟩, hx⟩ : ∃ x, l[k]'(by omega) = x := ⟨_, rfl⟩
        rw [hx] at k0 k1 k2
        simp only at k0 k1 k2
        have HE := hidOf (HC.out wr x0 x1 x2 hbel)
        obtain ⟨P, hP⟩ : ∃ P, strange names (x0, x1, x2) = P := ⟨_, rfl⟩
        rw [hP] at HE
        have HP : Hid (strange names (l[k]'(by omega)) = P) := by show _ = _; rw [hx]; exact hP
        clear hcell hx hP
        cases P with
        | false =>
          go_wp2_with fail
          refine HE.out.mono ?_
          rintro e w1 ⟨rfl, hb1⟩
          have HB1 : Hid (Below w.heap.size w w1) := hbel.trans (hb1.mono hbel.size)
          clear hb1
          go_wp2_with fail
          go_roundw
          case rel =>
            refine ⟨k + 1, by omega, by go_num, ?_, HB1.out⟩
            intro j hj hjk
            by_cases e : j = k
            · subst e; exact HP.out
            · exact HK.out j hj (by omega)
          case measure => simp [intOf]; omega
        | true =>
          have hDk : D = k := by rw [← HD.out]; exact idxM_at (by omega) HP.out (fun j hj => HK.out j (by omega) hj)
          go_wp2_with fail
          refine HE.out.mono ?_
          rintro e w1 ⟨rfl, hb1⟩
          have HB1 : Hid (Below w.heap.size w w1) := hbel.trans (hb1.mono hbel.size)
          clear hb1
          go_wp2_with fail
          go_ret
          exact ⟨ret_int hDk.symm, HB1.out⟩
      · have hDn : D = -1 := by rw [← HD.out]; exact idxM_none (fun j hj => HK.out j hj (by omega))
        go_wp2_with fail
        go_ret
        exact ⟨ret_int hDn.symm, hbel⟩
  clear hz hl
  rw [← idxM_any]
  obtain ⟨D, hD⟩ : ∃ D, idxM (strange names) l = D := ⟨_, rfl⟩
  rw [hD] at HI ⊢
  clear hD
  go_enter Tryz.func207, Tryz.ntmps207
  go_wp2_with fail
  refine HI.out.mono ?_
  rintro e w' ⟨rfl, hb⟩
  have HB := hidOf hb
  clear hb
  go_wp2_with fail
  go_ret
  exact ⟨rfl, HB.out⟩
def formV (xn : ByteArray) (v : BkV) (na : Option Addr) (nn nc : Nat) : Value := .agg #[.string xn, .slice v.ai v.ni v.ci, .slice v.ao v.no v.co, .slice v.av v.nv v.cv, .slice v.at_ v.nt v.ct, .slice na nn nc]
set_option maxHeartbeats 1600000 in
set_option maxRecDepth 100000 in
theorem isSum_any (B : Nat) (xn : ByteArray) (v : BkV) (na : Option Addr) (nn nc : Nat) (names : List ByteArray) (s : ByteArray) (w : World) (hw : Tabs w) (hB : B ≤ w.heap.size) (hn : nn ≤ 1048576) (hs : s.size ≤ 1048576) (hz : IsStrs B w na nn names) :
    Calls Tryz.prog 191 #[formV xn v na nn nc, .string s] w fun e w' => e = .returned (.bool (sumOk names s)) ∧ Below w.heap.size w w' := by
  rw [← sumOk_eq]
  obtain ⟨ai, ni, ci, ao, no, co, av, nv, cv, at_, nt, ct⟩ := v
  unfold formV
  simp only
  obtain ⟨W0, hW0⟩ : ∃ W0, w.alloc (.cells #[.string xn, .slice ai ni ci, .slice ao no co, .slice av nv cv, .slice at_ nt ct, .slice na nn nc] 75) = W0 := ⟨_, rfl⟩
  have hb0 : Below w.heap.size w W0 := by rw [← hW0]; exact (Below.refl _ _).alloc (Nat.le_refl _) _
  have hg0 : w.heap.size < W0.heap.size := by rw [← hW0]; simp
  have hc5 : W0.cell? ⟨w.heap.size, 5, none⟩ = some (.slice na nn nc) := by rw [← hW0]; simp
  have HRD := hidOf (readSum_any s W0 (by unfold maxLen; omega) (hw.below hb0).signs)
  have HB0 := hidOf hb0
  have HW := hidOf (hw.below hb0)
  have HZ0 := hidOf (hz.below (hb0.mono hB))
  have HC5 := hidOf hc5
  have HG0 := hidOf hg0
  obtain ⟨D, hD⟩ : ∃ D, sumOkI names s = D := ⟨_, rfl⟩
  have HD := hidOf hD
  rw [hD]
  clear hD hw hz hb0 hc5 hg0
  cases hg : getM s with
  | none =>
    have hDf : D = false := by rw [← HD.out]; unfold sumOkI; rw [hg]
    subst hDf
    rw [hg] at HRD
    clear hg HD
    go_enter Tryz.func191, Tryz.ntmps191
    go_wp2_with fail
    try rw [hW0]
    refine HRD.out.mono ?_
    intro e w1 h1
    obtain ⟨hb1, rfl⟩ := h1.none'
    have HB1 : Hid (Below w.heap.size w w1) := HB0.out.trans (hb1.mono HB0.out.size)
    clear hb1 h1
    go_wp2_with fail
    go_ret
    exact ⟨rfl, HB1.out⟩
  | some l =>
    have hl24 := getM_len hg
    have hnm := hidOf (getM_names hg)
    have h64 := hidOf (getM_64 hg)
    have HDV : Hid (D = (decide (putM l = s) && !(l.any (strange names)))) := by show _ = _; rw [← HD.out]; unfold sumOkI; rw [hg]; rfl
    rw [hg] at HRD
    clear hg HD
    go_enter Tryz.func191, Tryz.ntmps191
    go_wp2_with fail
    try rw [hW0]
    refine HRD.out.mono ?_
    intro e w1 h1
    obtain ⟨hb1, u, rfl, ho⟩ := h1.some'
    obtain ⟨a1, c1, rfl, hi1⟩ := ho.nds'
    have HB1 : Hid (Below w.heap.size w w1) := HB0.out.trans (hb1.mono HB0.out.size)
    have HW1 := hidOf (HW.out.below hb1)
    have HI1 := hidOf hi1
    have HC51 := hidOf ((hb1.cell (p := ⟨w.heap.size, 5, none⟩) HG0.out).trans HC5.out)
    have HG1 : Hid (w.heap.size < w1.heap.size) := Nat.lt_of_lt_of_le HG0.out hb1.size
    have HZ1 := hidOf (HZ0.out.below (hb1.mono (by have := HG0.out; omega)))
    obtain ⟨m, hm⟩ : ∃ m, l.length = m := ⟨_, rfl⟩
    rw [hm] at HI1 hl24 ⊢
    clear hb1 h1 ho hi1 HC5 HG0 HZ0 HW HB0 HRD hm hW0
    have HPT := hidOf (implPut_any w1.heap.size a1 m c1 l w1 HW1.out (by omega) (Nat.le_refl _) (fun x hx => by have := hnm.out x hx; omega) h64.out HI1.out)
    obtain ⟨pt, hpt⟩ : ∃ p, putM l = p := ⟨_, rfl⟩
    rw [hpt] at HPT HDV
    clear hpt
    by_cases hps : pt = s
    · subst hps
      go_wp2_with fail
      refine HPT.out.mono ?_
      rintro e w2 ⟨rfl, hb2⟩
      have HB2 : Hid (Below w.heap.size w w2) := HB1.out.trans (hb2.mono HB1.out.size)
      have HHN := hidOf (hasNd_any B names w.heap.size na nn nc a1 m c1 l w2 (by have := HB2.out.size; omega) (Nat.lt_of_lt_of_le HG1.out hb2.size) ((hb2.cell (p := ⟨w.heap.size, 5, none⟩) HG1.out).trans HC51.out) hn (by omega) (HZ1.out.below (hb2.mono (by have := HG1.out; omega))) ((HI1.out.below hb2).mono hb2.size))
      clear hb2
      obtain ⟨P, hP⟩ : ∃ P, l.any (strange names) = P := ⟨_, rfl⟩
      rw [hP] at HHN HDV
      clear hP
      go_wp2_with fail
      refine HHN.out.mono ?_
      rintro e w3 ⟨rfl, hb3⟩
      have HB3 : Hid (Below w.heap.size w w3) := HB2.out.trans (hb3.mono HB2.out.size)
      clear hb3
      go_wp2_with fail
      go_ret
      exact ⟨ret_bool (by rw [HDV.out]; simp), HB3.out⟩
    · have hne := list_ne hps
      have HDF : Hid (D = false) := by show D = false; rw [HDV.out, decide_eq_false hps]; rfl
      clear hps
      go_wp2_with fail
      refine HPT.out.mono ?_
      rintro e w2 ⟨rfl, hb2⟩
      have HB2 : Hid (Below w.heap.size w w2) := HB1.out.trans (hb2.mono HB1.out.size)
      clear hb2
      go_wp2_with fail
      go_ret
      exact ⟨ret_bool (by rw [HDF.out]), HB2.out⟩
set_option maxHeartbeats 1600000 in
set_option maxRecDepth 100000 in
theorem canSet_any (B : Nat) (v : BkV) (x : Bk) (na : Option Addr) (nn nc : Nat) (names : List ByteArray) (s : ByteArray) (w : World) (hB : B ≤ w.heap.size) (hwt : wtBk x ≤ 1048576) (hn : nn ≤ 1048576) (hx : IsBk B w v x) (hz : IsStrs B w na nn names) :
    Calls Tryz.prog 192 #[formV x.name v na nn nc, .string s] w fun e w' => e = .returned (.bool (decide ((valsM x.ins).length ≤ findM names s))) ∧ Below w.heap.size w w' := by
  obtain ⟨p0, p1, p2, p3, p4, p5, p6, p7, p8, p9⟩ := wtBk_parts hwt
  have li := hx.ins.1
  have HX := hidOf hx
  have HI : Hid (∀ W, Below w.heap.size w W → Calls Tryz.prog 98 #[.slice v.ai v.ni v.ci] W fun e w' => ∃ u, e = .returned u ∧ OwnS W.heap.size w' u (valsM x.ins) ∧ Below W.heap.size W w') := fun W hb => portNames_any B v.ai v.ni v.ci x.ins W (by have := hb.size; omega) (by omega) p2 (HX.out.below (hb.mono hB)).ins
  have HX2 : Hid (∀ o, Calls Tryz.prog 173 #[.slice na nn nc, .string s] (w.alloc o) fun e w' => e = .returned (.int .i64 (findM names s)) ∧ w' = w.alloc o) := fun o => index_any B na nn nc names s (w.alloc o) hn (hz.below ((Below.refl _ _).alloc hB _))
  obtain ⟨VI, hVI⟩ : ∃ l, valsM x.ins = l := ⟨_, rfl⟩
  obtain ⟨F, hF⟩ : ∃ l, findM names s = l := ⟨_, rfl⟩
  rw [hVI] at HI ⊢
  rw [hF] at HX2 ⊢
  clear hVI hF hx hz HX li p0 p1 p2 p3 p4 p5 p6 p7 p8 p9 hwt
  obtain ⟨ai, ni, ci, ao, no, co, av, nv, cv, at_, nt, ct⟩ := v
  obtain ⟨xn, hxn⟩ : ∃ n, x.name = n := ⟨_, rfl⟩
  unfold formV
  simp only at HI ⊢
  rw [hxn]
  clear hxn
  go_enter Tryz.func192, Tryz.ntmps192
  go_wp2_with fail
  refine (HX2.out _).mono ?_
  rintro e w' ⟨rfl, hw'⟩
  rw [hw']
  clear hw' w'
  go_wp2_with fail
  refine (HI.out _ (by go_grown)).mono ?_
  rintro e w1 ⟨u1, rfl, o1, b1⟩
  obtain ⟨a1, c1, e1, _⟩ := o1.form
  subst e1
  have HB1 := hidOf (below_boxed b1)
  clear o1 b1
  go_wp2_with fail
  go_ret
  exact ⟨ret_bool (by first | rfl | simp), HB1.out⟩
end Go.Proofs.YtnkeibahaiibpaaGreatDoor
