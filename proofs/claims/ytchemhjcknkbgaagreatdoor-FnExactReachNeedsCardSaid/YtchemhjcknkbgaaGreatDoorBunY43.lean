/- The program's isSum and canSet: whether a text is a sum of names of a block; whether a value may be set. -/
import Derived.Test.YtchemhjcknkbgaaGreatDoorBunY42
import Derived.Test.YtchemhjcknkbgaaGreatDoorBunY29
namespace Go.Proofs.YtchemhjcknkbgaaGreatDoor
open Go Go.RowKit Go.PlainAid
set_option linter.unusedSimpArgs false
set_option linter.unusedVariables false

set_option maxHeartbeats 800000 in
theorem isSum1_any (B : Nat) (names : List ByteArray) (k n : Int) (s : ByteArray) (g : Nat) (na : Option Addr) (nn nc : Nat) (W : World) (hB : B ≤ W.heap.size) (hg : g < W.heap.size) (hc : W.cell? ⟨g, 5, none⟩ = some (.slice na nn nc)) (hn : nn ≤ 1048576) (hz : IsStrs B W na nn names) :
    Calls Tryz.prog 230 #[.agg #[.int .i64 k, .int .i64 n, .string s], .pointer (some ⟨g, 0, none⟩)] W fun e w' => e = .returned (.bool (decide (k = 2) && decide (findM names s < 0))) ∧ Below W.heap.size W w' := by
  have HC : Hid (∀ o, Calls Tryz.prog 139 #[.slice na nn nc, .string s] (W.alloc o) fun e w' => e = .returned (.bool (decide (0 ≤ findM names s))) ∧ w' = W.alloc o) := fun o => containsS_any B na nn nc names s (W.alloc o) hn (hz.below ((Below.refl _ _).alloc hB _))
  obtain ⟨F, hF⟩ : ∃ F, findM names s = F := ⟨_, rfl⟩
  rw [hF] at HC ⊢
  clear hF hz
  by_cases hk : k = 2
  · subst hk
    go_enter Tryz.func230, Tryz.ntmps230
    go_wp2_with fail
    refine (HC.out _).mono ?_
    rintro e w' ⟨rfl, hw'⟩
    rw [hw']
    clear hw' w'
    go_wp2_with fail
    go_ret
    exact ⟨ret_bool (by by_cases h0 : F < 0 <;> simp [h0] <;> omega), by go_grown⟩
  · have hk' : (k == 2) = false := by simp [hk]
    go_enter Tryz.func230, Tryz.ntmps230
    go_wp2_with fail
    go_ret
    exact ⟨ret_bool (by simp [hk]), by go_grown⟩
/-- a name that is not among these -/
def strange (names : List ByteArray) (x : Nd) : Bool := decide (x.1 = 2) && decide (findM names x.2.2 < 0)
set_option maxHeartbeats 1600000 in
set_option maxRecDepth 100000 in
theorem hasNd_any (B : Nat) (names : List ByteArray) (g : Nat) (na : Option Addr) (nn nc : Nat) (a : Option Addr) (n c : Nat) (l : List Nd) (w : World) (hB : B ≤ w.heap.size) (hg : g < w.heap.size) (hc : w.cell? ⟨g, 5, none⟩ = some (.slice na nn nc)) (hnn : nn ≤ 1048576) (hn : n ≤ 1048576) (hz : IsStrs B w na nn names) (hl : IsNds w.heap.size w a n l) :
    Calls Tryz.prog 229 #[.slice a n c, .func (Fn.func 230) #[] #[.pointer (some ⟨g, 0, none⟩)]] w fun e w' => e = .returned (.bool (l.any (strange names))) ∧ Below w.heap.size w w' := by
  have HI : Hid (Calls Tryz.prog 249 #[.slice a n c, .func (Fn.func 230) #[] #[.pointer (some ⟨g, 0, none⟩)]] w fun e w' => e = .returned (.int .i64 (idxM (strange names) l)) ∧ Below w.heap.size w w') := by
    have hlen := hl.1
    have HL := hidOf hl
    have HC : Hid (∀ (W : World) (k n : Int) (s : ByteArray), Below w.heap.size w W → Calls Tryz.prog 230 #[.agg #[.int .i64 k, .int .i64 n, .string s], .pointer (some ⟨g, 0, none⟩)] W fun e w' => e = .returned (.bool (strange names (k, n, s))) ∧ Below W.heap.size W w') := fun W k n s hb => isSum1_any B names k n s g na nn nc W (by have := hb.size; omega) (by have := hb.size; omega) ((hb.cell (p := ⟨g, 5, none⟩) hg).trans hc) hnn (hz.below (hb.mono hB))
    clear hl hz
    obtain ⟨D, hD⟩ : ∃ D, idxM (strange names) l = D := ⟨_, rfl⟩
    have HD := hidOf hD
    show Calls _ _ _ _ _
    rw [hD]
    clear hD
    go_enter Tryz.func249, Tryz.ntmps249
    go_wp2
    go_loopw [8] (fun i wr => ∃ k : Nat, k ≤ n ∧ i = .int .i64 k ∧ Hid (∀ j, (h : j < l.length) → j < k → strange names l[j] = false) ∧ Below w.heap.size w wr) (fun i _ => n - (intOf i).toNat)
    case atStart => exact ⟨0, Nat.zero_le _, rfl, fun j _ h => absurd h (Nat.not_lt_zero _), Below.refl _ _⟩
    case round =>
      obtain ⟨k, hk, rfl, HK, hbel⟩ := hrel
      by_cases hlt : k < n
      · rcases (HL.out.below hbel).2 with h0 | ⟨b, off, rfl, hb, hcell⟩
        · omega
        obtain ⟨k0, k1, k2⟩ := hcell k (by omega)
        have hbr : b < wr.heap.size := by have := hbel.size; omega
        obtain ⟨⟨x0, x1, x2⟩, hx⟩ : ∃ x, l[k]'(by omega) = x := ⟨_, rfl⟩
        rw [hx] at k0 k1 k2
        simp only at k0 k1 k2
        have HE := hidOf (HC.out wr x0 x1 x2 hbel)
        obtain ⟨P, hP⟩ : ∃ P, strange names (x0, x1, x2) = P := ⟨_, rfl⟩
        rw [hP] at HE
        have HP : Hid (strange names (l[k]'(by omega)) = P) := by show _ = _; rw [hx]; exact hP
        clear hcell hx hP
        cases P with
        | false =>
          go_wp2_with fail
          refine HE.out.mono ?_
          rintro e w1 ⟨rfl, hb1⟩
          have HB1 : Hid (Below w.heap.size w w1) := hbel.trans (hb1.mono hbel.size)
          clear hb1
          go_wp2_with fail
          go_roundw
          case rel =>
            refine ⟨k + 1, by omega, by go_num, ?_, HB1.out⟩
            intro j hj hjk
            by_cases e : j = k
            · subst e; exact HP.out
            · exact HK.out j hj (by omega)
          case measure => simp [intOf]; omega
        | true =>
          have hDk : D = k := by rw [← HD.out]; exact idxM_at (by omega) HP.out (fun j hj => HK.out j (by omega) hj)
          go_wp2_with fail
          refine HE.out.mono ?_
          rintro e w1 ⟨rfl, hb1⟩
          have HB1 : Hid (Below w.heap.size w w1) := hbel.trans (hb1.mono hbel.size)
          clear hb1
          go_wp2_with fail
          go_ret
          exact ⟨ret_int hDk.symm, HB1.out⟩
      · have hDn : D = -1 := by rw [← HD.out]; exact idxM_none (fun j hj => HK.out j hj (by omega))
        go_wp2_with fail
        go_ret
        exact ⟨ret_int hDn.symm, hbel⟩
  clear hz hl
  rw [← idxM_any]
  obtain ⟨D, hD⟩ : ∃ D, idxM (strange names) l = D := ⟨_, rfl⟩
  rw [hD] at HI ⊢
  clear hD
  go_enter Tryz.func229, Tryz.ntmps229
  go_wp2_with fail
  refine HI.out.mono ?_
  rintro e w' ⟨rfl, hb⟩
  have HB := hidOf hb
  clear hb
  go_wp2_with fail
  go_ret
  exact ⟨rfl, HB.out⟩
def formV (xn : ByteArray) (v : BkV) (na : Option Addr) (nn nc : Nat) : Value := .agg #[.string xn, .slice v.ai v.ni v.ci, .slice v.ao v.no v.co, .slice v.av v.nv v.cv, .slice v.at_ v.nt v.ct, .slice na nn nc]
set_option maxHeartbeats 1600000 in
set_option maxRecDepth 100000 in
theorem isSum_any (B : Nat) (xn : ByteArray) (v : BkV) (na : Option Addr) (nn nc : Nat) (names : List ByteArray) (s : ByteArray) (w : World) (hw : Tabs w) (hB : B ≤ w.heap.size) (hn : nn ≤ 1048576) (hs : s.size ≤ 1048576) (hz : IsStrs B w na nn names) :
    Calls Tryz.prog 208 #[formV xn v na nn nc, .string s] w fun e w' => e = .returned (.bool (sumOk names s)) ∧ Below w.heap.size w w' := by
  rw [← sumOk_eq]
  obtain ⟨ai, ni, ci, ao, no, co, av, nv, cv, at_, nt, ct⟩ := v
  unfold formV
  simp only
  obtain ⟨W0, hW0⟩ : ∃ W0, w.alloc (.cells #[.string xn, .slice ai ni ci, .slice ao no co, .slice av nv cv, .slice at_ nt ct, .slice na nn nc] 131) = W0 := ⟨_, rfl⟩
  have hb0 : Below w.heap.size w W0 := by rw [← hW0]; exact (Below.refl _ _).alloc (Nat.le_refl _) _
  have hg0 : w.heap.size < W0.heap.size := by rw [← hW0]; simp
  have hc5 : W0.cell? ⟨w.heap.size, 5, none⟩ = some (.slice na nn nc) := by rw [← hW0]; simp
  have HRD := hidOf (readSum_any s W0 (by unfold maxLen; omega) (hw.below hb0).signs)
  have HB0 := hidOf hb0
  have HW := hidOf (hw.below hb0)
  have HZ0 := hidOf (hz.below (hb0.mono hB))
  have HC5 := hidOf hc5
  have HG0 := hidOf hg0
  obtain ⟨D, hD⟩ : ∃ D, sumOkI names s = D := ⟨_, rfl⟩
  have HD := hidOf hD
  rw [hD]
  clear hD hw hz hb0 hc5 hg0
  cases hg : getM s with
  | none =>
    have hDf : D = false := by rw [← HD.out]; unfold sumOkI; rw [hg]
    subst hDf
    rw [hg] at HRD
    clear hg HD
    go_enter Tryz.func208, Tryz.ntmps208
    go_wp2_with fail
    try rw [hW0]
    refine HRD.out.mono ?_
    intro e w1 h1
    obtain ⟨hb1, rfl⟩ := h1.none'
    have HB1 : Hid (Below w.heap.size w w1) := HB0.out.trans (hb1.mono HB0.out.size)
    clear hb1 h1
    go_wp2_with fail
    go_ret
    exact ⟨rfl, HB1.out⟩
  | some l =>
    have hl24 := getM_len hg
    have hnm := hidOf (getM_names hg)
    have h64 := hidOf (getM_64 hg)
    have HDV : Hid (D = (decide (putM l = s) && !(l.any (strange names)))) := by show _ = _; rw [← HD.out]; unfold sumOkI; rw [hg]; rfl
    rw [hg] at HRD
    clear hg HD
    go_enter Tryz.func208, Tryz.ntmps208
    go_wp2_with fail
    try rw [hW0]
    refine HRD.out.mono ?_
    intro e w1 h1
    obtain ⟨hb1, u, rfl, ho⟩ := h1.some'
    obtain ⟨a1, c1, rfl, hi1⟩ := ho.nds'
    have HB1 : Hid (Below w.heap.size w w1) := HB0.out.trans (hb1.mono HB0.out.size)
    have HW1 := hidOf (HW.out.below hb1)
    have HI1 := hidOf hi1
    have HC51 := hidOf ((hb1.cell (p := ⟨w.heap.size, 5, none⟩) HG0.out).trans HC5.out)
    have HG1 : Hid (w.heap.size < w1.heap.size) := Nat.lt_of_lt_of_le HG0.out hb1.size
    have HZ1 := hidOf (HZ0.out.below (hb1.mono (by have := HG0.out; omega)))
    obtain ⟨m, hm⟩ : ∃ m, l.length = m := ⟨_, rfl⟩
    rw [hm] at HI1 hl24 ⊢
    clear hb1 h1 ho hi1 HC5 HG0 HZ0 HW HB0 HRD hm hW0
    have HPT := hidOf (implPut_any w1.heap.size a1 m c1 l w1 HW1.out (by omega) (Nat.le_refl _) (fun x hx => by have := hnm.out x hx; omega) h64.out HI1.out)
    obtain ⟨pt, hpt⟩ : ∃ p, putM l = p := ⟨_, rfl⟩
    rw [hpt] at HPT HDV
    clear hpt
    by_cases hps : pt = s
    · subst hps
      go_wp2_with fail
      refine HPT.out.mono ?_
      rintro e w2 ⟨rfl, hb2⟩
      have HB2 : Hid (Below w.heap.size w w2) := HB1.out.trans (hb2.mono HB1.out.size)
      have HHN := hidOf (hasNd_any B names w.heap.size na nn nc a1 m c1 l w2 (by have := HB2.out.size; omega) (Nat.lt_of_lt_of_le HG1.out hb2.size) ((hb2.cell (p := ⟨w.heap.size, 5, none⟩) HG1.out).trans HC51.out) hn (by omega) (HZ1.out.below (hb2.mono (by have := HG1.out; omega))) ((HI1.out.below hb2).mono hb2.size))
      clear hb2
      obtain ⟨P, hP⟩ : ∃ P, l.any (strange names) = P := ⟨_, rfl⟩
      rw [hP] at HHN HDV
      clear hP
      go_wp2_with fail
      refine HHN.out.mono ?_
      rintro e w3 ⟨rfl, hb3⟩
      have HB3 : Hid (Below w.heap.size w w3) := HB2.out.trans (hb3.mono HB2.out.size)
      clear hb3
      go_wp2_with fail
      go_ret
      exact ⟨ret_bool (by rw [HDV.out]; simp), HB3.out⟩
    · have hne := list_ne hps
      have HDF : Hid (D = false) := by show D = false; rw [HDV.out, decide_eq_false hps]; rfl
      clear hps
      go_wp2_with fail
      refine HPT.out.mono ?_
      rintro e w2 ⟨rfl, hb2⟩
      have HB2 : Hid (Below w.heap.size w w2) := HB1.out.trans (hb2.mono HB1.out.size)
      clear hb2
      go_wp2_with fail
      go_ret
      exact ⟨ret_bool (by rw [HDF.out]), HB2.out⟩
set_option maxHeartbeats 1600000 in
set_option maxRecDepth 100000 in
theorem canSet_any (B : Nat) (v : BkV) (x : Bk) (na : Option Addr) (nn nc : Nat) (names : List ByteArray) (s : ByteArray) (w : World) (hB : B ≤ w.heap.size) (hwt : wtBk x ≤ 1048576) (hn : nn ≤ 1048576) (hx : IsBk B w v x) (hz : IsStrs B w na nn names) :
    Calls Tryz.prog 209 #[formV x.name v na nn nc, .string s] w fun e w' => e = .returned (.bool (decide ((valsM x.ins).length ≤ findM names s))) ∧ Below w.heap.size w w' := by
  obtain ⟨p0, p1, p2, p3, p4, p5, p6, p7, p8, p9⟩ := wtBk_parts hwt
  have li := hx.ins.1
  have HX := hidOf hx
  have HI : Hid (∀ W, Below w.heap.size w W → Calls Tryz.prog 85 #[.slice v.ai v.ni v.ci] W fun e w' => ∃ u, e = .returned u ∧ OwnS W.heap.size w' u (valsM x.ins) ∧ Below W.heap.size W w') := fun W hb => portNames_any B v.ai v.ni v.ci x.ins W (by have := hb.size; omega) (by omega) p2 (HX.out.below (hb.mono hB)).ins
  have HX2 : Hid (∀ o, Calls Tryz.prog 145 #[.slice na nn nc, .string s] (w.alloc o) fun e w' => e = .returned (.int .i64 (findM names s)) ∧ w' = w.alloc o) := fun o => index_any B na nn nc names s (w.alloc o) hn (hz.below ((Below.refl _ _).alloc hB _))
  obtain ⟨VI, hVI⟩ : ∃ l, valsM x.ins = l := ⟨_, rfl⟩
  obtain ⟨F, hF⟩ : ∃ l, findM names s = l := ⟨_, rfl⟩
  rw [hVI] at HI ⊢
  rw [hF] at HX2 ⊢
  clear hVI hF hx hz HX li p0 p1 p2 p3 p4 p5 p6 p7 p8 p9 hwt
  obtain ⟨ai, ni, ci, ao, no, co, av, nv, cv, at_, nt, ct⟩ := v
  obtain ⟨xn, hxn⟩ : ∃ n, x.name = n := ⟨_, rfl⟩
  unfold formV
  simp only at HI ⊢
  rw [hxn]
  clear hxn
  go_enter Tryz.func209, Tryz.ntmps209
  go_wp2_with fail
  refine (HX2.out _).mono ?_
  rintro e w' ⟨rfl, hw'⟩
  rw [hw']
  clear hw' w'
  go_wp2_with fail
  refine (HI.out _ (by go_grown)).mono ?_
  rintro e w1 ⟨u1, rfl, o1, b1⟩
  obtain ⟨a1, c1, e1, _⟩ := o1.form
  subst e1
  have HB1 := hidOf (below_boxed b1)
  clear o1 b1
  go_wp2_with fail
  go_ret
  exact ⟨ret_bool (by first | rfl | simp), HB1.out⟩
end Go.Proofs.YtchemhjcknkbgaaGreatDoor

/- The program's firstCode: checks, tried in order. -/
namespace Go.Proofs.YtchemhjcknkbgaaGreatDoor
open Go Go.RowKit Go.PlainAid
set_option linter.unusedSimpArgs false
set_option linter.unusedVariables false

/-- the first of these that is not 0 -/
def firstN (codes : List Int) : Int := firstC id codes
set_option maxHeartbeats 1600000 in
set_option maxRecDepth 100000 in
theorem firstCode_any (g n c : Nat) (fs : List (Nat × List Value)) (codes : List Int) (w : World) (hg : g < w.heap.size) (hl : fs.length = n) (hc : codes.length = n) (hn : n ≤ 10)
    (hcell : ∀ k, (h : k < fs.length) → w.cell? ⟨g, k, none⟩ = some (.func (Fn.func fs[k].1) #[] fs[k].2.toArray))
    (hent : ∀ k, (h : k < fs.length) → ∀ args u, (callFunc fs[k].1 args).run Tryz.prog u = .ok (.enter fs[k].1 args) u)
    (hcall : ∀ k, (h : k < fs.length) → (hk : k < codes.length) → (∀ j, (hj : j < codes.length) → j < k → codes[j] = 0) → ∀ W, Below w.heap.size w W → Calls Tryz.prog fs[k].1 fs[k].2.toArray W fun e w' => e = .returned (.int .i64 codes[k]) ∧ Below W.heap.size W w') :
    Calls Tryz.prog 73 #[.slice (some ⟨g, 0, none⟩) n c] w fun e w' => e = .returned (.int .i64 (firstN codes)) ∧ Below w.heap.size w w' := by
  have HCE := hidOf hcell
  have HEN := hidOf hent
  have HCA := hidOf hcall
  have HL := hidOf hl
  have HC := hidOf hc
  clear hcell hent hcall hl hc
  obtain ⟨R, hR⟩ : ∃ R, firstN codes = R := ⟨_, rfl⟩
  have HR := hidOf hR
  rw [hR]
  clear hR
  go_enter Tryz.func73, Tryz.ntmps73
  go_wp2_with fail
  go_loopw [8] (fun i wr => ∃ k : Nat, k ≤ n ∧ i = .int .i64 k ∧ Hid (∀ j, (h : j < codes.length) → j < k → codes[j] = 0) ∧ Below w.heap.size w wr) (fun i _ => n - (intOf i).toNat)
  case atStart => exact ⟨0, Nat.zero_le _, rfl, fun j _ h => absurd h (Nat.not_lt_zero _), Below.refl _ _⟩
  case round =>
    obtain ⟨k, hk, rfl, HK, hbel⟩ := hrel
    by_cases hlt : k < n
    · have hkf : k < fs.length := by have := HL.out; omega
      have hkc : k < codes.length := by have := HC.out; omega
      have c0 := (hbel.cell (p := ⟨g, k, none⟩) hg).trans (HCE.out k hkf)
      have hgr : g < wr.heap.size := by have := hbel.size; omega
      have hen := HEN.out k hkf
      have HE := hidOf (HCA.out k hkf hkc HK.out wr hbel)
      obtain ⟨⟨f, cp⟩, hfc⟩ : ∃ x, fs[k] = x := ⟨_, rfl⟩
      rw [hfc] at c0 hen HE
      obtain ⟨C, hC⟩ : ∃ C, codes[k] = C := ⟨_, rfl⟩
      rw [hC] at HE
      have HCC := hidOf hC
      have HKC := hidOf hkc
      simp only at c0 hen HE
      clear hfc hkf hC
      obtain ⟨cpa, hcpa⟩ : ∃ a, cp.toArray = a := ⟨_, rfl⟩
      rw [hcpa] at c0 HE
      clear hcpa
      by_cases hC0 : C = 0
      · subst hC0
        go_wp2_with fail
        refine HE.out.mono ?_
        rintro e w1 ⟨rfl, hb1⟩
        have HB1 : Hid (Below w.heap.size w w1) := hbel.trans (hb1.mono hbel.size)
        clear hb1
        go_wp2_with fail
        go_roundw
        case rel =>
          refine ⟨k + 1, by omega, by go_num, ?_, HB1.out⟩
          intro j hj hjk
          by_cases e : j = k
          · subst e; exact HCC.out
          · exact HK.out j hj (by omega)
        case measure => simp [intOf]; omega
      · have hC1 : (C == 0) = false := by simp [hC0]
        go_wp2_with fail
        refine HE.out.mono ?_
        rintro e w1 ⟨rfl, hb1⟩
        have HB1 : Hid (Below w.heap.size w w1) := hbel.trans (hb1.mono hbel.size)
        clear hb1
        go_wp2_with fail
        go_ret
        exact ⟨ret_int (by rw [← HR.out]; unfold firstN; rw [firstC_at (f := id) HKC.out (fun i h1 h2 => HK.out i h1 h2) (fun h => hC0 (HCC.out.symm.trans h))]; exact HCC.out.symm), HB1.out⟩
    · have HR0 : Hid (R = 0) := by show R = 0; rw [← HR.out]; exact firstC_zero (f := id) fun i h => HK.out i h (by have := HC.out; omega)
      go_wp2_with fail
      go_ret
      exact ⟨ret_int HR0.out.symm, hbel⟩
end Go.Proofs.YtchemhjcknkbgaaGreatDoor

/- The program's codes of what is wrong with a move, and with an act. -/
namespace Go.Proofs.YtchemhjcknkbgaaGreatDoor
open Go Go.RowKit Go.PlainAid
set_option linter.unusedSimpArgs false
set_option linter.unusedVariables false


def cfI (b : Bool) (n : Int) : Int := if b then n else 0
theorem codeIf_cf (b : Bool) (n : Int) (w : World) : Calls Tryz.prog 75 #[.bool b, .int .i64 n] w fun e w' => e = .returned (.int .i64 (cfI b n)) ∧ w' = w := codeIf_any b n w
/-- a form in a box: a block and its names -/
structure IsForm (B : Nat) (W : World) (v : BkV) (x : Bk) (na : Option Addr) (nn : Nat) : Prop where
  blk : IsBk B W v x
  names : IsStrs B W na nn (concatM x)
  le : B ≤ W.heap.size
  tabs : Tabs W
theorem IsForm.below {B : Nat} {W W' : World} {v : BkV} {x : Bk} {na : Option Addr} {nn : Nat} (h : IsForm B W v x na nn) (hb : Below W.heap.size W W') : IsForm B W' v x na nn :=
  ⟨h.blk.below (hb.mono h.le), h.names.below (hb.mono h.le), Nat.le_trans h.le hb.size, h.tabs.below hb⟩
def formL (xn : ByteArray) (v : BkV) (na : Option Addr) (nn nc : Nat) : List Value := [.string xn, .slice v.ai v.ni v.ci, .slice v.ao v.no v.co, .slice v.av v.nv v.cv, .slice v.at_ v.nt v.ct, .slice na nn nc]
theorem form_size {x : Bk} {na : Option Addr} {nn B : Nat} {W : World} {v : BkV} (hf : FewNames x) (h : IsForm B W v x na nn) : nn ≤ 1048576 := by
  have := h.names.1
  unfold FewNames at hf
  unfold concatM varsM at this
  simp at this
  omega
set_option maxHeartbeats 1600000 in
set_option maxRecDepth 100000 in
theorem moveCode1_any (B : Nat) (v : BkV) (x : Bk) (na : Option Addr) (nn nc : Nat) (m : Mo) (gm gf : Nat) (W : World) (hwt : wtBk x ≤ 1048576) (hF : IsForm B W v x na nn) (bm : BoxAt gm [.string m.event, .string m.cond, .string m.to] W) (bf : BoxAt gf (formL x.name v na nn nc) W) :
    Calls Tryz.prog 205 #[.pointer (some ⟨gm, 0, none⟩), .pointer (some ⟨gf, 0, none⟩)] W fun e w' => e = .returned (.int .i64 (if empB m.event = false ∧ findM (insM x) m.event < 0 then 3 else 0)) ∧ Below W.heap.size W w' := by
  obtain ⟨p0, p1, p2, p3, p4, p5, p6, p7, p8, p9⟩ := wtBk_parts hwt
  have li := hF.blk.ins.1
  obtain ⟨me, mc, mt⟩ := m
  have HP := hidOf (portAt_any B v.ai v.ni v.ci x.ins me W hF.le (by omega) hF.blk.ins)
  have e1 : x.ins.map Pt.name = insM x := rfl
  rw [e1] at HP
  obtain ⟨I, hI⟩ : ∃ i, findM (insM x) me = i := ⟨_, rfl⟩
  simp only
  rw [hI] at HP ⊢
  obtain ⟨E, hE⟩ : ∃ E, empB me = E := ⟨_, rfl⟩
  rw [hE]
  unfold empB at hE
  obtain ⟨R, hR⟩ : ∃ R, (if E = false ∧ I < 0 then (3 : Int) else 0) = R := ⟨_, rfl⟩
  have HR := hidOf hR
  rw [hR]
  clear hR
  obtain ⟨ai, ni, ci, ao, no, co, av, nv, cv, at_, nt, ct⟩ := v
  unfold formL at bf
  simp only at bm bf HP
  obtain ⟨xn, hxn⟩ : ∃ n, x.name = n := ⟨_, rfl⟩
  rw [hxn] at bf
  have d0 : W.cell? ⟨gm, 0, none⟩ = some (.string me) := (bm.2 0 _ rfl).1
  have d1 : W.cell? ⟨gm, 1, none⟩ = some (.string mc) := (bm.2 1 _ rfl).1
  have d2 : W.cell? ⟨gm, 2, none⟩ = some (.string mt) := (bm.2 2 _ rfl).1
  have sm : gm < W.heap.size := bm.1
  have c0 : W.cell? ⟨gf, 0, none⟩ = some (.string xn) := (bf.2 0 _ rfl).1
  have c1 : W.cell? ⟨gf, 1, none⟩ = some (.slice ai ni ci) := (bf.2 1 _ rfl).1
  have c2 : W.cell? ⟨gf, 2, none⟩ = some (.slice ao no co) := (bf.2 2 _ rfl).1
  have c3 : W.cell? ⟨gf, 3, none⟩ = some (.slice av nv cv) := (bf.2 3 _ rfl).1
  have c4 : W.cell? ⟨gf, 4, none⟩ = some (.slice at_ nt ct) := (bf.2 4 _ rfl).1
  have c5 : W.cell? ⟨gf, 5, none⟩ = some (.slice na nn nc) := (bf.2 5 _ rfl).1
  have sf : gf < W.heap.size := bf.1
  clear hI e1 hxn hF bm bf li p0 p1 p2 p3 p4 p5 p6 p7 p8 p9 hwt
  cases he : me.toList.isEmpty with
  | true =>
    have HE : Hid (E = true) := by show E = true; rw [← hE, he]
    clear hE
    have HCI := hidOf (fun W => codeIf_cf false 3 W)
    go_enter Tryz.func205, Tryz.ntmps205
    go_wp2_with fail
    refine (HCI.out _).mono ?_
    rintro e w' ⟨rfl, hw'⟩
    rw [hw']
    clear hw' w'
    go_wp2_with fail
    go_ret
    exact ⟨ret_int (by rw [← HR.out, if_neg (fun h => by rw [HE.out] at h; cases h.1)]; rfl), Below.refl _ _⟩
  | false =>
    have HE : Hid (E = false) := by show E = false; rw [← hE, he]
    clear hE
    have HCI := hidOf (fun W => codeIf_cf (decide (I < 0)) 3 W)
    go_enter Tryz.func205, Tryz.ntmps205
    go_wp2_with fail
    refine HP.out.mono ?_
    rintro e w1 ⟨rfl, b1⟩
    have HB1 := hidOf b1
    clear b1
    go_wp2_with fail
    refine (HCI.out _).mono ?_
    rintro e w' ⟨rfl, hw'⟩
    rw [hw']
    clear hw' w'
    go_wp2_with fail
    go_ret
    exact ⟨ret_int (by rw [← HR.out, HE.out]; unfold cfI; by_cases h : I < 0 <;> simp [h]), HB1.out⟩
set_option maxHeartbeats 1600000 in
set_option maxRecDepth 100000 in
theorem moveCode2_any (B : Nat) (v : BkV) (x : Bk) (na : Option Addr) (nn nc : Nat) (m : Mo) (gm gf : Nat) (W : World) (hwt : wtBk x ≤ 1048576) (hF : IsForm B W v x na nn) (bm : BoxAt gm [.string m.event, .string m.cond, .string m.to] W) (bf : BoxAt gf (formL x.name v na nn nc) W) :
    Calls Tryz.prog 206 #[.pointer (some ⟨gf, 0, none⟩), .pointer (some ⟨gm, 0, none⟩)] W fun e w' => e = .returned (.int .i64 (if findM (statesM x) m.to < 0 then 2 else 0)) ∧ Below W.heap.size W w' := by
  obtain ⟨p0, p1, p2, p3, p4, p5, p6, p7, p8, p9⟩ := wtBk_parts hwt
  have li := hF.blk.states.1
  obtain ⟨me, mc, mt⟩ := m
  have HP := hidOf (stateAt_any B v.at_ v.nt v.ct x.states mt W hF.le (by omega) hF.blk.states)
  have e1 : x.states.map St.name = statesM x := rfl
  rw [e1] at HP
  obtain ⟨I, hI⟩ : ∃ i, findM (statesM x) mt = i := ⟨_, rfl⟩
  simp only
  rw [hI] at HP ⊢
  obtain ⟨R, hR⟩ : ∃ R, (if I < 0 then (2 : Int) else 0) = R := ⟨_, rfl⟩
  have HR := hidOf hR
  rw [hR]
  clear hR
  obtain ⟨ai, ni, ci, ao, no, co, av, nv, cv, at_, nt, ct⟩ := v
  unfold formL at bf
  simp only at bm bf HP
  obtain ⟨xn, hxn⟩ : ∃ n, x.name = n := ⟨_, rfl⟩
  rw [hxn] at bf
  have d0 : W.cell? ⟨gm, 0, none⟩ = some (.string me) := (bm.2 0 _ rfl).1
  have d1 : W.cell? ⟨gm, 1, none⟩ = some (.string mc) := (bm.2 1 _ rfl).1
  have d2 : W.cell? ⟨gm, 2, none⟩ = some (.string mt) := (bm.2 2 _ rfl).1
  have sm : gm < W.heap.size := bm.1
  have c0 : W.cell? ⟨gf, 0, none⟩ = some (.string xn) := (bf.2 0 _ rfl).1
  have c1 : W.cell? ⟨gf, 1, none⟩ = some (.slice ai ni ci) := (bf.2 1 _ rfl).1
  have c2 : W.cell? ⟨gf, 2, none⟩ = some (.slice ao no co) := (bf.2 2 _ rfl).1
  have c3 : W.cell? ⟨gf, 3, none⟩ = some (.slice av nv cv) := (bf.2 3 _ rfl).1
  have c4 : W.cell? ⟨gf, 4, none⟩ = some (.slice at_ nt ct) := (bf.2 4 _ rfl).1
  have c5 : W.cell? ⟨gf, 5, none⟩ = some (.slice na nn nc) := (bf.2 5 _ rfl).1
  have sf : gf < W.heap.size := bf.1
  clear hI e1 hxn hF bm bf li p0 p1 p2 p3 p4 p5 p6 p7 p8 p9 hwt
  have HCI := hidOf (fun W => codeIf_cf (decide (I < 0)) 2 W)
  go_enter Tryz.func206, Tryz.ntmps206
  go_wp2_with fail
  refine HP.out.mono ?_
  rintro e w1 ⟨rfl, b1⟩
  have HB1 := hidOf b1
  clear b1
  go_wp2_with fail
  refine (HCI.out _).mono ?_
  rintro e w' ⟨rfl, hw'⟩
  rw [hw']
  clear hw' w'
  go_wp2_with fail
  go_ret
  exact ⟨ret_int (by rw [← HR.out]; unfold cfI; by_cases h : I < 0 <;> simp [h]), HB1.out⟩
set_option maxHeartbeats 1600000 in
set_option maxRecDepth 100000 in
theorem moveCode3_any (B : Nat) (v : BkV) (x : Bk) (na : Option Addr) (nn nc : Nat) (m : Mo) (gm gf : Nat) (W : World) (hf : FewNames x) (hms : wtMo m ≤ 1048576) (hF : IsForm B W v x na nn) (bm : BoxAt gm [.string m.event, .string m.cond, .string m.to] W) (bf : BoxAt gf (formL x.name v na nn nc) W) :
    Calls Tryz.prog 207 #[.pointer (some ⟨gf, 0, none⟩), .pointer (some ⟨gm, 0, none⟩)] W fun e w' => e = .returned (.int .i64 (if sumOk (concatM x) m.cond then 0 else 4)) ∧ Below W.heap.size W w' := by
  have hnn := form_size hf hF
  obtain ⟨me, mc, mt⟩ := m
  have HP := hidOf (isSum_any B x.name v na nn nc (concatM x) mc W hF.tabs hF.le hnn (by unfold wtMo at hms; simp only at hms; omega) hF.names)
  obtain ⟨SK, hSK⟩ : ∃ i, sumOk (concatM x) mc = i := ⟨_, rfl⟩
  simp only
  rw [hSK] at HP ⊢
  obtain ⟨R, hR⟩ : ∃ R, (if SK = true then (0 : Int) else 4) = R := ⟨_, rfl⟩
  have HR := hidOf hR
  rw [hR]
  clear hR
  obtain ⟨ai, ni, ci, ao, no, co, av, nv, cv, at_, nt, ct⟩ := v
  unfold formL at bf
  unfold formV at HP
  simp only at bm bf HP
  obtain ⟨xn, hxn⟩ : ∃ n, x.name = n := ⟨_, rfl⟩
  rw [hxn] at bf HP
  have d0 : W.cell? ⟨gm, 0, none⟩ = some (.string me) := (bm.2 0 _ rfl).1
  have d1 : W.cell? ⟨gm, 1, none⟩ = some (.string mc) := (bm.2 1 _ rfl).1
  have d2 : W.cell? ⟨gm, 2, none⟩ = some (.string mt) := (bm.2 2 _ rfl).1
  have sm : gm < W.heap.size := bm.1
  have c0 : W.cell? ⟨gf, 0, none⟩ = some (.string xn) := (bf.2 0 _ rfl).1
  have c1 : W.cell? ⟨gf, 1, none⟩ = some (.slice ai ni ci) := (bf.2 1 _ rfl).1
  have c2 : W.cell? ⟨gf, 2, none⟩ = some (.slice ao no co) := (bf.2 2 _ rfl).1
  have c3 : W.cell? ⟨gf, 3, none⟩ = some (.slice av nv cv) := (bf.2 3 _ rfl).1
  have c4 : W.cell? ⟨gf, 4, none⟩ = some (.slice at_ nt ct) := (bf.2 4 _ rfl).1
  have c5 : W.cell? ⟨gf, 5, none⟩ = some (.slice na nn nc) := (bf.2 5 _ rfl).1
  have sf : gf < W.heap.size := bf.1
  clear hSK hxn hF bm bf hms hf
  have HCI := hidOf (fun W => codeIf_cf (!SK) 4 W)
  go_enter Tryz.func207, Tryz.ntmps207
  go_wp2_with fail
  refine HP.out.mono ?_
  rintro e w1 ⟨rfl, b1⟩
  have HB1 := hidOf b1
  clear b1
  go_wp2_with fail
  refine (HCI.out _).mono ?_
  rintro e w' ⟨rfl, hw'⟩
  rw [hw']
  clear hw' w'
  go_wp2_with fail
  go_ret
  exact ⟨ret_int (by rw [← HR.out]; cases SK <;> rfl), HB1.out⟩
theorem boxAt_next (w : World) (o : Obj) (vals : List Value) (t : TypeId) : BoxAt (w.heap.size + 1) vals ((w.alloc o).alloc (.cells vals.toArray t)) := by
  have := boxAt_new (w.alloc o) vals t
  simpa using this
set_option maxHeartbeats 1600000 in
set_option maxRecDepth 100000 in
theorem moveCode_any (B : Nat) (v : BkV) (x : Bk) (na : Option Addr) (nn nc : Nat) (m : Mo) (w : World) (hwt : wtBk x ≤ 1048576) (hf : FewNames x) (hms : wtMo m ≤ 1048576) (hF : IsForm B w v x na nn) :
    Calls Tryz.prog 174 #[formV x.name v na nn nc, .agg #[.string m.event, .string m.cond, .string m.to]] w fun e w' => e = .returned (.int .i64 (moveM x (concatM x) m)) ∧ Below w.heap.size w w' := by
  have hb0 : ∀ o o' : Obj, Below w.heap.size w ((w.alloc o).alloc o') := fun o o' => below_two (Nat.le_refl _)
  obtain ⟨WB, hWB⟩ : ∃ W, (w.alloc (.cells (formL x.name v na nn nc).toArray 131)).alloc (.cells #[.string m.event, .string m.cond, .string m.to] 69) = W := ⟨_, rfl⟩
  have hbW : Below w.heap.size w WB := by rw [← hWB]; exact below_two (Nat.le_refl _)
  have hsW : WB.heap.size = w.heap.size + 2 := by rw [← hWB]; simp
  have hfm : IsForm B WB v x na nn := hF.below hbW
  have bf : BoxAt w.heap.size (formL x.name v na nn nc) WB := by rw [← hWB]; exact (boxAt_new w (formL x.name v na nn nc) 131).below ((Below.refl _ _).alloc (Nat.le_refl _) _)
  have bm : BoxAt (w.heap.size + 1) [.string m.event, .string m.cond, .string m.to] WB := by rw [← hWB]; exact boxAt_next w _ [.string m.event, .string m.cond, .string m.to] 69
  obtain ⟨c1, hc1⟩ : ∃ c : Int, (if empB m.event = false ∧ findM (insM x) m.event < 0 then (3 : Int) else 0) = c := ⟨_, rfl⟩
  obtain ⟨c2, hc2⟩ : ∃ c : Int, (if findM (statesM x) m.to < 0 then (2 : Int) else 0) = c := ⟨_, rfl⟩
  obtain ⟨c3, hc3⟩ : ∃ c : Int, (if sumOk (concatM x) m.cond then (0 : Int) else 4) = c := ⟨_, rfl⟩
  have hres : moveM x (concatM x) m = firstN [c1, c2, c3] := by
    unfold moveM firstN
    rw [← hc1, ← hc2, ← hc3]
    simp only [firstC, id]
    by_cases h1 : empB m.event = false ∧ findM (insM x) m.event < 0
    · rw [if_pos h1, if_pos h1]; rfl
    · rw [if_neg h1, if_neg h1, if_pos rfl]
      by_cases h2 : findM (statesM x) m.to < 0
      · rw [if_pos h2, if_pos h2]; rfl
      · rw [if_neg h2, if_neg h2, if_pos rfl]
        by_cases h3 : sumOk (concatM x) m.cond = true
        · rw [if_pos h3]; rfl
        · rw [if_neg h3]; rfl
  have HFC : Hid (∀ t, Calls Tryz.prog 73 #[.slice (some ⟨w.heap.size + 2, 0, none⟩) 3 3] (WB.alloc (.cells #[.func (Fn.func 205) #[] #[.pointer (some ⟨w.heap.size + 1, 0, none⟩), .pointer (some ⟨w.heap.size, 0, none⟩)], .func (Fn.func 206) #[] #[.pointer (some ⟨w.heap.size, 0, none⟩), .pointer (some ⟨w.heap.size + 1, 0, none⟩)], .func (Fn.func 207) #[] #[.pointer (some ⟨w.heap.size, 0, none⟩), .pointer (some ⟨w.heap.size + 1, 0, none⟩)]] t)) fun e w' => e = .returned (.int .i64 (firstN [c1, c2, c3])) ∧ Below w.heap.size w w') := by
    intro t
    have hba : ∀ o, Below WB.heap.size WB (WB.alloc o) := fun o => (Below.refl _ _).alloc (Nat.le_refl _) _
    refine (firstCode_any (w.heap.size + 2) 3 3 [(205, [.pointer (some ⟨w.heap.size + 1, 0, none⟩), .pointer (some ⟨w.heap.size, 0, none⟩)]), (206, [.pointer (some ⟨w.heap.size, 0, none⟩), .pointer (some ⟨w.heap.size + 1, 0, none⟩)]), (207, [.pointer (some ⟨w.heap.size, 0, none⟩), .pointer (some ⟨w.heap.size + 1, 0, none⟩)])] [c1, c2, c3] _ (by simp; omega) rfl rfl (by decide) ?_ ?_ ?_).mono fun e w' ⟨h1, h2⟩ => ⟨h1, hbW.trans (((hba _).trans (h2.mono (hba _).size)).mono hbW.size)⟩
    · intro k hk
      have hk3 : k = 0 ∨ k = 1 ∨ k = 2 := by simp at hk; omega
      rcases hk3 with rfl | rfl | rfl <;> (rw [← hsW]; simp)
    · intro k hk
      have hk3 : k = 0 ∨ k = 1 ∨ k = 2 := by simp at hk; omega
      rcases hk3 with rfl | rfl | rfl
      · exact fun args u => by kernel_rfl
      · exact fun args u => by kernel_rfl
      · exact fun args u => by kernel_rfl
    · intro k hk hkc _ W hb
      have hbb := (hba _).trans (hb.mono (hba _).size)
      have hk3 : k = 0 ∨ k = 1 ∨ k = 2 := by simp at hk; omega
      rcases hk3 with rfl | rfl | rfl
      · have := moveCode1_any B v x na nn nc m (w.heap.size + 1) w.heap.size W hwt (hfm.below hbb) (bm.below hbb) (bf.below hbb)
        rw [hc1] at this
        exact this
      · have := moveCode2_any B v x na nn nc m (w.heap.size + 1) w.heap.size W hwt (hfm.below hbb) (bm.below hbb) (bf.below hbb)
        rw [hc2] at this
        exact this
      · have := moveCode3_any B v x na nn nc m (w.heap.size + 1) w.heap.size W hf hms (hfm.below hbb) (bm.below hbb) (bf.below hbb)
        rw [hc3] at this
        exact this
  rw [hres]
  obtain ⟨R, hR⟩ : ∃ R, firstN [c1, c2, c3] = R := ⟨_, rfl⟩
  rw [hR] at HFC ⊢
  rw [← hWB] at HFC
  clear hres hR hc1 hc2 hc3 hfm bf bm hF hbW hsW hb0 hWB
  obtain ⟨ai, ni, ci, ao, no, co, av, nv, cv, at_, nt, ct⟩ := v
  unfold formV
  unfold formL at HFC
  simp only at HFC ⊢
  obtain ⟨xn, hxn⟩ : ∃ n, x.name = n := ⟨_, rfl⟩
  rw [hxn] at HFC ⊢
  clear hxn
  go_enter Tryz.func174, Tryz.ntmps174
  go_wp2_with fail
  refine (HFC.out _).mono ?_
  rintro e w1 ⟨rfl, b1⟩
  have HB1 := hidOf b1
  clear b1
  go_wp2_with fail
  go_ret
  exact ⟨rfl, HB1.out⟩
end Go.Proofs.YtchemhjcknkbgaaGreatDoor

/- The program's code of what is wrong with an act. -/
namespace Go.Proofs.YtchemhjcknkbgaaGreatDoor
open Go Go.RowKit Go.PlainAid
set_option linter.unusedSimpArgs false
set_option linter.unusedVariables false


set_option maxHeartbeats 1600000 in
set_option maxRecDepth 100000 in
theorem actCode_any (B : Nat) (v : BkV) (x : Bk) (na : Option Addr) (nn nc : Nat) (m : Ac) (w : World) (hwt : wtBk x ≤ 1048576) (hf : FewNames x) (hms : wtAc m ≤ 1048576) (hF : IsForm B w v x na nn) :
    Calls Tryz.prog 177 #[formV x.name v na nn nc, .agg #[.int .i64 m.kind, .string m.name, .string m.sum]] w fun e w' => e = .returned (.int .i64 (actI x (concatM x) m)) ∧ Below w.heap.size w w' := by
  obtain ⟨p0, p1, p2, p3, p4, p5, p6, p7, p8, p9⟩ := wtBk_parts hwt
  have lo := hF.blk.outs.1
  have hnn := form_size hf hF
  obtain ⟨ak, an, asm⟩ := m
  unfold wtAc at hms
  simp only at hms ⊢
  have HF := hidOf hF
  have HP : Hid (∀ W, Below w.heap.size w W → Calls Tryz.prog 146 #[.slice v.ao v.no v.co, .string an] W fun e w' => e = .returned (.int .i64 (findM (outsM x) an)) ∧ Below W.heap.size W w') := fun W hb => portAt_any B v.ao v.no v.co x.outs an W (Nat.le_trans HF.out.le hb.size) (by omega) (HF.out.below hb).blk.outs
  have HCS : Hid (∀ W, Below w.heap.size w W → Calls Tryz.prog 209 #[formV x.name v na nn nc, .string an] W fun e w' => e = .returned (.bool (decide ((valsM x.ins).length ≤ findM (concatM x) an))) ∧ Below W.heap.size W w') := fun W hb => canSet_any B v x na nn nc (concatM x) an W (Nat.le_trans HF.out.le hb.size) hwt hnn (HF.out.below hb).blk (HF.out.below hb).names
  have HIS : Hid (∀ W, Below w.heap.size w W → Calls Tryz.prog 208 #[formV x.name v na nn nc, .string asm] W fun e w' => e = .returned (.bool (sumOk (concatM x) asm)) ∧ Below W.heap.size W w') := fun W hb => isSum_any B x.name v na nn nc (concatM x) asm W (HF.out.below hb).tabs (Nat.le_trans HF.out.le hb.size) hnn (by omega) (HF.out.below hb).names
  unfold actI
  simp only
  obtain ⟨P, hP⟩ : ∃ i, findM (outsM x) an = i := ⟨_, rfl⟩
  obtain ⟨CS, hCS⟩ : ∃ b, decide ((valsM x.ins).length ≤ findM (concatM x) an) = b := ⟨_, rfl⟩
  obtain ⟨SK, hSK⟩ : ∃ i, sumOk (concatM x) asm = i := ⟨_, rfl⟩
  obtain ⟨E, hE⟩ : ∃ E, empB asm = E := ⟨_, rfl⟩
  rw [hP] at HP ⊢
  rw [hSK] at HIS ⊢
  rw [hCS] at HCS
  rw [hE]
  have KCS : Hid ((findM (concatM x) an < (valsM x.ins).length) ↔ CS = false) := by
    show _ ↔ _
    rw [← hCS, decide_eq_false_iff_not]
    omega
  obtain ⟨R, hR⟩ : ∃ R, (if ak = 2 ∧ E = true then (if P < 0 then (3 : Int) else 0) else if ak ≠ 1 ∨ findM (concatM x) an < (valsM x.ins).length then 5 else if SK = true then 0 else 4) = R := ⟨_, rfl⟩
  have HR := hidOf hR
  rw [hR]
  unfold empB at hE
  obtain ⟨ai, ni, ci, ao, no, co, av, nv, cv, at_, nt, ct⟩ := v
  obtain ⟨xn, hxn⟩ : ∃ n, x.name = n := ⟨_, rfl⟩
  unfold formV at HCS HIS ⊢
  simp only at HP HCS HIS ⊢
  rw [hxn] at HCS HIS ⊢
  clear hR hP hCS hSK hxn hF HF lo hnn p0 p1 p2 p3 p4 p5 p6 p7 p8 p9 hwt hf hms
  obtain ⟨WB, hWB⟩ : ∃ W, (w.alloc (.cells #[.string xn, .slice ai ni ci, .slice ao no co, .slice av nv cv, .slice at_ nt ct, .slice na nn nc] 131)).alloc (.cells #[.int .i64 ak, .string an, .string asm] 71) = W := ⟨_, rfl⟩
  have hbW : Below w.heap.size w WB := by rw [← hWB]; exact below_two (Nat.le_refl _)
  have hsW : WB.heap.size = w.heap.size + 2 := by rw [← hWB]; simp
  have bf : BoxAt w.heap.size [.string xn, .slice ai ni ci, .slice ao no co, .slice av nv cv, .slice at_ nt ct, .slice na nn nc] WB := by rw [← hWB]; exact (boxAt_new w [.string xn, .slice ai ni ci, .slice ao no co, .slice av nv cv, .slice at_ nt ct, .slice na nn nc] 131).below ((Below.refl _ _).alloc (Nat.le_refl _) _)
  have bm : BoxAt (w.heap.size + 1) [.int .i64 ak, .string an, .string asm] WB := by rw [← hWB]; exact boxAt_next w _ [.int .i64 ak, .string an, .string asm] 71
  have HBW := hidOf hbW
  have BF := hidOf bf
  have BM := hidOf bm
  rw [← hWB] at HBW BF BM
  clear hbW hsW bf bm hWB
  have HC3 := hidOf (fun W => codeIf_cf (decide (P < 0)) 3 W)
  have HC4 := hidOf (fun W => codeIf_cf (!SK) 4 W)
  by_cases hk1 : ak = 1
  · subst hk1
    clear hE
    go_enter Tryz.func177, Tryz.ntmps177
    go_wp2_with fail
    refine (HCS.out _ HBW.out).mono ?_
    rintro e w1 ⟨rfl, b1⟩
    have HB1 : Hid (Below w.heap.size w w1) := HBW.out.trans (b1.mono HBW.out.size)
    have BF1 := hidOf (BF.out.below b1)
    have BM1 := hidOf (BM.out.below b1)
    clear b1
    have d0 : w1.cell? ⟨w.heap.size + 1, 0, none⟩ = some (.int .i64 1) := (BM1.out.2 0 _ rfl).1
    have d1 : w1.cell? ⟨w.heap.size + 1, 1, none⟩ = some (.string an) := (BM1.out.2 1 _ rfl).1
    have d2 : w1.cell? ⟨w.heap.size + 1, 2, none⟩ = some (.string asm) := (BM1.out.2 2 _ rfl).1
    have sm : w.heap.size + 1 < w1.heap.size := BM1.out.1
    have c0 : w1.cell? ⟨w.heap.size, 0, none⟩ = some (.string xn) := (BF1.out.2 0 _ rfl).1
    have c1 : w1.cell? ⟨w.heap.size, 1, none⟩ = some (.slice ai ni ci) := (BF1.out.2 1 _ rfl).1
    have c2 : w1.cell? ⟨w.heap.size, 2, none⟩ = some (.slice ao no co) := (BF1.out.2 2 _ rfl).1
    have c3 : w1.cell? ⟨w.heap.size, 3, none⟩ = some (.slice av nv cv) := (BF1.out.2 3 _ rfl).1
    have c4 : w1.cell? ⟨w.heap.size, 4, none⟩ = some (.slice at_ nt ct) := (BF1.out.2 4 _ rfl).1
    have c5 : w1.cell? ⟨w.heap.size, 5, none⟩ = some (.slice na nn nc) := (BF1.out.2 5 _ rfl).1
    have sf : w.heap.size < w1.heap.size := BF1.out.1
    cases CS with
    | false =>
      go_wp2_with fail
      go_ret
      exact ⟨ret_int (by rw [← HR.out, if_neg (fun h => by omega), if_pos (.inr (KCS.out.2 (by first | rfl | trivial)))]), HB1.out⟩
    | true =>
      go_wp2_with fail
      refine (HIS.out _ HB1.out).mono ?_
      rintro e w2 ⟨rfl, b2⟩
      have HB2 : Hid (Below w.heap.size w w2) := HB1.out.trans (b2.mono HB1.out.size)
      clear b2
      go_wp2_with fail
      refine (HC4.out _).mono ?_
      rintro e w' ⟨rfl, hw'⟩
      rw [hw']
      clear hw' w'
      go_wp2_with fail
      go_ret
      exact ⟨ret_int (by rw [← HR.out, if_neg (fun h => by omega), if_neg (fun h => by rcases h with h | h; exact h rfl; have := KCS.out.1 h; cases this)]; unfold cfI; cases SK <;> rfl), HB2.out⟩
  · by_cases hk2 : ak = 2
    · subst hk2
      cases he : asm.toList.isEmpty with
      | true =>
        have HE : Hid (E = true) := by show E = true; rw [← hE, he]
        clear hE
        go_enter Tryz.func177, Tryz.ntmps177
        go_wp2_with fail
        refine (HP.out _ HBW.out).mono ?_
        rintro e w1 ⟨rfl, b1⟩
        have HB1 : Hid (Below w.heap.size w w1) := HBW.out.trans (b1.mono HBW.out.size)
        clear b1
        go_wp2_with fail
        refine (HC3.out _).mono ?_
        rintro e w' ⟨rfl, hw'⟩
        rw [hw']
        clear hw' w'
        go_wp2_with fail
        go_ret
        exact ⟨ret_int (by rw [← HR.out, if_pos ⟨by first | rfl | trivial, HE.out⟩]; unfold cfI; by_cases h : P < 0 <;> simp [h]), HB1.out⟩
      | false =>
        have HE : Hid (E = false) := by show E = false; rw [← hE, he]
        clear hE
        go_enter Tryz.func177, Tryz.ntmps177
        go_wp2_with fail
        go_ret
        exact ⟨ret_int (by rw [← HR.out, if_neg (fun h => by rw [HE.out] at h; cases h.2), if_pos (.inl (by decide))]), HBW.out⟩
    · have hk2' : (ak == 2) = false := by simp [hk2]
      have hk1' : (ak == 1) = false := by simp [hk1]
      have hk1'' : (ak != 1) = true := by simp [hk1]
      clear hE
      go_enter Tryz.func177, Tryz.ntmps177
      go_wp2_with fail
      go_ret
      exact ⟨ret_int (by rw [← HR.out, if_neg (fun h => hk2 h.1), if_pos (.inl hk1)]), HBW.out⟩
end Go.Proofs.YtchemhjcknkbgaaGreatDoor
