/- The law's marks: what it writes into an answer, and looks up again. -/
import Derived.Test.YtbpfonmkbbnkcaaGreatDoorBunB
import Derived.Test.YtbpfonmkbbnkcaaGreatDoorBunE
import Derived.Test.YtbpfonmkbbnkcaaGreatDoorBunD
namespace Go.Proofs.YtbpfonmkbbnkcaaGreatDoor
open Go Go.RowKit Go.PlainAid
set_option linter.unusedSimpArgs false
set_option linter.unusedVariables false

def mtF : Nat → Int → ByteArray → ByteArray
  | 0, _, out => out
  | f + 1, k, out => if 0 < k then mtF f (k / 10) (dig (k % 10) ++ out) else out
/-- a mark's text -/
def mtx (k : Int) : ByteArray := ⟨#[109]⟩ ++ mtF 12 k ⟨#[]⟩
theorem mtF_zero (f : Nat) {k : Int} (out : ByteArray) (h : k ≤ 0) : mtF f k out = out := by
  cases f with
  | zero => rfl
  | succ f => unfold mtF; rw [if_neg (by omega)]

set_option maxHeartbeats 800000 in
set_option maxRecDepth 100000 in
theorem markText_any (k : Int) (w : World) (h0 : 0 < k) (h1 : k < 1000000000000) : Calls Tryz.prog 63 #[.int .i64 k] w fun e w' => e = .returned (.string (mtx k)) ∧ Below w.heap.size w w' := by
  obtain ⟨M, hM⟩ : ∃ M, mtx k = M := ⟨_, rfl⟩
  have HM : Hid (mtx k = M) := hM
  rw [hM]
  clear hM
  go_enter Tryz.func63, Tryz.ntmps63
  go_wp2_with fail
  go_loopw [0, 3] (fun v o wr => ∃ (q : Int) (f : Nat) (out : ByteArray), v = .int .i64 q ∧ o = .string out ∧ 0 ≤ q ∧ q < 10 ^ f ∧ f + out.size ≤ 12 ∧ Hid (mtF 12 k ⟨#[]⟩ = mtF f q out) ∧ Below w.heap.size w wr) (fun v _ _ => (intOf v).toNat)
  case atStart => exact ⟨k, 12, ⟨#[]⟩, rfl, rfl, by omega, by simpa using h1, by decide, rfl, Below.refl _ _⟩
  case round =>
    obtain ⟨q, f, out, rfl, rfl, hq0, hq1, hf, HF, hbel⟩ := hrel
    have hqq : q < 1000000000000 := by
      have : (10 : Int) ^ f ≤ 10 ^ 12 := by exact_mod_cast Nat.pow_le_pow_right (by decide : 0 < 10) (show f ≤ 12 by omega)
      have e : (10 : Int) ^ 12 = 1000000000000 := by decide
      omega
    by_cases hlt : 0 < q
    · obtain ⟨g, rfl⟩ : ∃ g, f = g + 1 := ⟨f - 1, by
        cases f with
        | zero => simp at hq1; omega
        | succ f => rfl⟩
      obtain ⟨d, hd⟩ : ∃ d, q / 10 = d := ⟨_, rfl⟩
      obtain ⟨r, hr⟩ : ∃ r, q % 10 = r := ⟨_, rfl⟩
      have t1 : q.tdiv 10 = d := by rw [Int.tdiv_eq_ediv_of_nonneg hq0]; exact hd
      have t2 : q.tmod 10 = r := by rw [Int.tmod_eq_emod_of_nonneg hq0]; exact hr
      have hcv := conv_dig r (by omega) (by omega)
      have HN : Hid (mtF 12 k ⟨#[]⟩ = mtF g d (dig r ++ out)) := by
        show mtF 12 k ⟨#[]⟩ = _
        rw [HF.out, mtF, if_pos hlt, hd, hr]
      have hd1 : d < 10 ^ g := by
        rw [Int.pow_succ] at hq1
        rw [← hd]
        exact Int.ediv_lt_of_lt_mul (by decide) hq1
      have HD : Hid (d < 10 ^ g) := hd1
      have hdz : (dig r).size = 1 := rfl
      have hz9 : (dig r).size + out.size ≤ 9223372036854775807 := by omega
      have hz10 : (dig r ++ out).size = 1 + out.size := by rw [ByteArray.size_append, hdz]
      have hm1 : 0 ≤ r := by omega
      have hm2 : r < 10 := by omega
      have hd2 : 0 ≤ d := by omega
      have hd3 : d < q := by omega
      have p1 : IntKind.i64.wrap d = d := IntWalk.i64_in _ ⟨by omega, by omega⟩
      have p2 : IntKind.i64.wrap (48 + r) = 48 + r := IntWalk.i64_in _ ⟨by omega, by omega⟩
      have p3 : IntKind.u8.wrap (48 + r) = 48 + r := IntWalk.u8_in _ ⟨by omega, by omega⟩
      have p4 : IntKind.i64.wrap r = r := IntWalk.i64_in _ ⟨by omega, by omega⟩
      clear hd hr hq1 hd1 HF
      go_wp2_with fail
      go_roundw
      case rel => exact ⟨d, g, dig r ++ out, rfl, rfl, hd2, HD.out, by omega, HN, hbel.alloc hbel.size _⟩
      case measure => simp [intOf]; omega
    · have HE : Hid (⟨#[109]⟩ ++ out = M) := by
        show (⟨#[109]⟩ : ByteArray) ++ out = M
        rw [← HM.out]; unfold mtx; rw [HF.out, mtF_zero f out (by omega)]
      have e1 : (⟨#[109]⟩ : ByteArray).size = 1 := rfl
      clear hq1
      go_wp2_with fail
      go_ret
      exact ⟨ret_str HE.out, hbel⟩

/-- the marks of n nodes, from k on -/
def markNd (k : Int) (i : Nat) : Nd := (k + 3 * i, k + 3 * i + 1, mtx (k + 3 * i + 2))
def markL (n : Nat) (k : Int) : List Nd := (List.range n).map (markNd k)
theorem markL_len (n : Nat) (k : Int) : (markL n k).length = n := by simp [markL]
theorem markL_at {n : Nat} {k : Int} {i : Nat} (h : i < (markL n k).length) : (markL n k)[i] = markNd k i := by simp [markL]
theorem nd_set (l : List Nd) : ∀ (m : Nat) (x : Nd), m < l.length → (((ndCells l).set (m * 3) (.int .i64 x.1)).set (m * 3 + 1) (.int .i64 x.2.1)).set (m * 3 + 1 + 1) (.string x.2.2) = ndCells (l.set m x) := by
  induction l with
  | nil => intro m x h; simp at h
  | cons y r ih =>
    intro m x h
    have e : ∀ (z : Nd) (q : List Nd), ndCells (z :: q) = .int .i64 z.1 :: .int .i64 z.2.1 :: .string z.2.2 :: ndCells q := fun z q => by simp [ndCells]
    cases m with
    | zero =>
      show (((ndCells (y :: r)).set 0 _).set 1 _).set 2 _ = ndCells (x :: r)
      rw [e, e]; rfl
    | succ m =>
      rw [e, List.set_cons_succ, e, show (m + 1) * 3 = m * 3 + 1 + 1 + 1 from by omega]
      simp only [List.set_cons_succ]
      rw [ih m x (by simpa using h)]
theorem own_at {B : Nat} {w : World} {v : Value} {l : List Nd} (h : OwnNd B w v l) {m : Nat} (hm : m < l.length) : ∃ g cap, v = .slice (some ⟨g, 0, none⟩) l.length cap ∧ B ≤ g ∧ g < w.heap.size ∧ l.length ≤ cap ∧ (∀ j, w.frozen? ⟨g, j, none⟩ = false) ∧
    w.cell? ⟨g, m * 3, none⟩ = some (.int .i64 l[m].1) ∧ w.cell? ⟨g, m * 3 + 1, none⟩ = some (.int .i64 l[m].2.1) ∧ w.cell? ⟨g, m * 3 + 1 + 1, none⟩ = some (.string l[m].2.2) := by
  have h0 := h
  obtain ⟨h1, h2⟩ := h
  rcases h2 with ⟨hv, hn⟩ | ⟨g, cap, cur, hv, h3, h4, h5⟩
  · omega
  · subst hv
    have hlt := World.ownsRow.lt h0 g rfl
    obtain ⟨e1, e2, e3⟩ := ndCells_at l m hm
    refine ⟨g, cap, rfl, hlt.1, hlt.2, ?_, fun j => World.ownsRow.frozenAt h0 j, ?_, ?_, ?_⟩
    · obtain ⟨a', cap', e, hc⟩ := OwnNd.form h0
      cases e; exact hc
    · rw [World.ownsRow.cellAt h0 (m * 3) (by omega), e1]
    · rw [World.ownsRow.cellAt h0 (m * 3 + 1) (by omega), e2]
    · rw [World.ownsRow.cellAt h0 (m * 3 + 1 + 1) (by omega), e3]

/-- the first m of n nodes are marked -/
def MkTo (n : Nat) (k : Int) (m : Nat) (c : List Nd) : Prop := c.length = n ∧ ∀ i, (h : i < c.length) → i < m → c[i] = markNd k i
theorem MkTo.all {n : Nat} {k : Int} {c : List Nd} (h : MkTo n k n c) : c = markL n k := by
  apply List.ext_getElem
  · rw [h.1, markL_len]
  · intro i h1 h2
    rw [markL_at, h.2 i h1 (by have := h.1; omega)]
theorem MkTo.next {n : Nat} {k : Int} {m : Nat} {c : List Nd} (h : MkTo n k m c) (hm : m < n) : MkTo n k (m + 1) (c.set m (markNd k m)) := by
  refine ⟨by simpa using h.1, fun i h1 h2 => ?_⟩
  by_cases e : m = i
  · subst e; simp
  · rw [List.getElem_set_ne e]
    exact h.2 i (by simpa using h1) (by omega)

set_option maxHeartbeats 1600000 in
set_option maxRecDepth 100000 in
theorem markNodeS_any (B : Nat) (v : Value) (l : List Nd) (k : Int) (w : World) (hB : B ≤ w.heap.size) (h : OwnNd B w v l) (hl : l.length ≤ 1048576) (hk0 : 0 < k) (hk1 : k ≤ 1000000000) :
    Calls Tryz.prog 30 #[v, .int .i64 k] w fun e w' => e = .returned (.int .i64 (k + 3 * l.length)) ∧ Below B w w' ∧ OwnNd B w' v (markL l.length k) := by
  have HO : Hid (OwnNd B w v l) := h
  obtain ⟨a, cap, rfl, hcap⟩ := h.form
  obtain ⟨n, hn⟩ : ∃ n, l.length = n := ⟨_, rfl⟩
  have HN : Hid (l.length = n) := hn
  rw [hn] at hl hcap ⊢
  clear h hn
  go_enter Tryz.func30, Tryz.ntmps30
  go_wp2_with fail
  go_loopw [1, 5] (fun q i wr => ∃ (m : Nat) (c : List Nd), m ≤ n ∧ i = .int .i64 m ∧ q = .int .i64 (k + 3 * m) ∧ Hid (MkTo n k m c) ∧ Hid (OwnNd B wr (.slice a n cap) c) ∧ Below B w wr) (fun _ i _ => n - (intOf i).toNat)
  case atStart => exact ⟨0, l, Nat.zero_le _, rfl, by simp, ⟨HN.out, fun i _ hi => by omega⟩, by rw [← HN.out]; exact HO.out, Below.refl _ _⟩
  case round =>
    obtain ⟨m, c, hm, rfl, rfl, HM, HC, hbel⟩ := hrel
    have hcl := HM.out.1
    have p0 : IntKind.i64.wrap (k + 3 * m + 1) = k + 3 * m + 1 := IntWalk.i64_in _ ⟨by omega, by omega⟩
    have p1 : IntKind.i64.wrap (k + 3 * m + 1 + 1) = k + 3 * m + 1 + 1 := IntWalk.i64_in _ ⟨by omega, by omega⟩
    have p2 : IntKind.i64.wrap (k + 3 * m + 1 + 1 + 1) = k + 3 * m + 1 + 1 + 1 := IntWalk.i64_in _ ⟨by omega, by omega⟩
    by_cases hlt : m < n
    · obtain ⟨g, cap', hv, hg1, hg2, _, hfz, c0, c1, c2⟩ := own_at HC.out (show m < c.length by omega)
      obtain ⟨rfl, -, -⟩ : a = some ⟨g, 0, none⟩ ∧ True ∧ True := by cases hv; exact ⟨rfl, trivial, trivial⟩
      have HMT : Hid (∀ w, Calls Tryz.prog 63 #[.int .i64 (k + 3 * m + 1 + 1)] w fun e w' => e = .returned (.string (mtx (k + 3 * m + 1 + 1))) ∧ Below w.heap.size w w') := fun w => markText_any _ w (by omega) (by omega)
      generalize (c[m]'(by omega)).1 = x0 at c0
      generalize (c[m]'(by omega)).2.1 = x1 at c1
      generalize (c[m]'(by omega)).2.2 = x2 at c2
      clear hv
      obtain ⟨W2, hW2⟩ : ∃ W2, W2 = (wr.setCell ⟨g, m * 3, none⟩ (.int .i64 (k + 3 * m))).setCell ⟨g, m * 3 + 1, none⟩ (.int .i64 (k + 3 * m + 1)) := ⟨_, rfl⟩
      have hC1 : wr.ownsRow B 38 3 (.slice (some ⟨g, 0, none⟩) n cap) n (ndCells c) := by
        have := HC.out
        unfold OwnNd at this
        rw [hcl] at this; exact this
      have s1 := (hC1.stored (m * 3) (.int .i64 (k + 3 * m))).1
      have s2 := (s1.stored (m * 3 + 1) (.int .i64 (k + 3 * m + 1))).1
      have HW2 : Hid (W2 = (wr.setCell ⟨g, m * 3, none⟩ (.int .i64 (k + 3 * m))).setCell ⟨g, m * 3 + 1, none⟩ (.int .i64 (k + 3 * m + 1))) := hW2
      have HS2 : Hid (W2.ownsRow B 38 3 (.slice (some ⟨g, 0, none⟩) n cap) n (((ndCells c).set (m * 3) (.int .i64 (k + 3 * m))).set (m * 3 + 1) (.int .i64 (k + 3 * m + 1)))) := by
        show World.ownsRow _ _ _ _ _ _ _
        rw [hW2]; exact s2
      have hz2 : W2.heap.size = wr.heap.size := by rw [hW2]; simp [World.setCell]
      have HB2 : Hid (Below B w W2) := by
        show Below _ _ _
        rw [hW2]; exact (hbel.setCell hg1 _).setCell hg1 _
      have k2 : W2.cell? ⟨g, m * 3 + 1 + 1, none⟩ = some (.string x2) := by
        rw [hW2, setCell_ne _ _ _ _ _ (by omega), setCell_ne _ _ _ _ _ (by omega)]; exact c2
      have f2 : W2.frozen? ⟨g, m * 3 + 1 + 1, none⟩ = false := by rw [hW2]; simpa using hfz (m * 3 + 1 + 1)
      clear s1 s2 hW2 hC1
      go_wp2_with fail
      rw [← HW2.out]
      refine (HMT.out W2).mono ?_
      rintro e w3 ⟨rfl, hb3⟩
      have d2 := (hb3.cell (p := ⟨g, m * 3 + 1 + 1, none⟩) (by simp; omega)).trans k2
      have e2 := (hb3.frozen (p := ⟨g, m * 3 + 1 + 1, none⟩) (by simp; omega)).trans f2
      have hz3 := hb3.size
      have HS3 : Hid (w3.ownsRow B 38 3 (.slice (some ⟨g, 0, none⟩) n cap) n (((ndCells c).set (m * 3) (.int .i64 (k + 3 * m))).set (m * 3 + 1) (.int .i64 (k + 3 * m + 1)))) := own_of_block HS2.out (fun q hq => hb3.block q (World.ownsRow.lt HS2.out q hq).2)
      have HB3 : Hid (Below B w w3) := HB2.out.trans (hb3.mono (by omega))
      clear hb3 k2 f2 c0 c1 c2 hfz HS2 HB2
      go_wp2_with fail
      go_roundw
      case rel =>
        refine ⟨m + 1, c.set m (markNd k m), by omega, by go_num, congrArg (Value.int IntKind.i64) (by push_cast; omega), HM.out.next hlt, ?_, HB3.out.setCell hg1 _⟩
        show w3.setCell _ _ |>.ownsRow _ _ _ _ _ _
        have s3 := (HS3.out.stored (m * 3 + 1 + 1) (.string (mtx (k + 3 * m + 1 + 1)))).1
        have e4 := nd_set c m (markNd k m) (by omega)
        have e5 : k + 3 * (m : Int) + 1 + 1 = k + 3 * m + 2 := by omega
        rw [e5] at s3 ⊢
        rw [List.length_set, hcl, ← e4]
        exact s3
      case measure => simp [intOf]; omega
    · have : m = n := by omega
      subst this
      have e := HM.out.all
      go_wp2_with fail
      go_ret
      exact ⟨rfl, hbel, by rw [← e]; exact HC.out⟩

set_option maxHeartbeats 1600000 in
set_option maxRecDepth 100000 in
theorem heldNodeS_any (B : Nat) (a : Option Addr) (n cap : Nat) (k : Int) (w : World) (hB : B ≤ w.heap.size) (h : IsNds B w a n (markL n k)) (hl : n ≤ 1048576) (hk0 : 0 < k) (hk1 : k ≤ 1000000000) :
    Calls Tryz.prog 31 #[.slice a n cap, .int .i64 k] w fun e w' => e = .returned (.int .i64 (k + 3 * n)) ∧ Below w.heap.size w w' := by
  obtain ⟨hlen, hcells⟩ := h
  go_enter Tryz.func31, Tryz.ntmps31
  go_wp2_with fail
  go_loopw [1, 5] (fun q i wr => ∃ m : Nat, m ≤ n ∧ i = .int .i64 m ∧ q = .int .i64 (k + 3 * m) ∧ Below w.heap.size w wr) (fun _ i _ => n - (intOf i).toNat)
  case atStart => exact ⟨0, Nat.zero_le _, rfl, by simp, Below.refl _ _⟩
  case round =>
    obtain ⟨m, hm, rfl, rfl, hbel⟩ := hrel
    have p0 : IntKind.i64.wrap (k + 3 * m + 1) = k + 3 * m + 1 := IntWalk.i64_in _ ⟨by omega, by omega⟩
    have p1 : IntKind.i64.wrap (k + 3 * m + 1 + 1) = k + 3 * m + 1 + 1 := IntWalk.i64_in _ ⟨by omega, by omega⟩
    have p2 : IntKind.i64.wrap (k + 3 * m + 1 + 1 + 1) = k + 3 * m + 1 + 1 + 1 := IntWalk.i64_in _ ⟨by omega, by omega⟩
    by_cases hlt : m < n
    · rcases hcells with h0 | ⟨b, off, rfl, hb, hc⟩
      · omega
      have cc := hc m (by omega)
      rw [markL_at] at cc
      unfold markNd at cc
      simp only at cc
      have e5 : k + 3 * (m : Int) + 2 = k + 3 * m + 1 + 1 := by omega
      rw [e5] at cc
      have c0 := (hbel.cell (p := ⟨b, off + m * 3, none⟩) (by simp; omega)).trans cc.1
      have c1 := (hbel.cell (p := ⟨b, off + m * 3 + 1, none⟩) (by simp; omega)).trans cc.2.1
      have c2 := (hbel.cell (p := ⟨b, off + m * 3 + 1 + 1, none⟩) (by simp; omega)).trans cc.2.2
      have HMT : Hid (∀ w, Calls Tryz.prog 63 #[.int .i64 (k + 3 * m + 1 + 1)] w fun e w' => e = .returned (.string (mtx (k + 3 * m + 1 + 1))) ∧ Below w.heap.size w w') := fun w => markText_any _ w (by omega) (by omega)
      have hbr : b < wr.heap.size := by have := hbel.size; omega
      generalize mtx (k + 3 * m + 1 + 1) = mt at *
      clear hc cc
      go_wp2_with fail
      go_region_held3 (fun w' => w'.cell? ⟨b, off + m * 3 + 1 + 1, none⟩ = some (.string mt)) (simp [go_sem, *])
        (first | (go_at_call 63; refine (HMT.out _).mono ?_; rintro e w' ⟨rfl, hb1⟩; replace hb1 := undrew hb1; obtain ⟨hc1, hf1⟩ := bcell hb1))
      go_wp2_with fail
      go_roundw
      case rel => exact ⟨m + 1, by omega, by go_num, congrArg (Value.int IntKind.i64) (by push_cast; omega), hbel.trans (hb1.mono hbel.size)⟩
      case measure => simp [intOf]; omega
    · have : m = n := by omega
      subst this
      go_wp2_with fail
      go_ret
      exact ⟨rfl, hbel⟩
end Go.Proofs.YtbpfonmkbbnkcaaGreatDoor
