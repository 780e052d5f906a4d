/- Drawn texts: DrawExprGet; a text between two blanks; what both sides read. -/
import Derived.Test.YtcajjngjojegfaaGreatDoorBent
import Derived.Test.YtcajjngjojegfaaGreatDoorBlanks
namespace Go.Proofs.YtcajjngjojegfaaGreatDoor
open Go Go.RowKit Go.PlainAid
set_option linter.unusedSimpArgs false
set_option linter.unusedVariables false

theorem bt_app (x y : ByteArray) (k : Nat) : bt (x ++ y) k = if k < x.size then bt x k else bt y (k - x.size) := by
  have hsz : (x ++ y).size = x.size + y.size := ByteArray.size_append
  by_cases h1 : k < x.size
  · rw [if_pos h1]
    unfold bt
    rw [dif_pos (by omega), dif_pos h1]
    have e : (x ++ y)[k]'(by omega) = x[k] := by
      show (x ++ y).data[k]'(by show k < (x ++ y).size; omega) = x.data[k]
      simp only [ByteArray.data_append]
      exact Array.getElem_append_left h1
    rw [e]
  · rw [if_neg h1]
    unfold bt
    by_cases h2 : k < x.size + y.size
    · rw [dif_pos (by omega), dif_pos (show k - x.size < y.size by omega)]
      have e : (x ++ y)[k]'(by omega) = y[k - x.size]'(by omega) := by
        show (x ++ y).data[k]'(by show k < (x ++ y).size; omega) = y.data[k - x.size]'(by show k - x.size < y.size; omega)
        simp only [ByteArray.data_append]
        exact Array.getElem_append_right (by show x.size ≤ k; omega)
      rw [e]
    · rw [dif_neg (by omega), dif_neg (by omega)]
theorem ext_bt {x y : ByteArray} (h1 : x.size = y.size) (h : ∀ k, k < x.size → bt x k = bt y k) : x = y := by
  apply ByteArray.ext
  apply Array.ext
  · exact h1
  · intro i h2 h3
    have h2' : i < x.size := h2
    have h3' : i < y.size := h3
    have h4 := h i h2'
    unfold bt at h4
    rw [dif_pos h2', dif_pos h3'] at h4
    apply UInt8.toNat_inj.1
    exact_mod_cast h4
def sp : ByteArray := ⟨#[32]⟩
theorem pad_is (s : ByteArray) : Pad s (sp ++ s ++ sp) := by
  have hsp : sp.size = 1 := rfl
  have h1 : (sp ++ s).size = s.size + 1 := by rw [ByteArray.size_append, hsp]; omega
  have hu : (sp ++ s ++ sp).size = s.size + 2 := by rw [ByteArray.size_append, h1, hsp]
  have hbody : ∀ k, k < s.size → bt (sp ++ s ++ sp) (k + 1) = bt s k := fun k hk => by
    rw [bt_app, if_pos (by omega), bt_app, if_neg (by omega), hsp, Nat.add_sub_cancel]
  have hout : ∀ (x : ByteArray) (k : Nat), x.size ≤ k → bt x k = bt noName 0 := fun x k hk => by
    unfold bt
    rw [dif_neg (by omega), dif_neg (by decide)]
  refine ⟨hu, hbody, ?_, ?_, ?_, ?_, fun i j hij hj => ?_⟩
  · rw [bt_app, if_neg (by omega), h1, Nat.sub_self]; decide
  · rw [hout _ _ (by omega), hout s _ (Nat.le_refl _)]
  · rw [hout s _ (Nat.le_refl _)]; decide
  · rw [hout s _ (Nat.le_refl _)]; decide
  · have e1 : ((sp ++ s ++ sp).extract (i + 1) (j + 1)).size = j - i := by rw [ByteArray.size_extract, hu]; omega
    have e2 : (s.extract i j).size = j - i := by rw [ByteArray.size_extract]; omega
    refine ext_bt (by rw [e1, e2]) (fun k hk => ?_)
    rw [bt_extract _ (by omega) (by omega), bt_extract _ hj (by omega), show i + 1 + k = i + k + 1 from by omega, hbody (i + k) (by omega)]
theorem pad_zero (s : ByteArray) : bt (sp ++ s ++ sp) 0 = 32 := by
  have h1 : (sp ++ s).size = s.size + 1 := by rw [ByteArray.size_append]; show 1 + s.size = _; omega
  rw [bt_app, if_pos (by omega), bt_app, if_pos (by decide)]; decide
theorem exprM_pad {s : ByteArray} {l : List Nd} (h : exprM s = some l) (hs : s.size ≤ 58) : exprM (sp ++ s ++ sp) = some l := by
  have hg := exprM_get h
  have hp := getM_pad (pad_is s) (pad_zero s) hs hg
  unfold exprM at h ⊢
  rw [hp]
  rw [hg] at h
  exact h
theorem exprM_put {s : ByteArray} {l : List Nd} (h : exprM s = some l) : (putM l).toList.isEmpty = false ∧ s.size ≤ 60 := by
  have hg := exprM_get h
  refine ⟨?_, ?_⟩
  · unfold exprM at h
    rw [hg] at h
    simp only at h
    split at h
    · cases h
    · rename_i hh; simpa using hh
  · unfold getM at hg
    split at hg
    · cases hg
    · omega

/-- what reading a text leaves: a list of its own -/
def GotPost (w : World) (l : List Nd) (n : Nat) (b : Bool) (e : Ending) (w' : World) : Prop :=
  ∃ a cap, e = .returned (.tuple #[.slice a n cap, .bool b]) ∧ OwnNd w.heap.size w' (.slice a n cap) l ∧ Below w.heap.size w w'
theorem form_n {B : Nat} {w : World} {v : Value} {l : List Nd} {n : Nat} (h : OwnNd B w v l) (hn : l.length = n) : ∃ a cap, v = .slice a n cap := by
  obtain ⟨a, cap, h1, _⟩ := h.form
  exact ⟨a, cap, by rw [h1, hn]⟩
theorem is_n {B : Nat} {w : World} {a : Option Addr} {n cap : Nat} {l : List Nd} (h : OwnNd B w (.slice a n cap) l) (hn : l.length = n) : IsNds w.heap.size w a n l := by
  obtain ⟨a', cap', h1, h2⟩ := h.is
  cases h1
  rw [hn] at h2; exact h2
/-- what a text is read as -/
def Rds (s : ByteArray) (l : List Nd) (b : Bool) : Prop := (exprM s = none ∧ l = [] ∧ b = false) ∨ (exprM s = some l ∧ b = true)
theorem got_impl {s : ByteArray} {l : List Nd} {b : Bool} (h : Rds s l b) (hs : s.size ≤ 1048576) (w : World) (hw : Tabs w) : Calls Tryz.prog 15 #[.string s] w fun e w' => GotPost w l l.length b e w' := by
  refine (implGet_any s w hw (by unfold maxLen; omega)).mono ?_
  rintro e w' ⟨v, c, rfl, h1, h2, hb⟩
  rcases h with ⟨h, rfl, rfl⟩ | ⟨h, rfl⟩
  · obtain ⟨rfl, rfl⟩ := h1 h
    exact ⟨none, 0, rfl, own_nil _ _, hb⟩
  · obtain ⟨rfl, ho⟩ := h2 l h
    obtain ⟨a, cap, rfl⟩ := form_n ho rfl
    exact ⟨a, cap, rfl, ho, hb⟩
theorem got_spec {s : ByteArray} {l : List Nd} {b : Bool} (h : Rds s l b) (hs : s.size ≤ 1048576) (w : World) : Calls Tryz.prog 18 #[.string s] w fun e w' => GotPost w l l.length b e w' := by
  refine (ExprGet_any s w hs).mono ?_
  rintro e w' ⟨v, c, rfl, h1, h2, hb⟩
  rcases h with ⟨h, rfl, rfl⟩ | ⟨h, rfl⟩
  · obtain ⟨rfl, rfl⟩ := h1 h
    exact ⟨none, 0, rfl, own_nil _ _, hb⟩
  · obtain ⟨rfl, ho⟩ := h2 l h
    obtain ⟨a, cap, rfl⟩ := form_n ho rfl
    exact ⟨a, cap, rfl, ho, hb⟩
theorem tt_same (B : Nat) (a a' : Option Addr) (n cap cap' : Nat) (l : List Nd) (w : World) (hn : n ≤ 1048576) (hz : IsNds B w a n l) (hz' : IsNds B w a' n l) : Calls Tryz.prog 16 #[.slice a n cap, .slice a' n cap'] w fun e w' => e = .returned (.bool true) ∧ Below w.heap.size w w' := by
  have := ttNodes_any B a a' n n cap cap' l l w hn hn hz hz'
  simpa using this

def sixteen : List ByteArray := [⟨#[]⟩, ⟨#[49, 43]⟩, ⟨#[40, 49]⟩, ⟨#[49, 32, 50]⟩, ⟨#[48, 49]⟩, ⟨#[49, 48, 48, 48, 48, 48, 48]⟩, ⟨#[45, 32, 45, 49]⟩, ⟨#[33, 33, 120]⟩, ⟨#[49, 60, 50, 60, 51]⟩, ⟨#[49, 61, 61, 50]⟩, ⟨#[40, 40, 40, 40, 40, 40, 49, 41, 41, 41, 41, 41, 41]⟩, ⟨#[40, 40, 40, 40, 40, 40, 40, 49, 41, 41, 41, 41, 41, 41, 41]⟩, ⟨#[97, 38, 98, 124, 99, 38, 100]⟩, ⟨#[49, 32, 45, 32, 40, 50, 32, 45, 32, 51, 41]⟩, ⟨#[120, 32, 61]⟩, ⟨#[49, 43, 49, 43, 49, 43, 49, 43, 49, 43, 49, 43, 49, 43, 49, 43, 49, 43, 49, 43, 49, 43, 49, 43, 49, 43, 49]⟩]
theorem sixteen_size : ∀ y ∈ sixteen, y.size ≤ 100 := by decide
set_option maxHeartbeats 1600000 in
set_option maxRecDepth 100000 in
theorem DrawExprGet_any (a : Option Addr) (n cap : Nat) (bs : List Int) (w : World) (hc : n ≤ cap) (hn : n ≤ 1048576) (hz : IsBytes w.heap.size w a n bs) :
    Calls Tryz.prog 17 #[.slice a n cap] w fun e w' => ∃ s, e = .returned (.string s) ∧ s.size ≤ 100 ∧ Below w.heap.size w w' := by
  have HO := hidOf (l11Open_any a n cap bs w hc hn hz)
  clear hz
  go_enter Tryz.func17, Tryz.ntmps17
  go_wp2_with fail
  refine HO.out.mono ?_
  rintro e w1 ⟨a1, n1, c1, bs1, rfl, hr1, hb1, hs1⟩
  have HB1 : Hid (Below w.heap.size w w1) := hb1
  have HR1 : Hid (RdAt w1 w.heap.size a1 n1 c1 bs1 0) := hr1
  clear hr1 hb1 HO
  go_wp2_with fail
  refine (pick_any w.heap.size a1 n1 c1 bs1 0 8 _ (by omega) (by decide) HR1.out).mono ?_
  rintro e w2 ⟨q, rfl, q0, q1, d2, hw2⟩
  have HR2 : Hid (RdAt w2 w.heap.size a1 n1 c1 bs1 (0 + 1)) := by rw [hw2]; exact HR1.out.step d2
  have HM2 : Hid (Mv w.heap.size w1 w2) := by rw [hw2]; exact Mv.step _ _ _ _
  clear hw2 q1 HR1
  by_cases c0 : q = 0
  · subst c0
    go_wp2_with fail
    refine (of_new w2 w.heap.size a1 n1 c1 bs1 (0 + 1) sixteen 9 16 (by omega) HR2.out rfl (by decide) (by decide)).mono ?_
    rintro e w3 ⟨y, rfl, hy, _, hm3⟩
    have hs5 : y.size ≤ 100 := sixteen_size y hy
    have HB : Hid (Below w.heap.size w w3) := Mv.fresh HB1.out (HM2.out.trans hm3)
    clear hy hm3
    go_wp2_with fail
    go_ret
    exact ⟨y, rfl, hs5, HB.out⟩
  by_cases c1' : q = 1
  · subst c1'
    go_wp2_with fail
    refine (l11Expr_any 2 (by decide) w.heap.size a1 n1 c1 bs1 (0 + 1) w2 (by decide) HR2.out).mono ?_
    rintro e w3 ⟨s, k3, rfl, ⟨hs3, _⟩, hk3, hr3, hm3⟩
    have hs33 : s.size ≤ 33 := hs3
    have hk33 : k3 ≤ 1 + 10 := hk3
    have HR3 : Hid (RdAt w3 w.heap.size a1 n1 c1 bs1 k3) := hr3
    have HM3 : Hid (Mv w.heap.size w1 w3) := HM2.out.trans hm3
    clear hs3 hk3 hr3 hm3
    go_wp2_with fail
    refine (l11Bent_any w.heap.size a1 n1 c1 bs1 k3 s w3 (by omega) (by omega) HR3.out).mono ?_
    rintro e w4 ⟨s', k4, rfl, hs4, _, _, hm4⟩
    have HB : Hid (Below w.heap.size w w4) := Mv.fresh HB1.out (HM3.out.trans hm4)
    have hs5 : s'.size ≤ 100 := by omega
    clear hs4 hm4
    go_wp2_with fail
    go_ret
    exact ⟨s', rfl, hs5, HB.out⟩
  have e0 : (q == 0) = false := by simp [c0]
  have e1 : (q == 1) = false := by simp [c1']
  go_wp2_with fail
  refine (pick_any w.heap.size a1 n1 c1 bs1 (0 + 1) 4 _ (by omega) (by decide) HR2.out).mono ?_
  rintro e w3 ⟨v, rfl, v0, v1, d3, hw3⟩
  have v2 := v1 (by decide)
  have HR3 : Hid (RdAt w3 w.heap.size a1 n1 c1 bs1 (0 + 1 + 1)) := by rw [hw3]; exact HR2.out.step d3
  have HM3 : Hid (Mv w.heap.size w1 w3) := by rw [hw3]; exact HM2.out.trans (Mv.step _ _ _ _)
  clear hw3 v1
  obtain ⟨d, rfl⟩ : ∃ d : Nat, v = d := ⟨v.toNat, by omega⟩
  have hd3 : d ≤ 3 := by omega
  have hex := exS_le hd3
  have hek := exK_le hd3
  go_wp2_with fail
  refine (l11Expr_any d hd3 w.heap.size a1 n1 c1 bs1 (0 + 1 + 1) w3 (by omega) HR3.out).mono ?_
  rintro e w4 ⟨s, k4, rfl, ⟨hs4, _⟩, hk4, hr4, hm4⟩
  have HB : Hid (Below w.heap.size w w4) := Mv.fresh HB1.out (HM3.out.trans hm4)
  have hs5 : s.size ≤ 100 := by omega
  clear hs4 hr4 hm4
  go_wp2_with fail
  go_ret
  exact ⟨s, rfl, hs5, HB.out⟩
end Go.Proofs.YtcajjngjojegfaaGreatDoor
