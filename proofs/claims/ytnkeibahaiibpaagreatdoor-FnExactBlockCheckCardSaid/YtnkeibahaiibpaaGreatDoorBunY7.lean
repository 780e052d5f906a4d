/- Numbers of texts: the model's l1Num. -/
import Derived.Test.YtnkeibahaiibpaaGreatDoorParWord
import Derived.Test.YtnkeibahaiibpaaGreatDoorProg
import Derived.Test.YtnkeibahaiibpaaGreatDoorBunY0
import Derived.Test.YtnkeibahaiibpaaGreatDoorBunY3
import Derived.WalkKit
import Derived.ProofKit
import Derived.Handy
import Derived.PlainAid
import Derived.Test.YtnkeibahaiibpaaGreatDoorBunY6
namespace Go.Proofs.YtnkeibahaiibpaaGreatDoor
open Go.RowKit Go.PlainAid
set_option linter.unusedSimpArgs false
set_option linter.unusedVariables false

/-- the number that the first k figures are -/
def numTo (s : ByteArray) : Nat → Int
  | 0 => 0
  | k + 1 => numTo s k * 10 + (bt s k - 48)
def figTo (s : ByteArray) : Nat → Bool
  | 0 => true
  | k + 1 => figTo s k && figB (bt s k)
def numOk (s : ByteArray) : Bool := figTo s s.size && decide (1 ≤ s.size ∧ s.size ≤ 6 ∧ ¬ (1 < s.size ∧ bt s 0 = 48))
/-- the number that a text is; -1, if it is none -/
def numOf (s : ByteArray) : Int := if numOk s then numTo s s.size else -1

theorem figTo_le (s : ByteArray) {j k : Nat} (h : j ≤ k) (hk : figTo s k = true) : figTo s j = true := by
  induction k with
  | zero => have : j = 0 := by omega
            subst this; rfl
  | succ k ih =>
    by_cases e : j = k + 1
    · subst e; exact hk
    · simp [figTo] at hk; exact ih (by omega) hk.1
theorem figTo_no (s : ByteArray) {k n : Nat} (h : k < n) (hk : figB (bt s k) = false) : figTo s n = false := by
  cases e : figTo s n with
  | false => rfl
  | true => have := figTo_le s (j := k + 1) (by omega) e
            simp [figTo, hk] at this
theorem numTo_range (s : ByteArray) : ∀ k, figTo s k = true → 0 ≤ numTo s k ∧ numTo s k < 10 ^ k
  | 0, _ => by simp [numTo]
  | k + 1, h => by
    simp [figTo, figB] at h
    obtain ⟨h1, h2, h3⟩ := h
    have := numTo_range s k h1
    have e : (10 : Int) ^ (k + 1) = 10 ^ k * 10 := Int.pow_succ 10 k
    rw [numTo, e]
    generalize (10 : Int) ^ k = t at *
    omega
theorem pow10_le {k : Nat} (h : k ≤ 6) : (10 : Int) ^ k ≤ 1000000 := by
  have : k = 0 ∨ k = 1 ∨ k = 2 ∨ k = 3 ∨ k = 4 ∨ k = 5 ∨ k = 6 := by omega
  rcases this with rfl | rfl | rfl | rfl | rfl | rfl | rfl <;> decide
theorem numTo_le {s : ByteArray} {k : Nat} (h : figTo s k = true) (hk : k ≤ 6) : 0 ≤ numTo s k ∧ numTo s k < 1000000 := by
  have h1 := numTo_range s k h
  have h2 := pow10_le hk
  omega

set_option maxHeartbeats 1600000 in
set_option maxRecDepth 100000 in
theorem l1Num_any (s : ByteArray) (w : World) (hs : s.size ≤ 1048576) : Calls Tryz.prog 262 #[.string s] w fun e w' => e = .returned (.int .i64 (numOf s)) ∧ w' = w := by
  have hb := get_bt s
  obtain ⟨D, hD⟩ : ∃ D, numOf s = D := ⟨_, rfl⟩
  have HD : Hid (numOf s = D) := hD
  rw [hD]; clear hD
  go_enter Tryz.func262, Tryz.ntmps262
  go_wp2_with fail
  go_loop [3, 4] (fun vn i => ∃ k : Nat, k ≤ s.size ∧ k ≤ 6 ∧ i = .int .i64 k ∧ vn = .int .i64 (numTo s k) ∧ Hid (figTo s k = true)) (fun _ i => s.size - (intOf i).toNat)
  case atStart => exact ⟨0, Nat.zero_le _, by omega, rfl, rfl, rfl⟩
  case round =>
    obtain ⟨k, hk, hk6, rfl, rfl, hfig⟩ := hrel
    obtain ⟨n1, n2⟩ := numTo_le hfig.out hk6
    by_cases hlt : k < s.size
    · cases hf : figB (bt s k)
      · have HN : Hid (D = -1) := by
          show D = -1
          rw [← HD.out, numOf, numOk, figTo_no s hlt hf]; rfl
        go_wp2_with (go_at_call 181; refine (l1Figure_is hf _).mono ?_; rintro e w' ⟨rfl, rfl⟩)
        go_ret
        exact ⟨ret_int HN.out.symm, rfl⟩
      · by_cases h6 : 6 ≤ k
        · have HN : Hid (D = -1) := by
            show D = -1
            rw [← HD.out, numOf, numOk, decide_eq_false (by omega)]; simp
          go_wp2_with (go_at_call 181; refine (l1Figure_is hf _).mono ?_; rintro e w' ⟨rfl, rfl⟩)
          go_ret
          exact ⟨ret_int HN.out.symm, rfl⟩
        · have hf2 := hf
          simp [figB] at hf2
          obtain ⟨f1, f2⟩ := hf2
          have HF : Hid (figTo s (k + 1) = true) := by
            show figTo s (k + 1) = true
            rw [figTo, hfig.out, hf]; rfl
          have HN : Hid (numTo s (k + 1) = numTo s k * 10 + (bt s k - 48)) := rfl
          generalize numTo s k = nn at *
          go_wp2_with (go_at_call 181; refine (l1Figure_is hf _).mono ?_; rintro e w' ⟨rfl, rfl⟩)
          go_round
          case rel => exact ⟨k + 1, by omega, by omega, by go_num, by rw [HN.out], HF.out⟩
          case measure => simp [intOf]; omega
    · have : k = s.size := by omega
      by_cases h0 : s.size = 0
      · have h0' : ((s.size : Int) == 0) = true := by simp [h0]
        have HN : Hid (D = -1) := by
          show D = -1
          rw [← HD.out, numOf, numOk, decide_eq_false (by omega)]; simp
        clear h0
        go_wp2_with fail
        go_ret
        exact ⟨ret_int HN.out.symm, rfl⟩
      have h0' : ((s.size : Int) == 0) = false := by simp [h0]
      by_cases h1 : 1 < s.size
      · by_cases h48 : bt s 0 = 48
        · have h48' : (bt s 0 == 48) = true := by simp [h48]
          have HN : Hid (D = -1) := by
            show D = -1
            rw [← HD.out, numOf, numOk, decide_eq_false (fun h => h.2.2 ⟨h1, h48⟩)]; simp
          clear h48
          go_wp2_with fail
          go_ret
          exact ⟨ret_int HN.out.symm, rfl⟩
        · have h48' : (bt s 0 == 48) = false := by simp [h48]
          have HN : Hid (D = numTo s s.size) := by
            show D = _
            rw [← HD.out, numOf, numOk, ← this, hfig.out, decide_eq_true (by rw [this]; exact ⟨by omega, by omega, fun h => h48 h.2⟩)]; rfl
          clear h48
          go_wp2_with fail
          go_ret
          exact ⟨ret_int HN.out.symm, rfl⟩
      · have HN : Hid (D = numTo s s.size) := by
          show D = _
          rw [← HD.out, numOf, numOk, ← this, hfig.out, decide_eq_true (by rw [this]; exact ⟨by omega, by omega, fun h => h1 h.1⟩)]; rfl
        go_wp2_with fail
        go_ret
        exact ⟨ret_int HN.out.symm, rfl⟩
end Go.Proofs.YtnkeibahaiibpaaGreatDoor

/- The reader's sign: which sign of a level stands next. -/
namespace Go.Proofs.YtnkeibahaiibpaaGreatDoor
open Go.RowKit Go.PlainAid
set_option linter.unusedSimpArgs false
set_option linter.unusedVariables false

/-- how tightly a sign binds -/
def lvl (k : Int) : Int := if k = 5 ∨ k = 6 ∨ k = 7 then 5 else if k = 8 ∨ k = 9 then 4 else if k = 10 ∨ k = 11 then 3 else if k = 12 then 2 else 1
theorem l1Level_any (k : Int) (w : World) : Calls Tryz.prog 245 #[.int .i64 k] w fun e w' => e = .returned (.int .i64 (lvl k)) ∧ w' = w := by
  by_cases h5 : k = 5
  · subst h5
    go_enter Tryz.func245, Tryz.ntmps245
    go_wp2
    go_ret
    exact ⟨rfl, rfl⟩
  have e5 : (k == 5) = false := by simp [h5]
  by_cases h6 : k = 6
  · subst h6
    go_enter Tryz.func245, Tryz.ntmps245
    go_wp2
    go_ret
    exact ⟨rfl, rfl⟩
  have e6 : (k == 6) = false := by simp [h6]
  by_cases h7 : k = 7
  · subst h7
    go_enter Tryz.func245, Tryz.ntmps245
    go_wp2
    go_ret
    exact ⟨rfl, rfl⟩
  have e7 : (k == 7) = false := by simp [h7]
  by_cases h8 : k = 8
  · subst h8
    go_enter Tryz.func245, Tryz.ntmps245
    go_wp2
    go_ret
    exact ⟨rfl, rfl⟩
  have e8 : (k == 8) = false := by simp [h8]
  by_cases h9 : k = 9
  · subst h9
    go_enter Tryz.func245, Tryz.ntmps245
    go_wp2
    go_ret
    exact ⟨rfl, rfl⟩
  have e9 : (k == 9) = false := by simp [h9]
  by_cases h10 : k = 10
  · subst h10
    go_enter Tryz.func245, Tryz.ntmps245
    go_wp2
    go_ret
    exact ⟨rfl, rfl⟩
  have e10 : (k == 10) = false := by simp [h10]
  by_cases h11 : k = 11
  · subst h11
    go_enter Tryz.func245, Tryz.ntmps245
    go_wp2
    go_ret
    exact ⟨rfl, rfl⟩
  have e11 : (k == 11) = false := by simp [h11]
  by_cases h12 : k = 12
  · subst h12
    go_enter Tryz.func245, Tryz.ntmps245
    go_wp2
    go_ret
    exact ⟨rfl, rfl⟩
  have e12 : (k == 12) = false := by simp [h12]
  have HN : Hid (lvl k = 1) := by
    show lvl k = 1
    simp [lvl, h5, h6, h7, h8, h9, h10, h11, h12]
  go_enter Tryz.func245, Tryz.ntmps245
  go_wp2
  go_ret
  exact ⟨ret_int HN.out.symm, rfl⟩

/-- how a sign is written -/
def sg (k : Nat) : ByteArray :=
  if k = 5 then ⟨#[42]⟩ else if k = 6 then ⟨#[47]⟩ else if k = 7 then ⟨#[37]⟩ else if k = 8 then ⟨#[43]⟩ else if k = 9 then ⟨#[45]⟩
  else if k = 10 then ⟨#[60]⟩ else if k = 11 then ⟨#[61, 61]⟩ else if k = 12 then ⟨#[38]⟩ else if k = 13 then ⟨#[124]⟩ else ⟨#[]⟩
theorem l1Signs_any (w : World) : Calls Tryz.prog 246 #[] w fun e w' => e = .returned (.slice (some ⟨w.heap.size, 0, none⟩) 14 14) ∧ Below w.heap.size w w' ∧ w.heap.size < w'.heap.size ∧
    ∀ k, k < 14 → w'.cell? ⟨w.heap.size, k, none⟩ = some (.string (sg k)) := by
  go_enter Tryz.func246, Tryz.ntmps246
  go_wp2
  go_ret
  refine ⟨rfl, (Below.refl _ _).alloc (Nat.le_refl _) _, by simp, fun k hk => ?_⟩
  have : k = 0 ∨ k = 1 ∨ k = 2 ∨ k = 3 ∨ k = 4 ∨ k = 5 ∨ k = 6 ∨ k = 7 ∨ k = 8 ∨ k = 9 ∨ k = 10 ∨ k = 11 ∨ k = 12 ∨ k = 13 := by omega
  rcases this with rfl | rfl | rfl | rfl | rfl | rfl | rfl | rfl | rfl | rfl | rfl | rfl | rfl | rfl <;> simp [sg]

theorem ParAt.old {p : Nat} {w w' : World} {s : ByteArray} {st : Par} {v : Value} (h : ParAt p w s st v) (hb : Below w.heap.size w w') : ParAt p w' s st v := by
  have hlt := h.lt
  exact ⟨(hb.cell hlt).trans h.c0, (hb.cell hlt).trans h.c1, (hb.cell hlt).trans h.c2, (hb.cell hlt).trans h.c3, (hb.cell hlt).trans h.c4, fun j => (hb.frozen hlt).trans (h.open_ j),
    h.own.kept (row := none) ⟨hb.os, hb.tape, hb.output, hb.size, fun k hk _ => hb.block k hk⟩ (by cases v.ownBlock <;> simp)⟩
theorem touch_old {p : Nat} {v : Value} {w w' : World} (hb : Below w.heap.size w w') : Touch p v w w' v := ⟨hb.os, hb.tape, hb.output, hb.size, fun k hk _ _ => hb.block k hk, .inl rfl⟩

theorem skipF_skip (s : ByteArray) (f : Nat) : ∀ a, s.size - a ≤ f → ¬ (skipF s f a < s.size ∧ bt s (skipF s f a) = 32) := by
  induction f with
  | zero => intro a h; simp only [skipF]; omega
  | succ f ih =>
    intro a h
    unfold skipF
    split
    · exact ih (a + 1) (by omega)
    · assumption
theorem skipTo_idem (s : ByteArray) (a : Nat) : skipTo s (skipTo s a) = skipTo s a := skipTo_stop (skipF_skip s _ a (Nat.le_refl _))

/-- whether kind j is a sign of a level that stands at place k -/
def isSign (s : ByteArray) (k : Nat) (level : Int) (j : Nat) : Bool := (lvl j == level) && hasAt s k (sg j)
/-- the kind of the sign of a level that stands at place k; 0, if there is none -/
def findSign (s : ByteArray) (k : Nat) (level : Int) : Nat := ((List.range' 5 9).find? (isSign s k level)).getD 0
theorem findSign_yes {s : ByteArray} {k : Nat} {level : Int} {j : Nat} (h : 5 ≤ j ∧ j ≤ 13) (hj : isSign s k level j = true) (hn : ∀ i, 5 ≤ i → i < j → isSign s k level i = false) : findSign s k level = j := by
  unfold findSign
  have : (List.range' 5 9).find? (isSign s k level) = some j := by
    rw [List.find?_range'_eq_some]
    exact ⟨hj, by simp; omega, fun i h1 h2 => by simp [hn i h1 h2]⟩
  rw [this]; rfl
theorem findSign_no {s : ByteArray} {k : Nat} {level : Int} (hn : ∀ i, 5 ≤ i → i < 14 → isSign s k level i = false) : findSign s k level = 0 := by
  unfold findSign
  have : (List.range' 5 9).find? (isSign s k level) = none := by
    rw [List.find?_eq_none]
    intro i hi
    simp at hi
    simp [hn i (by omega) (by omega)]
  rw [this]; rfl
/-- the place behind that sign -/
def signAt (s : ByteArray) (k : Nat) (level : Int) : Nat := k + (sg (findSign s k level)).size
theorem sg_size (k : Nat) : (sg k).size ≤ 2 := by
  unfold sg
  repeat' split
  all_goals decide

set_option maxHeartbeats 1600000 in
set_option maxRecDepth 100000 in
theorem sign_any (p : Nat) (s : ByteArray) (st : Par) (v : Value) (level : Int) (w : World) (hlev : 1 ≤ level ∧ level ≤ 5) (hs : s.size ≤ 1048576) (ha : st.at_ ≤ s.size) (h : ParAt p w s st v) :
    Calls Tryz.prog 227 #[.pointer (some ⟨p, 0, none⟩), .int .i64 level] w fun e w' => e = .returned (.int .i64 (findSign s (skipTo s st.at_) level)) ∧
      ParAt p w' s { st with at_ := signAt s (skipTo s st.at_) level } v ∧ Touch p v w w' v := by
  have HP : Hid (ParAt p w s st v) := h
  have hle := skipTo_le ha
  obtain ⟨K, hK⟩ : ∃ K, skipTo s st.at_ = K := ⟨_, rfl⟩
  have HK : Hid (skipTo s st.at_ = K) := hK
  rw [hK] at hle ⊢
  clear h hK
  go_enter Tryz.func227, Tryz.ntmps227
  go_wp2_with fail
  go_loopw [5] (fun i wr => ∃ (j : Nat) (a : Nat), 5 ≤ j ∧ j ≤ 14 ∧ i = .int .i64 j ∧ Hid (∀ i, 5 ≤ i → i < j → isSign s K level i = false) ∧ a ≤ s.size ∧ Hid (skipTo s a = K) ∧ Hid (∀ i, 5 ≤ i → i < j → lvl (i : Nat) = level → a = K) ∧
      Hid (ParAt p wr s { st with at_ := a } v) ∧ Touch p v w wr v) (fun i _ => 14 - (intOf i).toNat)
  case atStart => exact ⟨5, st.at_, by omega, by omega, rfl, fun i _ _ => by omega, ha, HK.out, fun i _ _ => by omega, HP.out, Touch.refl _ _ _⟩
  case round =>
    obtain ⟨j, a, hj5, hj14, rfl, hno, haz, hsk, htr, hpar, ht⟩ := hrel
    by_cases hlt : j ≤ 13
    · by_cases hlv : lvl j = level
      · have hlv' : (lvl (j : Int) == level) = true := by simp [hlv]
        have hg := sg_size j
        have hjI : (j : Int) < 14 := by omega
        cases hh : hasAt s K (sg j)
        · have HN : Hid (∀ i, 5 ≤ i → i < j + 1 → isSign s K level i = false) := fun i h1 h2 => by
            by_cases e : i = j
            · subst e; unfold isSign; rw [hh]; simp
            · exact hno.out i h1 (by omega)
          have HH : Hid (hasAt s K (sg j) = false) := hh
          clear hlv hh
          go_wp2_with (go_at_call 245; refine (l1Level_any _ _).mono ?_; rintro e w' ⟨rfl, hw'⟩; rw [hw']; clear hw' w')
          refine (l1Signs_any _).mono ?_
          rintro e w1 ⟨rfl, hb1, hz1, hc1⟩
          have cj := hc1 j (by omega)
          clear hc1
          go_wp2_with fail
          refine (take_any p s (sg j) { st with at_ := a } v _ hs (by omega) haz (hpar.out.old hb1)).mono ?_
          simp only
          rw [hsk.out, HH.out]
          rintro e w2 ⟨rfl, hp2, ht2⟩
          have HP2 : Hid (ParAt p w2 s { st with at_ := K } v) := by
            show ParAt _ _ _ _ _
            unfold takeAt at hp2; rw [HH.out] at hp2; exact hp2
          clear hp2
          go_wp2_with fail
          go_roundw
          case rel => exact ⟨j + 1, K, by omega, by omega, by go_num, HN.out, hle.2, by show skipTo s K = K; rw [← HK.out]; exact skipTo_idem _ _, fun _ _ _ _ => rfl, HP2.out, (ht.trans (touch_old hb1)).trans ht2⟩
          case measure => simp [intOf]; omega
        · have HN : Hid (findSign s K level = j) := findSign_yes ⟨hj5, hlt⟩ (by unfold isSign; rw [hh, hlv']; rfl) hno.out
          have HH : Hid (hasAt s K (sg j) = true) := hh
          clear hlv hh
          go_wp2_with (go_at_call 245; refine (l1Level_any _ _).mono ?_; rintro e w' ⟨rfl, hw'⟩; rw [hw']; clear hw' w')
          refine (l1Signs_any _).mono ?_
          rintro e w1 ⟨rfl, hb1, hz1, hc1⟩
          have cj := hc1 j (by omega)
          clear hc1
          go_wp2_with fail
          refine (take_any p s (sg j) { st with at_ := a } v _ hs (by omega) haz (hpar.out.old hb1)).mono ?_
          simp only
          rw [hsk.out, HH.out]
          rintro e w2 ⟨rfl, hp2, ht2⟩
          have HP2 : Hid (ParAt p w2 s { st with at_ := signAt s K level } v) := by
            show ParAt _ _ _ _ _
            unfold takeAt at hp2; rw [HH.out] at hp2
            unfold signAt; rw [HN.out]; exact hp2
          clear hp2
          go_wp2_with fail
          go_ret
          exact ⟨ret_int (by rw [HN.out]), HP2.out, (ht.trans (touch_old hb1)).trans ht2⟩
      · have hlv' : (lvl (j : Int) == level) = false := by simp [hlv]
        have HN : Hid (∀ i, 5 ≤ i → i < j + 1 → isSign s K level i = false) := fun i h1 h2 => by
          by_cases e : i = j
          · subst e; unfold isSign; rw [hlv']; rfl
          · exact hno.out i h1 (by omega)
        have HT : Hid (∀ i, 5 ≤ i → i < j + 1 → lvl (i : Nat) = level → a = K) := fun i h1 h2 h3 => by
          by_cases e : i = j
          · subst e; exact absurd h3 hlv
          · exact htr.out i h1 (by omega) h3
        clear hlv
        go_wp2_with (go_at_call 245; refine (l1Level_any _ _).mono ?_; rintro e w' ⟨rfl, hw'⟩; rw [hw']; clear hw' w')
        go_roundw
        case rel => exact ⟨j + 1, a, by omega, by omega, by go_num, HN.out, haz, hsk.out, HT.out, hpar.out, ht⟩
        case measure => simp [intOf]; omega
    · have : j = 14 := by omega
      subst this
      have HN : Hid (findSign s K level = 0) := findSign_no hno.out
      have HA : Hid (a = K) := by
        show a = K
        have h1 : level = 1 ∨ level = 2 ∨ level = 3 ∨ level = 4 ∨ level = 5 := by omega
        rcases h1 with rfl | rfl | rfl | rfl | rfl
        · exact htr.out 13 (by omega) (by omega) (by decide)
        · exact htr.out 12 (by omega) (by omega) (by decide)
        · exact htr.out 10 (by omega) (by omega) (by decide)
        · exact htr.out 8 (by omega) (by omega) (by decide)
        · exact htr.out 5 (by omega) (by omega) (by decide)
      have HP2 : Hid (ParAt p wr s { st with at_ := signAt s K level } v) := by
        show ParAt _ _ _ _ _
        have h1 := hpar.out
        rw [HA.out] at h1
        unfold signAt; rw [HN.out]; exact h1
      go_wp2_with fail
      go_ret
      exact ⟨ret_int (by rw [HN.out]; rfl), HP2.out, ht⟩
end Go.Proofs.YtnkeibahaiibpaaGreatDoor

/- The model's reader as a function: plain. -/
namespace Go.Proofs.YtnkeibahaiibpaaGreatDoor
open Go.PlainAid
set_option linter.unusedSimpArgs false
set_option linter.unusedVariables false

def lpar : ByteArray := ⟨#[40]⟩
def rpar : ByteArray := ⟨#[41]⟩
def minus : ByteArray := ⟨#[45]⟩
def bang : ByteArray := ⟨#[33]⟩
def noName : ByteArray := ⟨#[]⟩

/-- signs ahead: their kinds, and the place of what follows -/
def aheadF (s : ByteArray) : Nat → Nat → List Int × Nat
  | 0, a => ([], a)
  | f + 1, a => if bt s (skipTo s a) = 45 then (3 :: (aheadF s f (skipTo s a + 1)).1, (aheadF s f (skipTo s a + 1)).2)
    else if bt s (skipTo s a) = 33 then (4 :: (aheadF s f (skipTo s a + 1)).1, (aheadF s f (skipTo s a + 1)).2) else ([], skipTo s a)
def aheadTo (s : ByteArray) (a : Nat) : List Int × Nat := aheadF s (s.size - a + 1) a

/-- nodes of signs ahead, the last first, as long as nothing is bad -/
def putAll : List Int → Par → Par
  | [], st => st
  | k :: r, st => if st.bad then st else putAll r (putNd st (k, 0, noName))

def primM (rec : Int → Par → Par) (s : ByteArray) (st : Par) : Par :=
  if hasAt s (skipTo s st.at_) lpar then
    if 6 < st.deep + 1 then { st with at_ := skipTo s st.at_ + 1, deep := st.deep + 1, bad := true }
    else
      let st3 := rec 1 { st with at_ := skipTo s st.at_ + 1, deep := st.deep + 1 }
      { st3 with at_ := takeAt s (skipTo s st3.at_) rpar, deep := st3.deep - 1, bad := st3.bad || !hasAt s (skipTo s st3.at_) rpar }
  else
    let w := s.extract (skipTo s st.at_) (wordTo s (skipTo s st.at_))
    if figB (bt s (skipTo s st.at_)) then putNd { st with at_ := wordTo s (skipTo s st.at_), bad := st.bad || decide (numOf w < 0) } (1, numOf w, noName)
    else putNd { st with at_ := wordTo s (skipTo s st.at_), bad := st.bad || !nmB w } (2, 0, w)
def unaryM (rec : Int → Par → Par) (s : ByteArray) (st : Par) : Par :=
  putAll (aheadTo s st.at_).1.reverse (primM rec s { st with at_ := (aheadTo s st.at_).2 })
def loopS (rec : Int → Par → Par) (s : ByteArray) (level : Int) : Nat → Par → Par
  | 0, st => st
  | n + 1, st => if st.bad then st else if findSign s (skipTo s st.at_) level = 0 then { st with at_ := signAt s (skipTo s st.at_) level }
    else loopS rec s level n (putNd (rec (level + 1) { st with at_ := signAt s (skipTo s st.at_) level }) (findSign s (skipTo s st.at_) level, 0, noName))
def sumF (s : ByteArray) : Nat → Int → Par → Par
  | 0, _, st => st
  | f + 1, level, st => if 5 < level then unaryM (sumF s f) s st else loopS (sumF s f) s level (s.size + 1) (sumF s f (level + 1) st)

/-- what reading leaves can only go on -/
structure Adv (s : ByteArray) (st st' : Par) : Prop where
  lo : st.at_ ≤ st'.at_
  hi : st.at_ ≤ s.size → st'.at_ ≤ s.size
  dlo : st.deep ≤ st'.deep
  dhi : st'.deep + st.at_ ≤ st.deep + st'.at_
  len : st.out.length ≤ 24 → st'.out.length ≤ 24
theorem Adv.refl (s : ByteArray) (st : Par) : Adv s st st := ⟨Nat.le_refl _, id, Nat.le_refl _, Nat.le_refl _, id⟩
theorem Adv.trans {s : ByteArray} {a b c : Par} (h : Adv s a b) (k : Adv s b c) : Adv s a c :=
  ⟨Nat.le_trans h.lo k.lo, fun x => k.hi (h.hi x), Nat.le_trans h.dlo k.dlo, by have := h.dhi; have := k.dhi; omega, fun x => k.len (h.len x)⟩
theorem adv_put (s : ByteArray) (st : Par) (x : Nd) : Adv s st (putNd st x) := by
  unfold putNd
  split
  · exact ⟨Nat.le_refl _, id, Nat.le_refl _, Nat.le_refl _, id⟩
  · refine ⟨Nat.le_refl _, id, Nat.le_refl _, Nat.le_refl _, fun _ => ?_⟩
    simp; omega
theorem adv_putAll (s : ByteArray) (l : List Int) : ∀ st, Adv s st (putAll l st) := by
  induction l with
  | nil => exact Adv.refl s
  | cons k r ih =>
    intro st
    unfold putAll
    split
    · exact Adv.refl s st
    · exact (adv_put s st _).trans (ih _)
theorem bt_lt {s : ByteArray} {k : Nat} {c : Int} (h : bt s k = c) (hc : c ≠ 0) : k < s.size := by
  rcases Nat.lt_or_ge k s.size with h1 | h1
  · exact h1
  · exact absurd (h.symm.trans (bt_end s h1)) hc
theorem skipF_ge (s : ByteArray) (f : Nat) : ∀ a, s.size ≤ a → skipF s f a = a := by
  induction f with
  | zero => intro a _; rfl
  | succ f ih => intro a h; unfold skipF; rw [if_neg (by omega)]
theorem skipTo_mono (s : ByteArray) (a : Nat) : a ≤ skipTo s a := (skipF_le s _ a).1
theorem adv_at (s : ByteArray) (st : Par) (a : Nat) (h1 : st.at_ ≤ a) (h2 : st.at_ ≤ s.size → a ≤ s.size) : Adv s st { st with at_ := a } :=
  ⟨h1, h2, Nat.le_refl _, by simp only; omega, id⟩
theorem aheadF_le (s : ByteArray) (f : Nat) : ∀ a, a ≤ (aheadF s f a).2 ∧ (a ≤ s.size → (aheadF s f a).2 ≤ s.size) := by
  induction f with
  | zero => intro a; exact ⟨Nat.le_refl _, id⟩
  | succ f ih =>
    intro a
    have h1 := skipTo_mono s a
    unfold aheadF
    split
    · rename_i hb
      have h2 := bt_lt hb (by decide)
      have := ih (skipTo s a + 1)
      simp only
      exact ⟨by omega, fun _ => this.2 (by omega)⟩
    · split
      · rename_i hb
        have h2 := bt_lt hb (by decide)
        have := ih (skipTo s a + 1)
        simp only
        exact ⟨by omega, fun _ => this.2 (by omega)⟩
      · exact ⟨h1, fun h => (skipTo_le h).2⟩
theorem hasAt_lt {s : ByteArray} {k : Nat} {g : ByteArray} (h : hasAt s k g = true) : k + g.size ≤ s.size := by
  unfold hasAt at h; simp at h; exact h.1
theorem takeAt_le {s : ByteArray} {k : Nat} {g : ByteArray} (h : k ≤ s.size) : k ≤ takeAt s k g ∧ takeAt s k g ≤ s.size := by
  unfold takeAt
  split
  · rename_i h1; have := hasAt_lt h1; omega
  · omega
theorem takeAt_mono (s : ByteArray) (k : Nat) (g : ByteArray) : k ≤ takeAt s k g := by
  unfold takeAt; split <;> omega
theorem adv_prim {s : ByteArray} {rec : Int → Par → Par} (hrec : ∀ l st, Adv s st (rec l st)) (st : Par) : Adv s st (primM rec s st) := by
  have h1 := skipTo_mono s st.at_
  unfold primM
  split
  · rename_i hh
    have h2 := hasAt_lt hh
    have e : lpar.size = 1 := rfl
    split
    · exact ⟨by simp only; omega, fun _ => by simp only; omega, by simp only; omega, by simp only; omega, id⟩
    · have h3 := hrec 1 { st with at_ := skipTo s st.at_ + 1, deep := st.deep + 1 }
      generalize rec 1 { st with at_ := skipTo s st.at_ + 1, deep := st.deep + 1 } = st3 at *
      obtain ⟨a1, a2, a3, a4, a5⟩ := h3
      simp only at a1 a2 a3 a4 a5
      have h4 := skipTo_mono s st3.at_
      have h5 := takeAt_mono s (skipTo s st3.at_) rpar
      refine ⟨by simp only; omega, fun h => ?_, by simp only; omega, by simp only; omega, a5⟩
      simp only
      have := a2 (by omega)
      exact (takeAt_le (skipTo_le this).2).2
  · have h2 := (wordF_le s (s.size - skipTo s st.at_) (skipTo s st.at_)).1
    have h3 : ∀ b, Adv s st { st with at_ := wordTo s (skipTo s st.at_), bad := b } := fun b =>
      ⟨by simp only; unfold wordTo; omega, fun h => by simp only; exact (wordTo_le (skipTo_le h).2).2, Nat.le_refl _, by simp only; unfold wordTo; omega, id⟩
    simp only
    split
    · exact (h3 _).trans (adv_put s _ _)
    · exact (h3 _).trans (adv_put s _ _)
theorem adv_unary {s : ByteArray} {rec : Int → Par → Par} (hrec : ∀ l st, Adv s st (rec l st)) (st : Par) : Adv s st (unaryM rec s st) := by
  unfold unaryM
  have h1 := aheadF_le s (s.size - st.at_ + 1) st.at_
  exact ((adv_at s st _ h1.1 h1.2).trans (adv_prim hrec _)).trans (adv_putAll s _ _)
theorem findSign_lt {s : ByteArray} {k : Nat} {level : Int} (h : findSign s k level ≠ 0) : k + (sg (findSign s k level)).size ≤ s.size ∧ 1 ≤ (sg (findSign s k level)).size ∧ 5 ≤ findSign s k level ∧ findSign s k level ≤ 13 := by
  unfold findSign at *
  cases hf : (List.range' 5 9).find? (isSign s k level) with
  | none => rw [hf] at h; simp at h
  | some j =>
    have h1 := List.find?_some hf
    have h2 := List.mem_of_find?_eq_some hf
    simp at h2
    simp only [Option.getD_some]
    unfold isSign at h1
    simp at h1
    refine ⟨hasAt_lt h1.2, ?_, by omega, by omega⟩
    have : j = 5 ∨ j = 6 ∨ j = 7 ∨ j = 8 ∨ j = 9 ∨ j = 10 ∨ j = 11 ∨ j = 12 ∨ j = 13 := by omega
    rcases this with rfl | rfl | rfl | rfl | rfl | rfl | rfl | rfl | rfl <;> decide
theorem signAt_le (s : ByteArray) (a : Nat) (level : Int) : a ≤ signAt s (skipTo s a) level ∧ (a ≤ s.size → signAt s (skipTo s a) level ≤ s.size) := by
  have h1 := skipTo_mono s a
  unfold signAt
  by_cases h : findSign s (skipTo s a) level = 0
  · rw [h]
    have e : (sg 0).size = 0 := by decide
    exact ⟨by omega, fun h => by have := (skipTo_le h).2; omega⟩
  · have := findSign_lt h
    exact ⟨by omega, fun _ => this.1⟩
theorem adv_loop {s : ByteArray} {rec : Int → Par → Par} (hrec : ∀ l st, Adv s st (rec l st)) (level : Int) (n : Nat) : ∀ st, Adv s st (loopS rec s level n st) := by
  induction n with
  | zero => exact Adv.refl s
  | succ n ih =>
    intro st
    have h1 := signAt_le s st.at_ level
    unfold loopS
    split
    · exact Adv.refl s st
    · split
      · exact adv_at s st _ h1.1 h1.2
      · exact (((adv_at s st _ h1.1 h1.2).trans (hrec _ _)).trans (adv_put s _ _)).trans (ih _)
theorem adv_sum (s : ByteArray) (f : Nat) : ∀ level st, Adv s st (sumF s f level st) := by
  induction f with
  | zero => exact fun _ => Adv.refl s
  | succ f ih =>
    intro level st
    unfold sumF
    split
    · exact adv_unary ih st
    · exact (ih _ _).trans (adv_loop ih level _ _)
end Go.Proofs.YtnkeibahaiibpaaGreatDoor

/- Numbers in memory. -/
namespace Go.Proofs.YtnkeibahaiibpaaGreatDoor
open Go Go.RowKit Go.PlainAid
set_option linter.unusedSimpArgs false
set_option linter.unusedVariables false

/-- the slice (a, n), below block B, reads in w as these numbers -/
def IsInts (B : Nat) (w : World) (a : Option Addr) (n : Nat) (vs : List Int) : Prop :=
  vs.length = n ∧ (n = 0 ∨ ∃ b off, a = some ⟨b, off, none⟩ ∧ b < B ∧ ∀ i, i < n → w.cell? ⟨b, off + i, none⟩ = some (.int .i64 (vs.getD i 0)))
theorem IsInts.below {B : Nat} {w w' : World} {a : Option Addr} {n : Nat} {vs : List Int} (h : IsInts B w a n vs) (hb : Below B w w') : IsInts B w' a n vs := by
  obtain ⟨h1, h2⟩ := h
  refine ⟨h1, ?_⟩
  rcases h2 with h2 | ⟨b, off, rfl, hlt, hc⟩
  · exact .inl h2
  · exact .inr ⟨b, off, rfl, hlt, fun i hi => (hb.cell hlt).trans (hc i hi)⟩
theorem IsInts.mono {B B' : Nat} {w : World} {a : Option Addr} {n : Nat} {vs : List Int} (h : IsInts B w a n vs) (hb : B ≤ B') : IsInts B' w a n vs := by
  obtain ⟨h1, h2⟩ := h
  refine ⟨h1, ?_⟩
  rcases h2 with h2 | ⟨b, off, rfl, hlt, hc⟩
  · exact .inl h2
  · exact .inr ⟨b, off, rfl, by omega, hc⟩

theorem infoInt : (Tryz.prog.info? 3).map (fun i => (i.zero, i.size, i.bytes)) = some (some (.int .i64 0), 1, 8) := by kernel_rfl
def intCell (vs : List Int) (j : Nat) : Value := .int .i64 (vs.getD j 0)
end Go.Proofs.YtnkeibahaiibpaaGreatDoor

/- A new box. -/
namespace Go.Proofs.YtnkeibahaiibpaaGreatDoor
open Go Go.RowKit Go.PlainAid
set_option linter.unusedSimpArgs false

theorem boxAt_new (w : World) (vals : List Value) (t : TypeId) : BoxAt w.heap.size vals (w.alloc (.cells vals.toArray t)) :=
  ⟨by simp, fun j u hu => ⟨by simp [hu], by simp⟩⟩
end Go.Proofs.YtnkeibahaiibpaaGreatDoor
