/- The reader's sign: which sign of a level stands next. -/
import Derived.Test.YtcajjngjojegfaaGreatDoorParNum
namespace Go.Proofs.YtcajjngjojegfaaGreatDoor
open Go.RowKit Go.PlainAid
set_option linter.unusedSimpArgs false
set_option linter.unusedVariables false

/-- how tightly a sign binds -/
def lvl (k : Int) : Int := if k = 5 ∨ k = 6 ∨ k = 7 then 5 else if k = 8 ∨ k = 9 then 4 else if k = 10 ∨ k = 11 then 3 else if k = 12 then 2 else 1
theorem l1Level_any (k : Int) (w : World) : Calls Tryz.prog 99 #[.int .i64 k] w fun e w' => e = .returned (.int .i64 (lvl k)) ∧ w' = w := by
  by_cases h5 : k = 5
  · subst h5
    go_enter Tryz.func99, Tryz.ntmps99
    go_wp2
    go_ret
    exact ⟨rfl, rfl⟩
  have e5 : (k == 5) = false := by simp [h5]
  by_cases h6 : k = 6
  · subst h6
    go_enter Tryz.func99, Tryz.ntmps99
    go_wp2
    go_ret
    exact ⟨rfl, rfl⟩
  have e6 : (k == 6) = false := by simp [h6]
  by_cases h7 : k = 7
  · subst h7
    go_enter Tryz.func99, Tryz.ntmps99
    go_wp2
    go_ret
    exact ⟨rfl, rfl⟩
  have e7 : (k == 7) = false := by simp [h7]
  by_cases h8 : k = 8
  · subst h8
    go_enter Tryz.func99, Tryz.ntmps99
    go_wp2
    go_ret
    exact ⟨rfl, rfl⟩
  have e8 : (k == 8) = false := by simp [h8]
  by_cases h9 : k = 9
  · subst h9
    go_enter Tryz.func99, Tryz.ntmps99
    go_wp2
    go_ret
    exact ⟨rfl, rfl⟩
  have e9 : (k == 9) = false := by simp [h9]
  by_cases h10 : k = 10
  · subst h10
    go_enter Tryz.func99, Tryz.ntmps99
    go_wp2
    go_ret
    exact ⟨rfl, rfl⟩
  have e10 : (k == 10) = false := by simp [h10]
  by_cases h11 : k = 11
  · subst h11
    go_enter Tryz.func99, Tryz.ntmps99
    go_wp2
    go_ret
    exact ⟨rfl, rfl⟩
  have e11 : (k == 11) = false := by simp [h11]
  by_cases h12 : k = 12
  · subst h12
    go_enter Tryz.func99, Tryz.ntmps99
    go_wp2
    go_ret
    exact ⟨rfl, rfl⟩
  have e12 : (k == 12) = false := by simp [h12]
  have HN : Hid (lvl k = 1) := by
    show lvl k = 1
    simp [lvl, h5, h6, h7, h8, h9, h10, h11, h12]
  go_enter Tryz.func99, Tryz.ntmps99
  go_wp2
  go_ret
  exact ⟨ret_int HN.out.symm, rfl⟩

/-- how a sign is written -/
def sg (k : Nat) : ByteArray :=
  if k = 5 then ⟨#[42]⟩ else if k = 6 then ⟨#[47]⟩ else if k = 7 then ⟨#[37]⟩ else if k = 8 then ⟨#[43]⟩ else if k = 9 then ⟨#[45]⟩
  else if k = 10 then ⟨#[60]⟩ else if k = 11 then ⟨#[61, 61]⟩ else if k = 12 then ⟨#[38]⟩ else if k = 13 then ⟨#[124]⟩ else ⟨#[]⟩
theorem l1Signs_any (w : World) : Calls Tryz.prog 100 #[] w fun e w' => e = .returned (.slice (some ⟨w.heap.size, 0, none⟩) 14 14) ∧ Below w.heap.size w w' ∧ w.heap.size < w'.heap.size ∧
    ∀ k, k < 14 → w'.cell? ⟨w.heap.size, k, none⟩ = some (.string (sg k)) := by
  go_enter Tryz.func100, Tryz.ntmps100
  go_wp2
  go_ret
  refine ⟨rfl, (Below.refl _ _).alloc (Nat.le_refl _) _, by simp, fun k hk => ?_⟩
  have : k = 0 ∨ k = 1 ∨ k = 2 ∨ k = 3 ∨ k = 4 ∨ k = 5 ∨ k = 6 ∨ k = 7 ∨ k = 8 ∨ k = 9 ∨ k = 10 ∨ k = 11 ∨ k = 12 ∨ k = 13 := by omega
  rcases this with rfl | rfl | rfl | rfl | rfl | rfl | rfl | rfl | rfl | rfl | rfl | rfl | rfl | rfl <;> simp [sg]

theorem ParAt.old {p : Nat} {w w' : World} {s : ByteArray} {st : Par} {v : Value} (h : ParAt p w s st v) (hb : Below w.heap.size w w') : ParAt p w' s st v := by
  have hlt := h.lt
  exact ⟨(hb.cell hlt).trans h.c0, (hb.cell hlt).trans h.c1, (hb.cell hlt).trans h.c2, (hb.cell hlt).trans h.c3, (hb.cell hlt).trans h.c4, fun j => (hb.frozen hlt).trans (h.open_ j),
    h.own.kept (row := none) ⟨hb.os, hb.tape, hb.output, hb.size, fun k hk _ => hb.block k hk⟩ (by cases v.ownBlock <;> simp)⟩
theorem touch_old {p : Nat} {v : Value} {w w' : World} (hb : Below w.heap.size w w') : Touch p v w w' v := ⟨hb.os, hb.tape, hb.output, hb.size, fun k hk _ _ => hb.block k hk, .inl rfl⟩

theorem skipF_skip (s : ByteArray) (f : Nat) : ∀ a, s.size - a ≤ f → ¬ (skipF s f a < s.size ∧ bt s (skipF s f a) = 32) := by
  induction f with
  | zero => intro a h; simp only [skipF]; omega
  | succ f ih =>
    intro a h
    unfold skipF
    split
    · exact ih (a + 1) (by omega)
    · assumption
theorem skipTo_idem (s : ByteArray) (a : Nat) : skipTo s (skipTo s a) = skipTo s a := skipTo_stop (skipF_skip s _ a (Nat.le_refl _))

/-- whether kind j is a sign of a level that stands at place k -/
def isSign (s : ByteArray) (k : Nat) (level : Int) (j : Nat) : Bool := (lvl j == level) && hasAt s k (sg j)
/-- the kind of the sign of a level that stands at place k; 0, if there is none -/
def findSign (s : ByteArray) (k : Nat) (level : Int) : Nat := ((List.range' 5 9).find? (isSign s k level)).getD 0
theorem findSign_yes {s : ByteArray} {k : Nat} {level : Int} {j : Nat} (h : 5 ≤ j ∧ j ≤ 13) (hj : isSign s k level j = true) (hn : ∀ i, 5 ≤ i → i < j → isSign s k level i = false) : findSign s k level = j := by
  unfold findSign
  have : (List.range' 5 9).find? (isSign s k level) = some j := by
    rw [List.find?_range'_eq_some]
    exact ⟨hj, by simp; omega, fun i h1 h2 => by simp [hn i h1 h2]⟩
  rw [this]; rfl
theorem findSign_no {s : ByteArray} {k : Nat} {level : Int} (hn : ∀ i, 5 ≤ i → i < 14 → isSign s k level i = false) : findSign s k level = 0 := by
  unfold findSign
  have : (List.range' 5 9).find? (isSign s k level) = none := by
    rw [List.find?_eq_none]
    intro i hi
    simp at hi
    simp [hn i (by omega) (by omega)]
  rw [this]; rfl
/-- the place behind that sign -/
def signAt (s : ByteArray) (k : Nat) (level : Int) : Nat := k + (sg (findSign s k level)).size
theorem sg_size (k : Nat) : (sg k).size ≤ 2 := by
  unfold sg
  repeat' split
  all_goals decide

set_option maxHeartbeats 1600000 in
set_option maxRecDepth 100000 in
theorem sign_any (p : Nat) (s : ByteArray) (st : Par) (v : Value) (level : Int) (w : World) (hlev : 1 ≤ level ∧ level ≤ 5) (hs : s.size ≤ 1048576) (ha : st.at_ ≤ s.size) (h : ParAt p w s st v) :
    Calls Tryz.prog 105 #[.pointer (some ⟨p, 0, none⟩), .int .i64 level] w fun e w' => e = .returned (.int .i64 (findSign s (skipTo s st.at_) level)) ∧
      ParAt p w' s { st with at_ := signAt s (skipTo s st.at_) level } v ∧ Touch p v w w' v := by
  have HP : Hid (ParAt p w s st v) := h
  have hle := skipTo_le ha
  obtain ⟨K, hK⟩ : ∃ K, skipTo s st.at_ = K := ⟨_, rfl⟩
  have HK : Hid (skipTo s st.at_ = K) := hK
  rw [hK] at hle ⊢
  clear h hK
  go_enter Tryz.func105, Tryz.ntmps105
  go_wp2_with fail
  go_loopw [5] (fun i wr => ∃ (j : Nat) (a : Nat), 5 ≤ j ∧ j ≤ 14 ∧ i = .int .i64 j ∧ Hid (∀ i, 5 ≤ i → i < j → isSign s K level i = false) ∧ a ≤ s.size ∧ Hid (skipTo s a = K) ∧ Hid (∀ i, 5 ≤ i → i < j → lvl (i : Nat) = level → a = K) ∧
      Hid (ParAt p wr s { st with at_ := a } v) ∧ Touch p v w wr v) (fun i _ => 14 - (intOf i).toNat)
  case atStart => exact ⟨5, st.at_, by omega, by omega, rfl, fun i _ _ => by omega, ha, HK.out, fun i _ _ => by omega, HP.out, Touch.refl _ _ _⟩
  case round =>
    obtain ⟨j, a, hj5, hj14, rfl, hno, haz, hsk, htr, hpar, ht⟩ := hrel
    by_cases hlt : j ≤ 13
    · by_cases hlv : lvl j = level
      · have hlv' : (lvl (j : Int) == level) = true := by simp [hlv]
        have hg := sg_size j
        have hjI : (j : Int) < 14 := by omega
        cases hh : hasAt s K (sg j)
        · have HN : Hid (∀ i, 5 ≤ i → i < j + 1 → isSign s K level i = false) := fun i h1 h2 => by
            by_cases e : i = j
            · subst e; unfold isSign; rw [hh]; simp
            · exact hno.out i h1 (by omega)
          have HH : Hid (hasAt s K (sg j) = false) := hh
          clear hlv hh
          go_wp2_with (go_at_call 99; refine (l1Level_any _ _).mono ?_; rintro e w' ⟨rfl, hw'⟩; rw [hw']; clear hw' w')
          refine (l1Signs_any _).mono ?_
          rintro e w1 ⟨rfl, hb1, hz1, hc1⟩
          have cj := hc1 j (by omega)
          clear hc1
          go_wp2_with fail
          refine (take_any p s (sg j) { st with at_ := a } v _ hs (by omega) haz (hpar.out.old hb1)).mono ?_
          simp only
          rw [hsk.out, HH.out]
          rintro e w2 ⟨rfl, hp2, ht2⟩
          have HP2 : Hid (ParAt p w2 s { st with at_ := K } v) := by
            show ParAt _ _ _ _ _
            unfold takeAt at hp2; rw [HH.out] at hp2; exact hp2
          clear hp2
          go_wp2_with fail
          go_roundw
          case rel => exact ⟨j + 1, K, by omega, by omega, by go_num, HN.out, hle.2, by show skipTo s K = K; rw [← HK.out]; exact skipTo_idem _ _, fun _ _ _ _ => rfl, HP2.out, (ht.trans (touch_old hb1)).trans ht2⟩
          case measure => simp [intOf]; omega
        · have HN : Hid (findSign s K level = j) := findSign_yes ⟨hj5, hlt⟩ (by unfold isSign; rw [hh, hlv']; rfl) hno.out
          have HH : Hid (hasAt s K (sg j) = true) := hh
          clear hlv hh
          go_wp2_with (go_at_call 99; refine (l1Level_any _ _).mono ?_; rintro e w' ⟨rfl, hw'⟩; rw [hw']; clear hw' w')
          refine (l1Signs_any _).mono ?_
          rintro e w1 ⟨rfl, hb1, hz1, hc1⟩
          have cj := hc1 j (by omega)
          clear hc1
          go_wp2_with fail
          refine (take_any p s (sg j) { st with at_ := a } v _ hs (by omega) haz (hpar.out.old hb1)).mono ?_
          simp only
          rw [hsk.out, HH.out]
          rintro e w2 ⟨rfl, hp2, ht2⟩
          have HP2 : Hid (ParAt p w2 s { st with at_ := signAt s K level } v) := by
            show ParAt _ _ _ _ _
            unfold takeAt at hp2; rw [HH.out] at hp2
            unfold signAt; rw [HN.out]; exact hp2
          clear hp2
          go_wp2_with fail
          go_ret
          exact ⟨ret_int (by rw [HN.out]), HP2.out, (ht.trans (touch_old hb1)).trans ht2⟩
      · have hlv' : (lvl (j : Int) == level) = false := by simp [hlv]
        have HN : Hid (∀ i, 5 ≤ i → i < j + 1 → isSign s K level i = false) := fun i h1 h2 => by
          by_cases e : i = j
          · subst e; unfold isSign; rw [hlv']; rfl
          · exact hno.out i h1 (by omega)
        have HT : Hid (∀ i, 5 ≤ i → i < j + 1 → lvl (i : Nat) = level → a = K) := fun i h1 h2 h3 => by
          by_cases e : i = j
          · subst e; exact absurd h3 hlv
          · exact htr.out i h1 (by omega) h3
        clear hlv
        go_wp2_with (go_at_call 99; refine (l1Level_any _ _).mono ?_; rintro e w' ⟨rfl, hw'⟩; rw [hw']; clear hw' w')
        go_roundw
        case rel => exact ⟨j + 1, a, by omega, by omega, by go_num, HN.out, haz, hsk.out, HT.out, hpar.out, ht⟩
        case measure => simp [intOf]; omega
    · have : j = 14 := by omega
      subst this
      have HN : Hid (findSign s K level = 0) := findSign_no hno.out
      have HA : Hid (a = K) := by
        show a = K
        have h1 : level = 1 ∨ level = 2 ∨ level = 3 ∨ level = 4 ∨ level = 5 := by omega
        rcases h1 with rfl | rfl | rfl | rfl | rfl
        · exact htr.out 13 (by omega) (by omega) (by decide)
        · exact htr.out 12 (by omega) (by omega) (by decide)
        · exact htr.out 10 (by omega) (by omega) (by decide)
        · exact htr.out 8 (by omega) (by omega) (by decide)
        · exact htr.out 5 (by omega) (by omega) (by decide)
      have HP2 : Hid (ParAt p wr s { st with at_ := signAt s K level } v) := by
        show ParAt _ _ _ _ _
        have h1 := hpar.out
        rw [HA.out] at h1
        unfold signAt; rw [HN.out]; exact h1
      go_wp2_with fail
      go_ret
      exact ⟨ret_int (by rw [HN.out]; rfl), HP2.out, ht⟩
end Go.Proofs.YtcajjngjojegfaaGreatDoor
