/- The reader's sign: which sign of a level stands next. -/
import Derived.Test.YtchemhjcknkbgaaGreatDoorBunY5
import Derived.Test.YtchemhjcknkbgaaGreatDoorBunY4
import Derived.OpenShut
import Derived.Deep.Slices
import Derived.WideShapes
import Derived.ChangeAt
namespace Go.Proofs.YtchemhjcknkbgaaGreatDoor
open Go.RowKit Go.PlainAid
set_option linter.unusedSimpArgs false
set_option linter.unusedVariables false

/-- how tightly a sign binds -/
def lvl (k : Int) : Int := if k = 5 ∨ k = 6 ∨ k = 7 then 5 else if k = 8 ∨ k = 9 then 4 else if k = 10 ∨ k = 11 then 3 else if k = 12 then 2 else 1
theorem l1Level_any (k : Int) (w : World) : Calls Tryz.prog 201 #[.int .i64 k] w fun e w' => e = .returned (.int .i64 (lvl k)) ∧ w' = w := by
  by_cases h5 : k = 5
  · subst h5
    go_enter Tryz.func201, Tryz.ntmps201
    go_wp2
    go_ret
    exact ⟨rfl, rfl⟩
  have e5 : (k == 5) = false := by simp [h5]
  by_cases h6 : k = 6
  · subst h6
    go_enter Tryz.func201, Tryz.ntmps201
    go_wp2
    go_ret
    exact ⟨rfl, rfl⟩
  have e6 : (k == 6) = false := by simp [h6]
  by_cases h7 : k = 7
  · subst h7
    go_enter Tryz.func201, Tryz.ntmps201
    go_wp2
    go_ret
    exact ⟨rfl, rfl⟩
  have e7 : (k == 7) = false := by simp [h7]
  by_cases h8 : k = 8
  · subst h8
    go_enter Tryz.func201, Tryz.ntmps201
    go_wp2
    go_ret
    exact ⟨rfl, rfl⟩
  have e8 : (k == 8) = false := by simp [h8]
  by_cases h9 : k = 9
  · subst h9
    go_enter Tryz.func201, Tryz.ntmps201
    go_wp2
    go_ret
    exact ⟨rfl, rfl⟩
  have e9 : (k == 9) = false := by simp [h9]
  by_cases h10 : k = 10
  · subst h10
    go_enter Tryz.func201, Tryz.ntmps201
    go_wp2
    go_ret
    exact ⟨rfl, rfl⟩
  have e10 : (k == 10) = false := by simp [h10]
  by_cases h11 : k = 11
  · subst h11
    go_enter Tryz.func201, Tryz.ntmps201
    go_wp2
    go_ret
    exact ⟨rfl, rfl⟩
  have e11 : (k == 11) = false := by simp [h11]
  by_cases h12 : k = 12
  · subst h12
    go_enter Tryz.func201, Tryz.ntmps201
    go_wp2
    go_ret
    exact ⟨rfl, rfl⟩
  have e12 : (k == 12) = false := by simp [h12]
  have HN : Hid (lvl k = 1) := by
    show lvl k = 1
    simp [lvl, h5, h6, h7, h8, h9, h10, h11, h12]
  go_enter Tryz.func201, Tryz.ntmps201
  go_wp2
  go_ret
  exact ⟨ret_int HN.out.symm, rfl⟩

/-- how a sign is written -/
def sg (k : Nat) : ByteArray :=
  if k = 5 then ⟨#[42]⟩ else if k = 6 then ⟨#[47]⟩ else if k = 7 then ⟨#[37]⟩ else if k = 8 then ⟨#[43]⟩ else if k = 9 then ⟨#[45]⟩
  else if k = 10 then ⟨#[60]⟩ else if k = 11 then ⟨#[61, 61]⟩ else if k = 12 then ⟨#[38]⟩ else if k = 13 then ⟨#[124]⟩ else ⟨#[]⟩
theorem l1Signs_any (w : World) : Calls Tryz.prog 202 #[] w fun e w' => e = .returned (.slice (some ⟨w.heap.size, 0, none⟩) 14 14) ∧ Below w.heap.size w w' ∧ w.heap.size < w'.heap.size ∧
    ∀ k, k < 14 → w'.cell? ⟨w.heap.size, k, none⟩ = some (.string (sg k)) := by
  go_enter Tryz.func202, Tryz.ntmps202
  go_wp2
  go_ret
  refine ⟨rfl, (Below.refl _ _).alloc (Nat.le_refl _) _, by simp, fun k hk => ?_⟩
  have : k = 0 ∨ k = 1 ∨ k = 2 ∨ k = 3 ∨ k = 4 ∨ k = 5 ∨ k = 6 ∨ k = 7 ∨ k = 8 ∨ k = 9 ∨ k = 10 ∨ k = 11 ∨ k = 12 ∨ k = 13 := by omega
  rcases this with rfl | rfl | rfl | rfl | rfl | rfl | rfl | rfl | rfl | rfl | rfl | rfl | rfl | rfl <;> simp [sg]

theorem ParAt.old {p : Nat} {w w' : World} {s : ByteArray} {st : Par} {v : Value} (h : ParAt p w s st v) (hb : Below w.heap.size w w') : ParAt p w' s st v := by
  have hlt := h.lt
  exact ⟨(hb.cell hlt).trans h.c0, (hb.cell hlt).trans h.c1, (hb.cell hlt).trans h.c2, (hb.cell hlt).trans h.c3, (hb.cell hlt).trans h.c4, fun j => (hb.frozen hlt).trans (h.open_ j),
    h.own.kept (row := none) ⟨hb.os, hb.tape, hb.output, hb.size, fun k hk _ => hb.block k hk⟩ (by cases v.ownBlock <;> simp)⟩
theorem touch_old {p : Nat} {v : Value} {w w' : World} (hb : Below w.heap.size w w') : Touch p v w w' v := ⟨hb.os, hb.tape, hb.output, hb.size, fun k hk _ _ => hb.block k hk, .inl rfl⟩

theorem skipF_skip (s : ByteArray) (f : Nat) : ∀ a, s.size - a ≤ f → ¬ (skipF s f a < s.size ∧ bt s (skipF s f a) = 32) := by
  induction f with
  | zero => intro a h; simp only [skipF]; omega
  | succ f ih =>
    intro a h
    unfold skipF
    split
    · exact ih (a + 1) (by omega)
    · assumption
theorem skipTo_idem (s : ByteArray) (a : Nat) : skipTo s (skipTo s a) = skipTo s a := skipTo_stop (skipF_skip s _ a (Nat.le_refl _))

/-- whether kind j is a sign of a level that stands at place k -/
def isSign (s : ByteArray) (k : Nat) (level : Int) (j : Nat) : Bool := (lvl j == level) && hasAt s k (sg j)
/-- the kind of the sign of a level that stands at place k; 0, if there is none -/
def findSign (s : ByteArray) (k : Nat) (level : Int) : Nat := ((List.range' 5 9).find? (isSign s k level)).getD 0
theorem findSign_yes {s : ByteArray} {k : Nat} {level : Int} {j : Nat} (h : 5 ≤ j ∧ j ≤ 13) (hj : isSign s k level j = true) (hn : ∀ i, 5 ≤ i → i < j → isSign s k level i = false) : findSign s k level = j := by
  unfold findSign
  have : (List.range' 5 9).find? (isSign s k level) = some j := by
    rw [List.find?_range'_eq_some]
    exact ⟨hj, by simp; omega, fun i h1 h2 => by simp [hn i h1 h2]⟩
  rw [this]; rfl
theorem findSign_no {s : ByteArray} {k : Nat} {level : Int} (hn : ∀ i, 5 ≤ i → i < 14 → isSign s k level i = false) : findSign s k level = 0 := by
  unfold findSign
  have : (List.range' 5 9).find? (isSign s k level) = none := by
    rw [List.find?_eq_none]
    intro i hi
    simp at hi
    simp [hn i (by omega) (by omega)]
  rw [this]; rfl
/-- the place behind that sign -/
def signAt (s : ByteArray) (k : Nat) (level : Int) : Nat := k + (sg (findSign s k level)).size
theorem sg_size (k : Nat) : (sg k).size ≤ 2 := by
  unfold sg
  repeat' split
  all_goals decide

set_option maxHeartbeats 1600000 in
set_option maxRecDepth 100000 in
theorem sign_any (p : Nat) (s : ByteArray) (st : Par) (v : Value) (level : Int) (w : World) (hlev : 1 ≤ level ∧ level ≤ 5) (hs : s.size ≤ 1048576) (ha : st.at_ ≤ s.size) (h : ParAt p w s st v) :
    Calls Tryz.prog 159 #[.pointer (some ⟨p, 0, none⟩), .int .i64 level] w fun e w' => e = .returned (.int .i64 (findSign s (skipTo s st.at_) level)) ∧
      ParAt p w' s { st with at_ := signAt s (skipTo s st.at_) level } v ∧ Touch p v w w' v := by
  have HP : Hid (ParAt p w s st v) := h
  have hle := skipTo_le ha
  obtain ⟨K, hK⟩ : ∃ K, skipTo s st.at_ = K := ⟨_, rfl⟩
  have HK : Hid (skipTo s st.at_ = K) := hK
  rw [hK] at hle ⊢
  clear h hK
  go_enter Tryz.func159, Tryz.ntmps159
  go_wp2_with fail
  go_loopw [5] (fun i wr => ∃ (j : Nat) (a : Nat), 5 ≤ j ∧ j ≤ 14 ∧ i = .int .i64 j ∧ Hid (∀ i, 5 ≤ i → i < j → isSign s K level i = false) ∧ a ≤ s.size ∧ Hid (skipTo s a = K) ∧ Hid (∀ i, 5 ≤ i → i < j → lvl (i : Nat) = level → a = K) ∧
      Hid (ParAt p wr s { st with at_ := a } v) ∧ Touch p v w wr v) (fun i _ => 14 - (intOf i).toNat)
  case atStart => exact ⟨5, st.at_, by omega, by omega, rfl, fun i _ _ => by omega, ha, HK.out, fun i _ _ => by omega, HP.out, Touch.refl _ _ _⟩
  case round =>
    obtain ⟨j, a, hj5, hj14, rfl, hno, haz, hsk, htr, hpar, ht⟩ := hrel
    by_cases hlt : j ≤ 13
    · by_cases hlv : lvl j = level
      · have hlv' : (lvl (j : Int) == level) = true := by simp [hlv]
        have hg := sg_size j
        have hjI : (j : Int) < 14 := by omega
        cases hh : hasAt s K (sg j)
        · have HN : Hid (∀ i, 5 ≤ i → i < j + 1 → isSign s K level i = false) := fun i h1 h2 => by
            by_cases e : i = j
            · subst e; unfold isSign; rw [hh]; simp
            · exact hno.out i h1 (by omega)
          have HH : Hid (hasAt s K (sg j) = false) := hh
          clear hlv hh
          go_wp2_with (go_at_call 201; refine (l1Level_any _ _).mono ?_; rintro e w' ⟨rfl, hw'⟩; rw [hw']; clear hw' w')
          refine (l1Signs_any _).mono ?_
          rintro e w1 ⟨rfl, hb1, hz1, hc1⟩
          have cj := hc1 j (by omega)
          clear hc1
          go_wp2_with fail
          refine (take_any p s (sg j) { st with at_ := a } v _ hs (by omega) haz (hpar.out.old hb1)).mono ?_
          simp only
          rw [hsk.out, HH.out]
          rintro e w2 ⟨rfl, hp2, ht2⟩
          have HP2 : Hid (ParAt p w2 s { st with at_ := K } v) := by
            show ParAt _ _ _ _ _
            unfold takeAt at hp2; rw [HH.out] at hp2; exact hp2
          clear hp2
          go_wp2_with fail
          go_roundw
          case rel => exact ⟨j + 1, K, by omega, by omega, by go_num, HN.out, hle.2, by show skipTo s K = K; rw [← HK.out]; exact skipTo_idem _ _, fun _ _ _ _ => rfl, HP2.out, (ht.trans (touch_old hb1)).trans ht2⟩
          case measure => simp [intOf]; omega
        · have HN : Hid (findSign s K level = j) := findSign_yes ⟨hj5, hlt⟩ (by unfold isSign; rw [hh, hlv']; rfl) hno.out
          have HH : Hid (hasAt s K (sg j) = true) := hh
          clear hlv hh
          go_wp2_with (go_at_call 201; refine (l1Level_any _ _).mono ?_; rintro e w' ⟨rfl, hw'⟩; rw [hw']; clear hw' w')
          refine (l1Signs_any _).mono ?_
          rintro e w1 ⟨rfl, hb1, hz1, hc1⟩
          have cj := hc1 j (by omega)
          clear hc1
          go_wp2_with fail
          refine (take_any p s (sg j) { st with at_ := a } v _ hs (by omega) haz (hpar.out.old hb1)).mono ?_
          simp only
          rw [hsk.out, HH.out]
          rintro e w2 ⟨rfl, hp2, ht2⟩
          have HP2 : Hid (ParAt p w2 s { st with at_ := signAt s K level } v) := by
            show ParAt _ _ _ _ _
            unfold takeAt at hp2; rw [HH.out] at hp2
            unfold signAt; rw [HN.out]; exact hp2
          clear hp2
          go_wp2_with fail
          go_ret
          exact ⟨ret_int (by rw [HN.out]), HP2.out, (ht.trans (touch_old hb1)).trans ht2⟩
      · have hlv' : (lvl (j : Int) == level) = false := by simp [hlv]
        have HN : Hid (∀ i, 5 ≤ i → i < j + 1 → isSign s K level i = false) := fun i h1 h2 => by
          by_cases e : i = j
          · subst e; unfold isSign; rw [hlv']; rfl
          · exact hno.out i h1 (by omega)
        have HT : Hid (∀ i, 5 ≤ i → i < j + 1 → lvl (i : Nat) = level → a = K) := fun i h1 h2 h3 => by
          by_cases e : i = j
          · subst e; exact absurd h3 hlv
          · exact htr.out i h1 (by omega) h3
        clear hlv
        go_wp2_with (go_at_call 201; refine (l1Level_any _ _).mono ?_; rintro e w' ⟨rfl, hw'⟩; rw [hw']; clear hw' w')
        go_roundw
        case rel => exact ⟨j + 1, a, by omega, by omega, by go_num, HN.out, haz, hsk.out, HT.out, hpar.out, ht⟩
        case measure => simp [intOf]; omega
    · have : j = 14 := by omega
      subst this
      have HN : Hid (findSign s K level = 0) := findSign_no hno.out
      have HA : Hid (a = K) := by
        show a = K
        have h1 : level = 1 ∨ level = 2 ∨ level = 3 ∨ level = 4 ∨ level = 5 := by omega
        rcases h1 with rfl | rfl | rfl | rfl | rfl
        · exact htr.out 13 (by omega) (by omega) (by decide)
        · exact htr.out 12 (by omega) (by omega) (by decide)
        · exact htr.out 10 (by omega) (by omega) (by decide)
        · exact htr.out 8 (by omega) (by omega) (by decide)
        · exact htr.out 5 (by omega) (by omega) (by decide)
      have HP2 : Hid (ParAt p wr s { st with at_ := signAt s K level } v) := by
        show ParAt _ _ _ _ _
        have h1 := hpar.out
        rw [HA.out] at h1
        unfold signAt; rw [HN.out]; exact h1
      go_wp2_with fail
      go_ret
      exact ⟨ret_int (by rw [HN.out]; rfl), HP2.out, ht⟩
end Go.Proofs.YtchemhjcknkbgaaGreatDoor

/- The model's reader as a function: plain. -/
namespace Go.Proofs.YtchemhjcknkbgaaGreatDoor
open Go.PlainAid
set_option linter.unusedSimpArgs false
set_option linter.unusedVariables false

def lpar : ByteArray := ⟨#[40]⟩
def rpar : ByteArray := ⟨#[41]⟩
def minus : ByteArray := ⟨#[45]⟩
def bang : ByteArray := ⟨#[33]⟩
def noName : ByteArray := ⟨#[]⟩

/-- signs ahead: their kinds, and the place of what follows -/
def aheadF (s : ByteArray) : Nat → Nat → List Int × Nat
  | 0, a => ([], a)
  | f + 1, a => if bt s (skipTo s a) = 45 then (3 :: (aheadF s f (skipTo s a + 1)).1, (aheadF s f (skipTo s a + 1)).2)
    else if bt s (skipTo s a) = 33 then (4 :: (aheadF s f (skipTo s a + 1)).1, (aheadF s f (skipTo s a + 1)).2) else ([], skipTo s a)
def aheadTo (s : ByteArray) (a : Nat) : List Int × Nat := aheadF s (s.size - a + 1) a

/-- nodes of signs ahead, the last first, as long as nothing is bad -/
def putAll : List Int → Par → Par
  | [], st => st
  | k :: r, st => if st.bad then st else putAll r (putNd st (k, 0, noName))

def primM (rec : Int → Par → Par) (s : ByteArray) (st : Par) : Par :=
  if hasAt s (skipTo s st.at_) lpar then
    if 6 < st.deep + 1 then { st with at_ := skipTo s st.at_ + 1, deep := st.deep + 1, bad := true }
    else
      let st3 := rec 1 { st with at_ := skipTo s st.at_ + 1, deep := st.deep + 1 }
      { st3 with at_ := takeAt s (skipTo s st3.at_) rpar, deep := st3.deep - 1, bad := st3.bad || !hasAt s (skipTo s st3.at_) rpar }
  else
    let w := s.extract (skipTo s st.at_) (wordTo s (skipTo s st.at_))
    if figB (bt s (skipTo s st.at_)) then putNd { st with at_ := wordTo s (skipTo s st.at_), bad := st.bad || decide (numOf w < 0) } (1, numOf w, noName)
    else putNd { st with at_ := wordTo s (skipTo s st.at_), bad := st.bad || !nmB w } (2, 0, w)
def unaryM (rec : Int → Par → Par) (s : ByteArray) (st : Par) : Par :=
  putAll (aheadTo s st.at_).1.reverse (primM rec s { st with at_ := (aheadTo s st.at_).2 })
def loopS (rec : Int → Par → Par) (s : ByteArray) (level : Int) : Nat → Par → Par
  | 0, st => st
  | n + 1, st => if st.bad then st else if findSign s (skipTo s st.at_) level = 0 then { st with at_ := signAt s (skipTo s st.at_) level }
    else loopS rec s level n (putNd (rec (level + 1) { st with at_ := signAt s (skipTo s st.at_) level }) (findSign s (skipTo s st.at_) level, 0, noName))
def sumF (s : ByteArray) : Nat → Int → Par → Par
  | 0, _, st => st
  | f + 1, level, st => if 5 < level then unaryM (sumF s f) s st else loopS (sumF s f) s level (s.size + 1) (sumF s f (level + 1) st)

/-- what reading leaves can only go on -/
structure Adv (s : ByteArray) (st st' : Par) : Prop where
  lo : st.at_ ≤ st'.at_
  hi : st.at_ ≤ s.size → st'.at_ ≤ s.size
  dlo : st.deep ≤ st'.deep
  dhi : st'.deep + st.at_ ≤ st.deep + st'.at_
  len : st.out.length ≤ 24 → st'.out.length ≤ 24
theorem Adv.refl (s : ByteArray) (st : Par) : Adv s st st := ⟨Nat.le_refl _, id, Nat.le_refl _, Nat.le_refl _, id⟩
theorem Adv.trans {s : ByteArray} {a b c : Par} (h : Adv s a b) (k : Adv s b c) : Adv s a c :=
  ⟨Nat.le_trans h.lo k.lo, fun x => k.hi (h.hi x), Nat.le_trans h.dlo k.dlo, by have := h.dhi; have := k.dhi; omega, fun x => k.len (h.len x)⟩
theorem adv_put (s : ByteArray) (st : Par) (x : Nd) : Adv s st (putNd st x) := by
  unfold putNd
  split
  · exact ⟨Nat.le_refl _, id, Nat.le_refl _, Nat.le_refl _, id⟩
  · refine ⟨Nat.le_refl _, id, Nat.le_refl _, Nat.le_refl _, fun _ => ?_⟩
    simp; omega
theorem adv_putAll (s : ByteArray) (l : List Int) : ∀ st, Adv s st (putAll l st) := by
  induction l with
  | nil => exact Adv.refl s
  | cons k r ih =>
    intro st
    unfold putAll
    split
    · exact Adv.refl s st
    · exact (adv_put s st _).trans (ih _)
theorem bt_lt {s : ByteArray} {k : Nat} {c : Int} (h : bt s k = c) (hc : c ≠ 0) : k < s.size := by
  rcases Nat.lt_or_ge k s.size with h1 | h1
  · exact h1
  · exact absurd (h.symm.trans (bt_end s h1)) hc
theorem skipF_ge (s : ByteArray) (f : Nat) : ∀ a, s.size ≤ a → skipF s f a = a := by
  induction f with
  | zero => intro a _; rfl
  | succ f ih => intro a h; unfold skipF; rw [if_neg (by omega)]
theorem skipTo_mono (s : ByteArray) (a : Nat) : a ≤ skipTo s a := (skipF_le s _ a).1
theorem adv_at (s : ByteArray) (st : Par) (a : Nat) (h1 : st.at_ ≤ a) (h2 : st.at_ ≤ s.size → a ≤ s.size) : Adv s st { st with at_ := a } :=
  ⟨h1, h2, Nat.le_refl _, by simp only; omega, id⟩
theorem aheadF_le (s : ByteArray) (f : Nat) : ∀ a, a ≤ (aheadF s f a).2 ∧ (a ≤ s.size → (aheadF s f a).2 ≤ s.size) := by
  induction f with
  | zero => intro a; exact ⟨Nat.le_refl _, id⟩
  | succ f ih =>
    intro a
    have h1 := skipTo_mono s a
    unfold aheadF
    split
    · rename_i hb
      have h2 := bt_lt hb (by decide)
      have := ih (skipTo s a + 1)
      simp only
      exact ⟨by omega, fun _ => this.2 (by omega)⟩
    · split
      · rename_i hb
        have h2 := bt_lt hb (by decide)
        have := ih (skipTo s a + 1)
        simp only
        exact ⟨by omega, fun _ => this.2 (by omega)⟩
      · exact ⟨h1, fun h => (skipTo_le h).2⟩
theorem hasAt_lt {s : ByteArray} {k : Nat} {g : ByteArray} (h : hasAt s k g = true) : k + g.size ≤ s.size := by
  unfold hasAt at h; simp at h; exact h.1
theorem takeAt_le {s : ByteArray} {k : Nat} {g : ByteArray} (h : k ≤ s.size) : k ≤ takeAt s k g ∧ takeAt s k g ≤ s.size := by
  unfold takeAt
  split
  · rename_i h1; have := hasAt_lt h1; omega
  · omega
theorem takeAt_mono (s : ByteArray) (k : Nat) (g : ByteArray) : k ≤ takeAt s k g := by
  unfold takeAt; split <;> omega
theorem adv_prim {s : ByteArray} {rec : Int → Par → Par} (hrec : ∀ l st, Adv s st (rec l st)) (st : Par) : Adv s st (primM rec s st) := by
  have h1 := skipTo_mono s st.at_
  unfold primM
  split
  · rename_i hh
    have h2 := hasAt_lt hh
    have e : lpar.size = 1 := rfl
    split
    · exact ⟨by simp only; omega, fun _ => by simp only; omega, by simp only; omega, by simp only; omega, id⟩
    · have h3 := hrec 1 { st with at_ := skipTo s st.at_ + 1, deep := st.deep + 1 }
      generalize rec 1 { st with at_ := skipTo s st.at_ + 1, deep := st.deep + 1 } = st3 at *
      obtain ⟨a1, a2, a3, a4, a5⟩ := h3
      simp only at a1 a2 a3 a4 a5
      have h4 := skipTo_mono s st3.at_
      have h5 := takeAt_mono s (skipTo s st3.at_) rpar
      refine ⟨by simp only; omega, fun h => ?_, by simp only; omega, by simp only; omega, a5⟩
      simp only
      have := a2 (by omega)
      exact (takeAt_le (skipTo_le this).2).2
  · have h2 := (wordF_le s (s.size - skipTo s st.at_) (skipTo s st.at_)).1
    have h3 : ∀ b, Adv s st { st with at_ := wordTo s (skipTo s st.at_), bad := b } := fun b =>
      ⟨by simp only; unfold wordTo; omega, fun h => by simp only; exact (wordTo_le (skipTo_le h).2).2, Nat.le_refl _, by simp only; unfold wordTo; omega, id⟩
    simp only
    split
    · exact (h3 _).trans (adv_put s _ _)
    · exact (h3 _).trans (adv_put s _ _)
theorem adv_unary {s : ByteArray} {rec : Int → Par → Par} (hrec : ∀ l st, Adv s st (rec l st)) (st : Par) : Adv s st (unaryM rec s st) := by
  unfold unaryM
  have h1 := aheadF_le s (s.size - st.at_ + 1) st.at_
  exact ((adv_at s st _ h1.1 h1.2).trans (adv_prim hrec _)).trans (adv_putAll s _ _)
theorem findSign_lt {s : ByteArray} {k : Nat} {level : Int} (h : findSign s k level ≠ 0) : k + (sg (findSign s k level)).size ≤ s.size ∧ 1 ≤ (sg (findSign s k level)).size ∧ 5 ≤ findSign s k level ∧ findSign s k level ≤ 13 := by
  unfold findSign at *
  cases hf : (List.range' 5 9).find? (isSign s k level) with
  | none => rw [hf] at h; simp at h
  | some j =>
    have h1 := List.find?_some hf
    have h2 := List.mem_of_find?_eq_some hf
    simp at h2
    simp only [Option.getD_some]
    unfold isSign at h1
    simp at h1
    refine ⟨hasAt_lt h1.2, ?_, by omega, by omega⟩
    have : j = 5 ∨ j = 6 ∨ j = 7 ∨ j = 8 ∨ j = 9 ∨ j = 10 ∨ j = 11 ∨ j = 12 ∨ j = 13 := by omega
    rcases this with rfl | rfl | rfl | rfl | rfl | rfl | rfl | rfl | rfl <;> decide
theorem signAt_le (s : ByteArray) (a : Nat) (level : Int) : a ≤ signAt s (skipTo s a) level ∧ (a ≤ s.size → signAt s (skipTo s a) level ≤ s.size) := by
  have h1 := skipTo_mono s a
  unfold signAt
  by_cases h : findSign s (skipTo s a) level = 0
  · rw [h]
    have e : (sg 0).size = 0 := by decide
    exact ⟨by omega, fun h => by have := (skipTo_le h).2; omega⟩
  · have := findSign_lt h
    exact ⟨by omega, fun _ => this.1⟩
theorem adv_loop {s : ByteArray} {rec : Int → Par → Par} (hrec : ∀ l st, Adv s st (rec l st)) (level : Int) (n : Nat) : ∀ st, Adv s st (loopS rec s level n st) := by
  induction n with
  | zero => exact Adv.refl s
  | succ n ih =>
    intro st
    have h1 := signAt_le s st.at_ level
    unfold loopS
    split
    · exact Adv.refl s st
    · split
      · exact adv_at s st _ h1.1 h1.2
      · exact (((adv_at s st _ h1.1 h1.2).trans (hrec _ _)).trans (adv_put s _ _)).trans (ih _)
theorem adv_sum (s : ByteArray) (f : Nat) : ∀ level st, Adv s st (sumF s f level st) := by
  induction f with
  | zero => exact fun _ => Adv.refl s
  | succ f ih =>
    intro level st
    unfold sumF
    split
    · exact adv_unary ih st
    · exact (ih _ _).trans (adv_loop ih level _ _)
end Go.Proofs.YtchemhjcknkbgaaGreatDoor

/- What code comes to, op by op: plain. -/
namespace Go.Proofs.YtchemhjcknkbgaaGreatDoor

def runOp (vs : List Int) (op : Int × Int) (st : List Int) : List Int :=
  if op.1 = 1 then wr32 op.2 :: st else if op.1 = 2 then wr32 (vs.getD op.2.toNat 0) :: st
  else if op.1 = 3 ∨ op.1 = 4 then one op.1 (st.headD 0) :: st.tail else two op.1 (st.tail.headD 0) (st.headD 0) :: st.tail.tail
/-- the stack behind the first k ops, its top first -/
def runTo (vs : List Int) (zs : List (Int × Int)) : Nat → List Int
  | 0 => []
  | k + 1 => runOp vs (zs.getD k (0, 0)) (runTo vs zs k)
/-- what code comes to -/
def codeVal (vs : List Int) (zs : List (Int × Int)) : Int := if deepOf vs.length zs < 0 then 0 else (runTo vs zs zs.length).headD 0

theorem deepOf_ok {slots : Int} {zs : List (Int × Int)} (h : ¬ deepOf slots zs < 0) : (0 ≤ slots ∧ slots ≤ 16 ∧ zs.length ≤ 24) ∧ ∃ m, deepTo slots zs zs.length = some (1, m) := by
  unfold deepOf at h
  split at h
  · rename_i g
    refine ⟨g, ?_⟩
    cases hd : deepTo slots zs zs.length with
    | none => simp [hd] at h
    | some s =>
      obtain ⟨d, m⟩ := s
      rw [hd] at h
      by_cases h1 : d = 1
      · subst h1; exact ⟨m, rfl⟩
      · exfalso; apply h
        split
        · rename_i hh; simp at hh; omega
        · omega
  · omega
theorem deepTo_some {slots : Int} {zs : List (Int × Int)} {n k : Nat} {s : Int × Int} (h : deepTo slots zs n = some s) (hk : k ≤ n) : ∃ d m, deepTo slots zs k = some (d, m) := by
  cases e : deepTo slots zs k with
  | none => rw [deepTo_none hk e] at h; cases h
  | some s => exact ⟨s.1, s.2, rfl⟩
theorem step_of {slots : Int} {zs : List (Int × Int)} {n k : Nat} {s : Int × Int} {d m : Int} (h : deepTo slots zs n = some s) (hk : k < n) (hd : deepTo slots zs k = some (d, m)) :
    okB (zs.getD k (0, 0)).1 (zs.getD k (0, 0)).2 slots = true ∧ tk (zs.getD k (0, 0)).1 ≤ d ∧ ∃ m', deepTo slots zs (k + 1) = some (d + (1 - tk (zs.getD k (0, 0)).1), m') := by
  obtain ⟨d', m', h1⟩ := deepTo_some h (show k + 1 ≤ n by omega)
  have h2 := h1
  simp only [deepTo, hd, Option.bind_some] at h2
  unfold stepOp at h2
  split at h2
  · rename_i hh
    simp only [Option.some.injEq, Prod.mk.injEq] at h2
    exact ⟨hh.1, hh.2, m', by rw [h1, ← h2.1]⟩
  · cases h2

theorem runOp_len (vs : List Int) (op : Int × Int) (st : List Int) (h : tk op.1 ≤ st.length) (h32 : ∀ x ∈ st, In32 x) : ((runOp vs op st).length : Int) = st.length + (1 - tk op.1) ∧ ∀ x ∈ runOp vs op st, In32 x := by
  have hhd : ∀ l : List Int, (∀ x ∈ l, In32 x) → In32 (l.headD 0) := fun l hl => by
    cases l with
    | nil => simp [In32]
    | cons a r => exact hl a (by simp)
  have htl : ∀ x ∈ st.tail, In32 x := fun x hx => h32 x (List.mem_of_mem_tail hx)
  have htl2 : ∀ x ∈ st.tail.tail, In32 x := fun x hx => htl x (List.mem_of_mem_tail hx)
  unfold tk at *
  unfold runOp
  by_cases h1 : op.1 = 1
  · simp only [h1, if_true, true_or] at *
    refine ⟨by simp, fun x hx => ?_⟩
    rcases List.mem_cons.1 hx with rfl | hx
    · exact in32_wr _
    · exact h32 x hx
  by_cases h2 : op.1 = 2
  · simp only [h2, if_true, or_true] at *
    refine ⟨by simp, fun x hx => ?_⟩
    rcases List.mem_cons.1 hx with rfl | hx
    · exact in32_wr _
    · exact h32 x hx
  have h12 : ¬ (op.1 = 1 ∨ op.1 = 2) := by omega
  simp only [if_neg h12, if_neg h1, if_neg h2] at *
  by_cases h3 : op.1 = 3 ∨ op.1 = 4
  · simp only [if_pos h3] at *
    refine ⟨by simp; omega, fun x hx => ?_⟩
    rcases List.mem_cons.1 hx with rfl | hx
    · exact in32_one _ _
    · exact htl x hx
  · simp only [if_neg h3] at *
    refine ⟨by simp; omega, fun x hx => ?_⟩
    rcases List.mem_cons.1 hx with rfl | hx
    · exact in32_two (hhd _ htl)
    · exact htl2 x hx

theorem run_len {slots : Int} {vs : List Int} {zs : List (Int × Int)} {n : Nat} {s : Int × Int} (hn : deepTo slots zs n = some s) (k : Nat) : ∀ {d m : Int}, k ≤ n → deepTo slots zs k = some (d, m) → ((runTo vs zs k).length : Int) = d ∧ ∀ x ∈ runTo vs zs k, In32 x := by
  induction k with
  | zero => intro d m _ h; simp [deepTo] at h; simp [runTo]; omega
  | succ k ih =>
    intro d m hk h
    obtain ⟨d0, m0, h0⟩ := deepTo_some hn (show k ≤ n by omega)
    obtain ⟨ih1, ih2⟩ := ih (by omega) h0
    obtain ⟨o1, o2, m', o3⟩ := step_of hn (show k < n by omega) h0
    rw [o3] at h
    simp only [Option.some.injEq, Prod.mk.injEq] at h
    have := runOp_len vs (zs.getD k (0, 0)) (runTo vs zs k) (by omega) ih2
    exact ⟨by simp only [runTo]; omega, this.2⟩
theorem run_le {slots : Int} {vs : List Int} {zs : List (Int × Int)} {n : Nat} {s : Int × Int} (hn : deepTo slots zs n = some s) {k : Nat} (hk : k ≤ n) : (runTo vs zs k).length ≤ k := by
  obtain ⟨d0, m0, h0⟩ := deepTo_some hn hk
  have h1 := (run_len (vs := vs) hn k hk h0).1
  have h2 := deepTo_range h0
  omega
theorem okB_cases {x y s : Int} (h : okB x y s = true) : (x = 1 ∧ In32 y) ∨ (x = 2 ∧ 0 ≤ y ∧ y < s) ∨ (x = 3 ∨ x = 4) ∨ (5 ≤ x ∧ x ≤ 13) := by
  unfold okB at h
  split at h
  · left; exact ⟨by assumption, by simpa [In32] using h⟩
  split at h
  · right; left; exact ⟨by assumption, by simpa using h⟩
  split at h
  · right; right; left; assumption
  · right; right; right; simp at h; exact h.1
end Go.Proofs.YtchemhjcknkbgaaGreatDoor

/- Arguments that came in, opened: numbers, and the shapes of slices. -/
namespace Go.Proofs.YtchemhjcknkbgaaGreatDoor
open Go Go.ChangeShapes Go.WideShapes Go.ChangeAt Go.RowKit Go.Deep Go.PlainAid
set_option linter.unusedVariables false
set_option linter.unusedSimpArgs false

/-- numbers that came in -/
theorem open_nums {H : Type} {enc : TypeId × Value → H} {W : World} {base : Nat} {spare : Nat → Bool} {held : Bool} {fuel : Nat} {a0 : Option Addr} {len0 cap0 : Nat} {x : DataW H × List MemPlace}
    (h : DataW.trod enc Tryz.prog W base spare held fuel 41 (Value.slice a0 len0 cap0).cells.toList = some x) :
    ∃ l, len0 ≤ maxLen ∧ IsInts W.heap.size W a0 len0 l := by
  rcases open_ints Tryz.underlying41 Tryz.underlying3 (by kernel_rfl) h with ⟨hcs, _⟩ | ⟨x, l, c, zs, hcs, _, hl, hm, hz, _, hcell, hwz⟩
  · simp [Value.cells] at hcs
    obtain ⟨rfl, rfl, rfl⟩ := hcs
    exact ⟨[], by simp, rfl, .inl rfl⟩
  · simp [Value.cells] at hcs
    obtain ⟨rfl, rfl, rfl⟩ := hcs
    have hlz : len0 ≤ zs.length := by rw [hz]; split <;> omega
    refine ⟨zs.take len0, Nat.le_trans hl hm, by simp; omega, ?_⟩
    by_cases hz0 : len0 = 0
    · exact .inl hz0
    obtain ⟨b, off, spot⟩ := x
    have hc := hcell 0 (by omega)
    have hspot : spot = none := by simpa [Addr.add] using World.cell?_spot hc
    subst hspot
    refine .inr ⟨b, off, rfl, World.block_lt_of_cell? _ _ hc, fun i hi => ?_⟩
    have g := hcell i (by omega)
    rw [add_plain] at g
    rw [g]
    simp [hi, List.getElem?_take]
section
variable {H : Type} {enc : TypeId × Value → H} {W : World} {base : Nat} {spare : Nat → Bool} {held : Bool}
theorem slice_shape {fuel : Nat} {tS tE : TypeId} {cs : List Value} {x : DataW H × List MemPlace} (hu : Tryz.prog.underlying tS = some (.slice tE))
    (h : DataW.trod enc Tryz.prog W base spare held fuel tS cs = some x) : ∃ a n c, cs = [.slice a n c] := by
  rcases open_slice hu h with ⟨hcs, _⟩ | ⟨a, len, cap, m, nn, D, Pl, hcs, _⟩
  · exact ⟨none, 0, 0, hcs⟩
  · exact ⟨some a, len, cap, hcs⟩
theorem slice_caps {fuel : Nat} {tS tE : TypeId} {a : Option Addr} {n c : Nat} {x : DataW H × List MemPlace} (hu : Tryz.prog.underlying tS = some (.slice tE))
    (h : DataW.trod enc Tryz.prog W base spare held fuel tS [.slice a n c] = some x) : n ≤ c ∧ c ≤ maxLen := by
  rcases open_slice hu h with ⟨hcs, _⟩ | ⟨a', len, cap, m, nn, D, Pl, hcs, hb, hl, hm, _⟩
  · simp at hcs
    obtain ⟨rfl, rfl, rfl⟩ := hcs
    exact ⟨Nat.le_refl _, by unfold maxLen; omega⟩
  · simp at hcs
    obtain ⟨rfl, rfl, rfl⟩ := hcs
    exact ⟨hl, hm⟩
theorem len2 {α : Type} {l : List α} (h : l.length = 2) : ∃ a b, l = [a, b] := by
  match l, h with
  | [a, b], _ => exact ⟨a, b, rfl⟩
theorem len3' {α : Type} {l : List α} (h : l.length = 3) : ∃ a b c, l = [a, b, c] := by
  match l, h with
  | [a, b, c], _ => exact ⟨a, b, c, rfl⟩
theorem len4 {α : Type} {l : List α} (h : l.length = 4) : ∃ a b c d, l = [a, b, c, d] := by
  match l, h with
  | [a, b, c, d], _ => exact ⟨a, b, c, d, rfl⟩
theorem len5 {α : Type} {l : List α} (h : l.length = 5) : ∃ a b c d e, l = [a, b, c, d, e] := by
  match l, h with
  | [a, b, c, d, e], _ => exact ⟨a, b, c, d, e, rfl⟩
theorem cI : Tryz.prog.cellsOf 3 = 1 := by kernel_rfl
end
end Go.Proofs.YtchemhjcknkbgaaGreatDoor
