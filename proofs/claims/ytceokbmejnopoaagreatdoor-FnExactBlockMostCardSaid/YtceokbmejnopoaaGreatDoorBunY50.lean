/- The most that can be told behind a place, in a graph without rings: by recursion, and round by round in place. Plain: no program. -/
import Derived.Test.YtceokbmejnopoaaGreatDoorBunY27
import Derived.Test.YtceokbmejnopoaaGreatDoorBunY34
import Derived.Test.YtceokbmejnopoaaGreatDoorBunY4
import Derived.Test.YtceokbmejnopoaaGreatDoorInstImpl
import Derived.Test.YtceokbmejnopoaaGreatDoorBunY38
import Derived.Test.YtceokbmejnopoaaGreatDoorBunY42
namespace Go.Proofs.YtceokbmejnopoaaGreatDoor
set_option linter.unusedSimpArgs false
set_option linter.unusedVariables false

def maxL (l : List Int) : Int := l.foldl max 0
theorem maxL_snoc (l : List Int) (x : Int) : maxL (l ++ [x]) = max (maxL l) x := by simp [maxL]
theorem maxL_nonneg (l : List Int) : 0 ≤ maxL l := by
  unfold maxL
  have key : ∀ (l : List Int) (a : Int), a ≤ l.foldl max a := by
    intro l
    induction l with
    | nil => intro a; exact Int.le_refl _
    | cons x r ih => intro a; exact Int.le_trans (by omega) (ih (max a x))
  exact key l 0
/-- by recursion, so deep -/
def onF (E : Nat → List Nat) (T : Nat → Int) : Nat → Nat → Int
  | 0, _ => 0
  | k + 1, i => T i + maxL ((E i).map (onF E T k))
theorem onF_more {E : Nat → List Nat} {T : Nat → Int} : ∀ {k i : Nat} (d : Nat), Wk E k i = false → onF E T (k + d) i = onF E T k i
  | 0, i, d, h => by cases h
  | k + 1, i, d, h => by
    have h2 : (E i).any (Wk E k) = false := h
    rw [List.any_eq_false] at h2
    rw [show k + 1 + d = (k + d) + 1 from by omega]
    simp only [onF]
    congr 2
    apply List.map_congr_left
    intro j hj
    exact onF_more d (by have := h2 j hj; simpa using this)
theorem onF_far {E : Nat → List Nat} {T : Nat → Int} {k m i : Nat} (hk : k ≤ m) (h : Wk E k i = false) : onF E T m i = onF E T k i := by
  have := onF_more (T := T) (m - k) h
  rwa [show k + (m - k) = m from by omega] at this

def updF (E : Nat → List Nat) (T : Nat → Int) (fr : List Int) (i : Nat) : List Int := fr.set i (T i + maxL ((E i).map fun j => fr.getD j 0))
def roundF (E : Nat → List Nat) (T : Nat → Int) (fr : List Int) : Nat → List Int
  | 0 => fr
  | i + 1 => updF E T (roundF E T fr i) i
def roundsF (E : Nat → List Nat) (T : Nat → Int) (n : Nat) : Nat → List Int
  | 0 => List.replicate n 0
  | r + 1 => roundF E T (roundsF E T n r) n
theorem roundF_len (E : Nat → List Nat) (T : Nat → Int) (fr : List Int) : ∀ i, (roundF E T fr i).length = fr.length
  | 0 => rfl
  | i + 1 => by unfold roundF updF; rw [List.length_set, roundF_len E T fr i]
theorem roundsF_len (E : Nat → List Nat) (T : Nat → Int) (n : Nat) : ∀ r, (roundsF E T n r).length = n
  | 0 => by simp [roundsF]
  | r + 1 => by unfold roundsF; rw [roundF_len, roundsF_len E T n r]
theorem from_set {l : List Int} {i j : Nat} {v : Int} (hi : i < l.length) : (l.set i v).getD j 0 = if i = j then v else l.getD j 0 := by
  simp only [List.getD_eq_getElem?_getD, List.getElem?_set]
  split
  · rename_i e; subst e; simp [hi]
  · rfl
/-- what has no walk of r edges is right behind r rounds -/
theorem right_round {E : Nat → List Nat} {T : Nat → Int} {n r F : Nat} (hE : ∀ i, i < n → ∀ j ∈ E i, j < n) (hF : r + 1 ≤ F + 1) (hrF : r ≤ F) {fr : List Int} (hl : fr.length = n) (h : ∀ i, i < n → Wk E r i = false → fr.getD i 0 = onF E T F i) :
    ∀ m, m ≤ n → ∀ i, i < n → (if i < m then Wk E (r + 1) i = false ∧ r + 1 ≤ F else Wk E r i = false) → (roundF E T fr m).getD i 0 = onF E T F i
  | 0, _, i, hi, hw => by
    rw [if_neg (by omega)] at hw
    exact h i hi hw
  | m + 1, hm, i, hi, hw => by
    have ih := right_round hE hF hrF hl h m (by omega)
    unfold roundF updF
    rw [from_set (by rw [roundF_len, hl]; omega)]
    split
    · rename_i e
      subst e
      rw [if_pos (by omega)] at hw
      obtain ⟨hw, hrF1⟩ := hw
      have h2 : (E m).any (Wk E r) = false := hw
      rw [List.any_eq_false] at h2
      rw [onF_far hrF1 hw]
      simp only [onF]
      congr 2
      apply List.map_congr_left
      intro j hj
      have hwj : Wk E r j = false := by have := h2 j hj; simpa using this
      rw [← onF_far hrF hwj]
      refine ih j (hE m hi j hj) ?_
      split
      · refine ⟨?_, hrF1⟩
        cases e : Wk E (r + 1) j with
        | false => rfl
        | true => rw [Wk_anti e] at hwj; cases hwj
      · exact hwj
    · rename_i e
      refine ih i hi ?_
      by_cases e2 : i < m
      · rw [if_pos e2]; rw [if_pos (by omega)] at hw; exact hw
      · rw [if_neg e2]; rw [if_neg (by omega)] at hw; exact hw
theorem right_rounds {E : Nat → List Nat} {T : Nat → Int} {n F : Nat} (hE : ∀ i, i < n → ∀ j ∈ E i, j < n) : ∀ r, r ≤ F → ∀ i, i < n → Wk E r i = false → (roundsF E T n r).getD i 0 = onF E T F i
  | 0, _, i, hi, hw => by cases hw
  | r + 1, hr, i, hi, hw => right_round hE (by omega) (by omega) (roundsF_len E T n r) (right_rounds hE r (by omega)) n (Nat.le_refl _) i hi (by rw [if_pos hi]; exact ⟨hw, hr⟩)
/-- as many rounds as places are enough -/
theorem most_rounds {E : Nat → List Nat} {T : Nat → Int} {n : Nat} (hE : ∀ i, i < n → ∀ j ∈ E i, j < n) (hno : ∀ i, i < n → Wk E n i = false) {i : Nat} (hi : i < n) : (roundsF E T n n).getD i 0 = onF E T n i :=
  right_rounds hE n (Nat.le_refl _) i hi (hno i hi)
end Go.Proofs.YtceokbmejnopoaaGreatDoor

/- How often an event can be told at most, as a number: by recursion, and by rounds; bounds. Plain: no program. -/
namespace Go.Proofs.YtceokbmejnopoaaGreatDoor
open Go Go.RowKit Go.PlainAid
set_option linter.unusedSimpArgs false
set_option linter.unusedVariables false

def tellB (out : ByteArray) (a : Ac) : Bool := decide (a.kind = 2) && decide (a.name = out)
/-- how often acts tell an event -/
def timesL (out : ByteArray) (l : List Ac) : Int := (l.countP (tellB out) : Nat)
def TM (x : Bk) (out : ByteArray) (i : Nat) : Int := timesL out (x.states.getD i ⟨noName, [], []⟩).acts
def toIx (x : Bk) (m : Mo) : Nat := (findM (statesM x) m.to).toNat
/-- the most of what some moves lead to -/
def behindM (x : Bk) (g : Nat → Int) (fits : Mo → Bool) (l : List Mo) : Int := maxL ((l.filter fits).map fun m => g (toIx x m))
def noEv (m : Mo) : Bool := empB m.event
def anyMo (_ : Mo) : Bool := true
def onM (x : Bk) (out : ByteArray) (i : Nat) : Int := onF (edgesM x) (TM x out) x.states.length i
def mostM (x : Bk) (out : ByteArray) : Int := maxL (x.states.map fun s => behindM x (onM x out) anyMo s.moves)
def bmM (x : Bk) (out : ByteArray) : Int := if checkM x = 0 then (if 0 ≤ findM (x.outs.map Pt.name) out then mostM x out else -1) else -1
theorem timesL_take (out : ByteArray) (l : List Ac) {k : Nat} (h : k < l.length) : timesL out (l.take (k + 1)) = timesL out (l.take k) + if tellB out l[k] then 1 else 0 := by
  unfold timesL
  rw [List.take_succ_eq_append_getElem h, List.countP_append]
  split <;> simp [*]
theorem timesL_le (out : ByteArray) (l : List Ac) : 0 ≤ timesL out l ∧ timesL out l ≤ l.length := by
  unfold timesL
  have := List.countP_le_length (p := tellB out) (l := l)
  omega
theorem behindM_take (x : Bk) (g : Nat → Int) (fits : Mo → Bool) (l : List Mo) {k : Nat} (h : k < l.length) : behindM x g fits (l.take (k + 1)) = if fits l[k] then max (behindM x g fits (l.take k)) (g (toIx x l[k])) else behindM x g fits (l.take k) := by
  unfold behindM
  rw [List.take_succ_eq_append_getElem h, List.filter_append]
  split
  · rename_i hf
    rw [List.filter_cons_of_pos hf, List.filter_nil, List.map_append, List.map_singleton, maxL_snoc]
  · rename_i hf
    rw [List.filter_cons_of_neg hf, List.filter_nil, List.append_nil]
theorem behindM_nil (x : Bk) (g : Nat → Int) (fits : Mo → Bool) : behindM x g fits [] = 0 := rfl
theorem maxL_le {l : List Int} {N : Int} (hN : 0 ≤ N) (h : ∀ y ∈ l, y ≤ N) : maxL l ≤ N := by
  unfold maxL
  have key : ∀ (l : List Int) (a : Int), a ≤ N → (∀ y ∈ l, y ≤ N) → l.foldl max a ≤ N := by
    intro l
    induction l with
    | nil => intro a ha _; exact ha
    | cons y r ih => intro a ha hh; exact ih (max a y) (by have := hh y (by simp); omega) (fun z hz => hh z (by simp [hz]))
  exact key l 0 hN h
theorem behindM_bound (x : Bk) {g : Nat → Int} {fits : Mo → Bool} {l : List Mo} {N : Int} (hN : 0 ≤ N) (h : ∀ i, g i ≤ N) : 0 ≤ behindM x g fits l ∧ behindM x g fits l ≤ N :=
  ⟨maxL_nonneg _, maxL_le hN fun y hy => by obtain ⟨m, _, rfl⟩ := List.mem_map.1 hy; exact h _⟩
theorem behind_edges (x : Bk) (g : Nat → Int) {i : Nat} (hi : i < x.states.length) : behindM x g noEv x.states[i].moves = maxL ((edgesM x i).map g) := by
  have e : x.states.getD i ⟨noName, [], []⟩ = x.states[i] := by simp [hi]
  unfold behindM edgesM
  rw [e, List.map_map]
  rfl
theorem onF_succ (x : Bk) (out : ByteArray) (f : Nat) {i : Nat} (hi : i < x.states.length) : onF (edgesM x) (TM x out) (f + 1) i = timesL out x.states[i].acts + behindM x (onF (edgesM x) (TM x out) f) noEv x.states[i].moves := by
  rw [behind_edges x _ hi]
  show TM x out i + _ = _
  unfold TM
  rw [show x.states.getD i ⟨noName, [], []⟩ = x.states[i] from by simp [hi]]
theorem onF_bound (x : Bk) (out : ByteArray) {A : Nat} (hA : ∀ s ∈ x.states, s.acts.length ≤ A) : ∀ f i, 0 ≤ onF (edgesM x) (TM x out) f i ∧ onF (edgesM x) (TM x out) f i ≤ A * f := by
  have hT : ∀ i, 0 ≤ TM x out i ∧ TM x out i ≤ A := fun i => by
    have h1 := timesL_le out (x.states.getD i ⟨noName, [], []⟩).acts
    refine ⟨h1.1, Int.le_trans h1.2 ?_⟩
    by_cases h : i < x.states.length
    · rw [show x.states.getD i ⟨noName, [], []⟩ = x.states[i] from by simp [h]]
      have := hA _ (List.getElem_mem h)
      omega
    · rw [show x.states.getD i ⟨noName, [], []⟩ = ⟨noName, [], []⟩ from by simp [List.getD_eq_getElem?_getD, show x.states[i]? = none from by simp; omega]]
      simp
  intro f
  induction f with
  | zero => intro i; exact ⟨Int.le_refl _, by show (0 : Int) ≤ _; simp⟩
  | succ f ih =>
    intro i
    show 0 ≤ TM x out i + maxL ((edgesM x i).map (onF (edgesM x) (TM x out) f)) ∧ TM x out i + maxL ((edgesM x i).map (onF (edgesM x) (TM x out) f)) ≤ _
    have h1 := maxL_nonneg ((edgesM x i).map (onF (edgesM x) (TM x out) f))
    have h2 : maxL ((edgesM x i).map (onF (edgesM x) (TM x out) f)) ≤ A * f := maxL_le (by have := (ih 0).1; have := (ih 0).2; omega) fun y hy => by
      obtain ⟨j, _, rfl⟩ := List.mem_map.1 hy
      exact (ih j).2
    have h3 := hT i
    have e : (A : Int) * ((f + 1 : Nat) : Int) = A * f + A := by push_cast; rw [Int.mul_add, Int.mul_one]
    omega
/-- of a block that is ok nothing goes on and on -/
theorem check_walk {x : Bk} (h : checkM x = 0) : ∀ i, i < x.states.length → Wk (edgesM x) x.states.length i = false := by
  have hs : firstC (stateM x (namesM x)) x.states = 0 ∧ ringM x = false := by
    unfold checkM at h
    split at h
    · cases h
    · split at h
      · cases h
      · split at h
        · rename_i h1
          split at h
          · cases h
          · rename_i h2
            exact ⟨h1, by simpa using h2⟩
        · contradiction
  intro i hi
  rw [Wk_on (edges_lt hs.1) i hi]
  have := hs.2
  unfold ringM at this
  rw [List.any_eq_false] at this
  have := this i (List.mem_range.2 hi)
  simpa using this
theorem check_states {x : Bk} (h : checkM x = 0) : firstC (stateM x (namesM x)) x.states = 0 := by
  unfold checkM at h
  split at h
  · cases h
  · split at h
    · cases h
    · split at h
      · assumption
      · contradiction
theorem onF_on {x : Bk} {out : ByteArray} (h : checkM x = 0) {i f : Nat} (hi : i < x.states.length) (hf : x.states.length ≤ f) : onF (edgesM x) (TM x out) f i = onM x out i :=
  onF_far hf (check_walk h i hi)
/-- rounds come to the same -/
theorem rounds_on {x : Bk} {out : ByteArray} (h : checkM x = 0) {i : Nat} (hi : i < x.states.length) : (roundsF (edgesM x) (TM x out) x.states.length x.states.length).getD i 0 = onM x out i :=
  most_rounds (edges_lt (check_states h)) (check_walk h) hi
/-- what a list of rounds has at most -/
def Upto (N : Int) (l : List Int) : Prop := ∀ i, 0 ≤ l.getD i 0 ∧ l.getD i 0 ≤ N
theorem updF_eq (x : Bk) (out : ByteArray) (fr : List Int) {i : Nat} (hi : i < x.states.length) : updF (edgesM x) (TM x out) fr i = fr.set i (timesL out x.states[i].acts + behindM x (fun j => fr.getD j 0) noEv x.states[i].moves) := by
  rw [behind_edges x _ hi]
  unfold updF TM
  rw [show x.states.getD i ⟨noName, [], []⟩ = x.states[i] from by simp [hi]]
theorem Upto.upd {x : Bk} {out : ByteArray} {fr : List Int} {N : Int} {A : Nat} (hN : 0 ≤ N) (h : Upto N fr) {i : Nat} (hi : i < x.states.length) (hfl : fr.length = x.states.length) (hA : x.states[i].acts.length ≤ A) : Upto (N + A) (updF (edgesM x) (TM x out) fr i) := by
  rw [updF_eq x out fr hi]
  intro j
  rw [from_set (by omega)]
  split
  · have h1 := timesL_le out x.states[i].acts
    have h2 := behindM_bound (x := x) (fits := noEv) (l := x.states[i].moves) hN (fun j => (h j).2)
    omega
  · have := h j
    omega
theorem mostM_eq {x : Bk} {out : ByteArray} (h : checkM x = 0) (hok : ∀ s ∈ x.states, ∀ m ∈ s.moves, toIx x m < x.states.length) : mostM x out = maxL (x.states.map fun s => behindM x (fun j => (roundsF (edgesM x) (TM x out) x.states.length x.states.length).getD j 0) anyMo s.moves) := by
  unfold mostM
  congr 1
  apply List.map_congr_left
  intro s hs
  unfold behindM
  congr 1
  apply List.map_congr_left
  intro m hm
  exact (rounds_on h (hok s hs m (List.mem_filter.1 hm).1)).symm
end Go.Proofs.YtceokbmejnopoaaGreatDoor

/- How often the acts of a state tell an event. -/
namespace Go.Proofs.YtceokbmejnopoaaGreatDoor
open Go Go.RowKit Go.PlainAid
set_option linter.unusedSimpArgs false
set_option linter.unusedVariables false

set_option maxHeartbeats 1600000 in
set_option maxRecDepth 100000 in
theorem l3Tells_any (B : Nat) (s : St) (ma : Option Addr) (mn mc : Nat) (ra : Option Addr) (rn rc : Nat) (out : ByteArray) (w : World) (hB : B ≤ w.heap.size) (hn : rn ≤ 1048576) (hz : IsArr 3 QAc B w ra rn s.acts) :
    Calls Tryz.prog 148 #[.agg #[.string s.name, .slice ma mn mc, .slice ra rn rc], .string out] w fun e w' => e = .returned (.int .i64 (timesL out s.acts)) ∧ Below w.heap.size w w' := by
  have hlen := hz.1
  have HZ : Hid (∀ W, Below w.heap.size w W → IsArr 3 QAc B W ra rn s.acts) := fun W hb => hz.below (QAc.lift (hb.mono hB)) (hb.mono hB)
  obtain ⟨sn, hsn⟩ : ∃ n, s.name = n := ⟨_, rfl⟩
  obtain ⟨al, hal⟩ : ∃ l, s.acts = l := ⟨_, rfl⟩
  rw [hal] at hlen HZ ⊢
  rw [hsn]
  clear hz hsn hal
  have BX0 := hidOf (boxAt_new w [.string sn, .slice ma mn mc, .slice ra rn rc] 109)
  have HL := hidOf hlen
  go_enter Tryz.func148, Tryz.ntmps148
  go_wp2_with fail
  go_loopw [5, 6] (fun t i wr => ∃ k : Nat, k ≤ rn ∧ i = .int .i64 k ∧ t = .int .i64 (timesL out (al.take k)) ∧ Hid (BoxAt w.heap.size [.string sn, .slice ma mn mc, .slice ra rn rc] wr) ∧ Below w.heap.size w wr) (fun _ i _ => rn - (intOf i).toNat)
  case atStart => exact ⟨0, Nat.zero_le _, rfl, rfl, BX0, (Below.refl _ _).alloc (Nat.le_refl _) _⟩
  case round =>
    obtain ⟨k, hk, rfl, rfl, HX, hbel⟩ := hrel
    have c0 : wr.cell? ⟨w.heap.size, 0, none⟩ = some (.string sn) := (HX.out.2 0 _ rfl).1
    have c1 : wr.cell? ⟨w.heap.size, 1, none⟩ = some (.slice ma mn mc) := (HX.out.2 1 _ rfl).1
    have c2 : wr.cell? ⟨w.heap.size, 2, none⟩ = some (.slice ra rn rc) := (HX.out.2 2 _ rfl).1
    have sx : w.heap.size < wr.heap.size := HX.out.1
    by_cases hlt : k < rn
    · have hkl : k < al.length := by have h1 : al.length = rn := HL.out; omega
      obtain ⟨b, off, cs, rfl, hb, hq, hcell⟩ := IsArr.at (HZ.out wr hbel) hlt hkl
      have hbr : b < wr.heap.size := by omega
      have HT := hidOf (timesL_take out al hkl)
      have hb0 := timesL_le out (al.take k)
      have hb1 : (al.take k).length ≤ rn := by simp; omega
      obtain ⟨y, hy⟩ : ∃ y, al[k] = y := ⟨_, rfl⟩
      rw [hy] at hq HT
      obtain ⟨t, ht⟩ : ∃ t, timesL out (al.take k) = t := ⟨_, rfl⟩
      rw [ht] at HT hb0 ⊢
      have ht0 : 0 ≤ t := hb0.1
      have ht1 : t ≤ 1048576 := by omega
      obtain ⟨y0, y1, y2⟩ := y
      have hq' : cs = [.int .i64 y0, .string y1, .string y2] := hq
      subst hq'
      have e0 : wr.cell? ⟨b, off + k * 3, none⟩ = some (.int .i64 y0) := hcell 0 _ rfl
      have e1 : wr.cell? ⟨b, off + k * 3 + 1, none⟩ = some (.string y1) := hcell 1 _ rfl
      have e2 : wr.cell? ⟨b, off + k * 3 + 1 + 1, none⟩ = some (.string y2) := hcell 2 _ rfl
      have hwt : IntKind.i64.wrap (t + 1) = t + 1 := by rw [IntKind.wrap_i64]; omega
      clear hcell hq hy ht hb0 hb1
      by_cases h2 : y0 = 2
      · subst h2
        by_cases h3 : y1 = out
        · subst h3
          go_wp2_with fail
          go_roundw
          case rel => exact ⟨k + 1, by omega, by go_num, by rw [HT.out]; unfold tellB; simp, HX, hbel⟩
          case measure => simp [intOf]; omega
        · have hl := list_ne h3
          go_wp2_with fail
          go_roundw
          case rel => exact ⟨k + 1, by omega, by go_num, by rw [HT.out]; unfold tellB; simp [h3], HX, hbel⟩
          case measure => simp [intOf]; omega
      · have h2' : (y0 == 2) = false := by simp [h2]
        go_wp2_with fail
        go_roundw
        case rel => exact ⟨k + 1, by omega, by go_num, by rw [HT.out]; unfold tellB; simp [h2], HX, hbel⟩
        case measure => simp [intOf]; omega
    · have hkn : k = rn := by omega
      have HE : Hid (al.take k = al) := List.take_of_length_le (by have h1 : al.length = rn := HL.out; omega)
      clear hkn
      go_wp2_with fail
      go_ret
      exact ⟨ret_int (by rw [HE.out]), hbel⟩

set_option maxHeartbeats 1600000 in
set_option maxRecDepth 100000 in
theorem timesTold_any (B : Nat) (s : St) (ma : Option Addr) (mn mc : Nat) (ra : Option Addr) (rn rc : Nat) (out : ByteArray) (w : World) (hB : B ≤ w.heap.size) (hn : rn ≤ 1048576) (hz : IsArr 3 QAc B w ra rn s.acts) :
    Calls Tryz.prog 105 #[.agg #[.string s.name, .slice ma mn mc, .slice ra rn rc], .string out] w fun e w' => e = .returned (.int .i64 (timesL out s.acts)) ∧ Below w.heap.size w w' := by
  have hlen := hz.1
  have HZ : Hid (∀ W, Below w.heap.size w W → IsArr 3 QAc B W ra rn s.acts) := fun W hb => hz.below (QAc.lift (hb.mono hB)) (hb.mono hB)
  obtain ⟨sn, hsn⟩ : ∃ n, s.name = n := ⟨_, rfl⟩
  obtain ⟨al, hal⟩ : ∃ l, s.acts = l := ⟨_, rfl⟩
  rw [hal] at hlen HZ ⊢
  rw [hsn]
  clear hz hsn hal
  have BX0 := hidOf (boxAt_new w [.string sn, .slice ma mn mc, .slice ra rn rc] 109)
  have HL := hidOf hlen
  go_enter Tryz.func105, Tryz.ntmps105
  go_wp2_with fail
  go_loopw [5, 11] (fun t i wr => ∃ k : Nat, k ≤ rn ∧ i = .int .i64 k ∧ t = .int .i64 (timesL out (al.take k)) ∧ Hid (BoxAt w.heap.size [.string sn, .slice ma mn mc, .slice ra rn rc] wr) ∧ Below w.heap.size w wr) (fun _ i _ => rn - (intOf i).toNat)
  case atStart => exact ⟨0, Nat.zero_le _, rfl, rfl, BX0, (Below.refl _ _).alloc (Nat.le_refl _) _⟩
  case round =>
    obtain ⟨k, hk, rfl, rfl, HX, hbel⟩ := hrel
    have c0 : wr.cell? ⟨w.heap.size, 0, none⟩ = some (.string sn) := (HX.out.2 0 _ rfl).1
    have c1 : wr.cell? ⟨w.heap.size, 1, none⟩ = some (.slice ma mn mc) := (HX.out.2 1 _ rfl).1
    have c2 : wr.cell? ⟨w.heap.size, 2, none⟩ = some (.slice ra rn rc) := (HX.out.2 2 _ rfl).1
    have sx : w.heap.size < wr.heap.size := HX.out.1
    by_cases hlt : k < rn
    · have hkl : k < al.length := by have h1 : al.length = rn := HL.out; omega
      obtain ⟨b, off, cs, rfl, hb, hq, hcell⟩ := IsArr.at (HZ.out wr hbel) hlt hkl
      have hbr : b < wr.heap.size := by omega
      have HT := hidOf (timesL_take out al hkl)
      have hb0 := timesL_le out (al.take k)
      have hb1 : (al.take k).length ≤ rn := by simp; omega
      obtain ⟨y, hy⟩ : ∃ y, al[k] = y := ⟨_, rfl⟩
      rw [hy] at hq HT
      obtain ⟨t, ht⟩ : ∃ t, timesL out (al.take k) = t := ⟨_, rfl⟩
      rw [ht] at HT hb0 ⊢
      have ht0 : 0 ≤ t := hb0.1
      have ht1 : t ≤ 1048576 := by omega
      obtain ⟨y0, y1, y2⟩ := y
      have hq' : cs = [.int .i64 y0, .string y1, .string y2] := hq
      subst hq'
      have e0 : wr.cell? ⟨b, off + k * 3, none⟩ = some (.int .i64 y0) := hcell 0 _ rfl
      have e1 : wr.cell? ⟨b, off + k * 3 + 1, none⟩ = some (.string y1) := hcell 1 _ rfl
      have e2 : wr.cell? ⟨b, off + k * 3 + 1 + 1, none⟩ = some (.string y2) := hcell 2 _ rfl
      have hwt : IntKind.i64.wrap (t + 1) = t + 1 := by rw [IntKind.wrap_i64]; omega
      clear hcell hq hy ht hb0 hb1
      by_cases h2 : y0 = 2
      · subst h2
        by_cases h3 : y1 = out
        · subst h3
          go_wp2_with fail
          go_roundw
          case rel => exact ⟨k + 1, by omega, by go_num, by rw [HT.out]; unfold tellB; simp, HX.out.below ((Below.refl _ _).alloc (Nat.le_refl _) _), (hbel.alloc hbel.size _)⟩
          case measure => simp [intOf]; omega
        · have hl := list_ne h3
          go_wp2_with fail
          go_roundw
          case rel => exact ⟨k + 1, by omega, by go_num, by rw [HT.out]; unfold tellB; simp [h3], HX.out.below ((Below.refl _ _).alloc (Nat.le_refl _) _), (hbel.alloc hbel.size _)⟩
          case measure => simp [intOf]; omega
      · have h2' : (y0 == 2) = false := by simp [h2]
        go_wp2_with fail
        go_roundw
        case rel => exact ⟨k + 1, by omega, by go_num, by rw [HT.out]; unfold tellB; simp [h2], HX.out.below ((Below.refl _ _).alloc (Nat.le_refl _) _), (hbel.alloc hbel.size _)⟩
        case measure => simp [intOf]; omega
    · have hkn : k = rn := by omega
      have HE : Hid (al.take k = al) := List.take_of_length_le (by have h1 : al.length = rn := HL.out; omega)
      clear hkn
      go_wp2_with fail
      go_ret
      exact ⟨ret_int (by rw [HE.out]), hbel⟩
end Go.Proofs.YtceokbmejnopoaaGreatDoor

/- The model's BlockMost: how often an event can be told at most. -/
namespace Go.Proofs.YtceokbmejnopoaaGreatDoor
open Go Go.RowKit Go.PlainAid
set_option linter.unusedSimpArgs false
set_option linter.unusedVariables false

theorem wk_edge {x : Bk} {f i : Nat} (hi : i < x.states.length) (h : Wk (edgesM x) (f + 1) i = false) : ∀ m ∈ x.states[i].moves, empB m.event = true → Wk (edgesM x) f (toIx x m) = false := by
  rw [wk_moves x f i hi, List.any_eq_false] at h
  intro m hm he
  have := h m hm
  rw [he] at this
  unfold toIx
  simpa using this

set_option maxHeartbeats 3200000 in
set_option maxRecDepth 100000 in
theorem l3On_any (B : Nat) (v : BkV) (x : Bk) (out : ByteArray) (hwt : wtBk x ≤ 1048576) (hok : ∀ s ∈ x.states, ∀ m ∈ s.moves, 0 ≤ findM (statesM x) m.to) (ha : ∀ s ∈ x.states, s.acts.length ≤ 1048576) :
    ∀ (f place : Nat) (w : World), f ≤ 1048576 → Wk (edgesM x) f place = false → place < x.states.length → B ≤ w.heap.size → IsBk B w v x →
    Calls Tryz.prog 101 #[v.val x.name, .int .i64 place, .string out] w fun e w' => e = .returned (.int .i64 (onF (edgesM x) (TM x out) f place)) ∧ Below w.heap.size w w' := by
  obtain ⟨p0, p1, p2, p3, p4, p5, p6, p7, p8, p9⟩ := wtBk_parts hwt
  have htl : (statesM x).length = x.states.length := by simp [statesM]
  have hss := states_small p8
  have hbd := onF_bound x out ha
  have hml : ∀ s ∈ x.states, s.moves.length ≤ 1048576 := fun s hs => by have h := state_size p8 s hs; unfold wtSt at h; omega
  intro f
  induction f with
  | zero =>
    intro place w _ hw
    cases hw
  | succ f ih =>
    intro place w hf hwk hp hB hx
    have lt := hx.states.1
    have HX := hidOf hx
    have HWE := hidOf (wk_edge hp hwk)
    have IH : Hid (∀ j W, j < x.states.length → Wk (edgesM x) f j = false → Below w.heap.size w W → Calls Tryz.prog 101 #[v.val x.name, .int .i64 (j : Nat), .string out] W fun e w' => e = .returned (.int .i64 (onF (edgesM x) (TM x out) f j)) ∧ Below W.heap.size W w') := fun j W hj hwj hb => ih j W (by omega) hwj hj (by have := hb.size; omega) (HX.out.below (hb.mono hB))
    have HS : Hid (∀ W, Below w.heap.size w W → Calls Tryz.prog 102 #[v.val x.name] W fun e w' => ∃ u, e = .returned u ∧ OwnS W.heap.size w' u (statesM x) ∧ Below W.heap.size W w') := fun W hb => l3States_any B v x W (by have := hb.size; omega) (by omega) (HX.out.below (hb.mono hB))
    obtain ⟨sb, soff, cs, eat, hsb, hq, hcell⟩ := IsArr.at hx.states (k := place) (by omega) hp
    obtain ⟨ma, mn, mc, ra, rn, rc, rfl, q1, q2, q3, q4, q5, q6⟩ := hq
    have lm := q5.1
    have hmm := hml x.states[place] (List.getElem_mem hp)
    have haa := ha x.states[place] (List.getElem_mem hp)
    have la := q6.1
    have HQ := hidOf q5
    have s0 : w.cell? ⟨sb, soff + place * 3, none⟩ = some (.string x.states[place].name) := hcell 0 _ rfl
    have s1 : w.cell? ⟨sb, soff + place * 3 + 1, none⟩ = some (.slice ma mn mc) := hcell 1 _ rfl
    have s2 : w.cell? ⟨sb, soff + place * 3 + 1 + 1, none⟩ = some (.slice ra rn rc) := hcell 2 _ rfl
    have HTE : Hid (∀ W, Below w.heap.size w W → Calls Tryz.prog 148 #[.agg #[.string x.states[place].name, .slice ma mn mc, .slice ra rn rc], .string out] W fun e w' => e = .returned (.int .i64 (timesL out x.states[place].acts)) ∧ Below W.heap.size W w') := fun W hb => l3Tells_any B x.states[place] ma mn mc ra rn rc out W (by have := hb.size; omega) (by omega) (q6.below (QAc.lift (hb.mono hB)) (hb.mono hB))
    have HOK : Hid (∀ m ∈ x.states[place].moves, 0 ≤ findM (statesM x) m.to ∧ m.to.size ≤ 1048576) := fun m hm => by
      have hs := List.getElem_mem hp
      have h1 := wsum_mem (f := wtSt) hs
      have h2 := wsum_mem (f := wtMo) hm
      have h3 : wsum wtMo x.states[place].moves ≤ wtSt x.states[place] := by unfold wtSt; omega
      have h4 : m.to.size ≤ wtMo m := by unfold wtMo; omega
      exact ⟨hok _ hs m hm, by omega⟩
    have HFS : Hid (∀ m ∈ x.states[place].moves, ∀ (B : Nat) (W : World) (a : Option Addr) (n c : Nat), OwnS B W (.slice a n c) (statesM x) → Calls Tryz.prog 53 #[.slice a n c, .string m.to] W fun e w' => e = .returned (.int .i64 (findM (statesM x) m.to)) ∧ w' = W) := fun m hm => findOwn_any (statesM x) m.to (by omega) hss (HOK.out m hm).2
    have hfl := hidOf (fun m => findM_lt (statesM x) m)
    have HR := hidOf (onF_succ x out f hp)
    have hT := timesL_le out x.states[place].acts
    have HBB := hidOf (fun (l : List Mo) => behindM_bound (x := x) (g := onF (edgesM x) (TM x out) f) (fits := noEv) (l := l) (N := (1048576 * f : Nat)) (by omega) (fun i => (hbd f i).2))
    have HBT := hidOf (fun (k : Nat) (hk : k < x.states[place].moves.length) => behindM_take x (onF (edgesM x) (TM x out) f) noEv x.states[place].moves hk)
    have hff : (1048576 * f : Nat) ≤ 1099511627776 := by have := Nat.mul_le_mul_left 1048576 (show f ≤ 1048576 by omega); omega
    obtain ⟨NF, hNF⟩ : ∃ NF, 1048576 * f = NF := ⟨_, rfl⟩
    rw [hNF] at HBB hff
    have HON := hidOf (fun i => hbd f i)
    obtain ⟨ON, hON⟩ : ∃ g, onF (edgesM x) (TM x out) f = g := ⟨_, rfl⟩
    have IH2 : Hid (∀ j W, j < x.states.length → Wk (edgesM x) f j = false → Below w.heap.size w W → Calls Tryz.prog 101 #[v.val x.name, .int .i64 (j : Nat), .string out] W fun e w' => e = .returned (.int .i64 (ON j)) ∧ Below W.heap.size W w') := fun j W h1 h2 h3 => by rw [← hON]; exact IH.out j W h1 h2 h3
    rw [hON] at HR HBB HBT HON
    obtain ⟨R, hR⟩ : ∃ R, onF (edgesM x) (TM x out) (f + 1) place = R := ⟨_, rfl⟩
    rw [hR] at HR ⊢
    obtain ⟨ml, hmls⟩ : ∃ l, x.states[place].moves = l := ⟨_, rfl⟩
    obtain ⟨TL, hTL⟩ : ∃ t, timesL out x.states[place].acts = t := ⟨_, rfl⟩
    obtain ⟨sn, hsn⟩ : ∃ n, x.states[place].name = n := ⟨_, rfl⟩
    rw [hmls] at lm hmm HQ HOK HFS HR HBT HWE
    rw [hTL] at HR hT HTE
    rw [hsn] at s0 HTE
    have hTb : TL ≤ 1048576 := by omega
    have hT0 : 0 ≤ TL := hT.1
    clear hR hmls hTL hsn hx hcell q5 q6 ih hok hml hss hbd hT hNF hON IH
    obtain ⟨ai, ni, ci, ao, no, co, av, nv, cv, at_, nt, ct⟩ := v
    obtain ⟨xn, hxn⟩ : ∃ n, x.name = n := ⟨_, rfl⟩
    simp only [BkV.val] at HS IH2 lt eat ⊢
    subst eat
    rw [hxn] at HS IH2 ⊢
    clear hxn
    have HTL := hidOf htl
    have HLT := hidOf lt
    have hpn : (place : Int) < (nt : Int) := by omega
    have hpn' : place < nt := by omega
    clear htl lt hwk haa la
    have HB0 : Hid (Below w.heap.size w (w.alloc (.cells #[.string xn, .slice ai ni ci, .slice ao no co, .slice av nv cv, .slice (some ⟨sb, soff, none⟩) nt ct] 34))) := (Below.refl _ _).alloc (Nat.le_refl _) _
    have BX0 := hidOf (boxAt_new w [.string xn, .slice ai ni ci, .slice ao no co, .slice av nv cv, .slice (some ⟨sb, soff, none⟩) nt ct] 34)
    have hsb0 : sb < w.heap.size := by omega
    go_enter Tryz.func101, Tryz.ntmps101
    go_wp2_with fail
    obtain ⟨W0, hW0⟩ : ∃ W0, (w.alloc (.cells #[.string xn, .slice ai ni ci, .slice ao no co, .slice av nv cv, .slice (some ⟨sb, soff, none⟩) nt ct] 34)) = W0 := ⟨_, rfl⟩
    rw [hW0] at HB0 ⊢
    have BX1 : Hid (BoxAt w.heap.size [.string xn, .slice ai ni ci, .slice ao no co, .slice av nv cv, .slice (some ⟨sb, soff, none⟩) nt ct] W0) := by show BoxAt _ _ W0; rw [← hW0]; exact BX0.out
    clear hW0 BX0
    go_loopw [7, 8] (fun t i wr => ∃ k : Nat, k ≤ mn ∧ i = .int .i64 k ∧ t = .int .i64 (behindM x ON noEv (ml.take k)) ∧ Below W0.heap.size W0 wr) (fun _ i _ => mn - (intOf i).toNat)
    case atStart => exact ⟨0, Nat.zero_le _, rfl, rfl, Below.refl _ _⟩
    case round =>
      obtain ⟨k, hk, rfl, rfl, hbel⟩ := hrel
      have HBw : Hid (Below w.heap.size w wr) := HB0.out.trans (hbel.mono HB0.out.size)
      have BX := hidOf (BX1.out.below hbel)
      have c0 : wr.cell? ⟨w.heap.size, 0, none⟩ = some (.string xn) := (BX.out.2 0 _ rfl).1
      have c1 : wr.cell? ⟨w.heap.size, 1, none⟩ = some (.slice ai ni ci) := (BX.out.2 1 _ rfl).1
      have c2 : wr.cell? ⟨w.heap.size, 2, none⟩ = some (.slice ao no co) := (BX.out.2 2 _ rfl).1
      have c3 : wr.cell? ⟨w.heap.size, 3, none⟩ = some (.slice av nv cv) := (BX.out.2 3 _ rfl).1
      have c4 : wr.cell? ⟨w.heap.size, 4, none⟩ = some (.slice (some ⟨sb, soff, none⟩) nt ct) := (BX.out.2 4 _ rfl).1
      have sx : w.heap.size < wr.heap.size := BX.out.1
      have t0 : wr.cell? ⟨sb, soff + place * 3, none⟩ = some (.string sn) := (HBw.out.cell (p := ⟨sb, soff + place * 3, none⟩) hsb0).trans s0
      have t1 : wr.cell? ⟨sb, soff + place * 3 + 1, none⟩ = some (.slice ma mn mc) := (HBw.out.cell (p := ⟨sb, soff + place * 3 + 1, none⟩) hsb0).trans s1
      have t2 : wr.cell? ⟨sb, soff + place * 3 + 1 + 1, none⟩ = some (.slice ra rn rc) := (HBw.out.cell (p := ⟨sb, soff + place * 3 + 1 + 1, none⟩) hsb0).trans s2
      have hsr : sb < wr.heap.size := by have := HBw.out.size; omega
      have hbk := HBB.out (ml.take k)
      by_cases hlt : k < mn
      · obtain ⟨b, off, cs, eab, hb, hq, hcell⟩ := IsArr.at (HQ.out.below (QMo.lift (HBw.out.mono hB)) (HBw.out.mono hB)) hlt (show k < ml.length by omega)
        have hbr : b < wr.heap.size := by have := HBw.out.size; omega
        have hmem : ml[k]'(by omega) ∈ ml := List.getElem_mem _
        have HT := hidOf (HBT.out k (by omega))
        obtain ⟨y, hy⟩ : ∃ y, ml[k]'(by omega) = y := ⟨_, rfl⟩
        rw [hy] at hq hmem HT
        obtain ⟨F, hF⟩ : ∃ F : Nat, findM (statesM x) y.to = F := ⟨(findM (statesM x) y.to).toNat, by have := (HOK.out y hmem).1; omega⟩
        have hFl : F < x.states.length := by have := (hfl.out y.to).2; have := HTL.out; omega
        have hix : toIx x y = F := by unfold toIx; rw [hF]; simp
        have HFY := hidOf (HFS.out y hmem)
        have hwy := HWE.out y hmem
        rw [hF] at HFY
        rw [hix] at HT hwy
        have hFb := HON.out F
        obtain ⟨P, hP⟩ : ∃ P, ON F = P := ⟨_, rfl⟩
        have IHY := hidOf (fun W hw hb => IH2.out F W hFl hw hb)
        rw [hP] at IHY HT
        obtain ⟨C, hC⟩ : ∃ C, behindM x ON noEv (ml.take k) = C := ⟨_, rfl⟩
        rw [hC] at HT hbk ⊢
        obtain ⟨E, hE⟩ : ∃ E, empB y.event = E := ⟨_, rfl⟩
        have hE2 : y.event.toList.isEmpty = E := hE
        have HT2 : Hid (behindM x ON noEv (ml.take (k + 1)) = if E then max C P else C) := by show _ = _; rw [HT.out]; unfold noEv; rw [hE]
        have HWY : Hid (E = true → Wk (edgesM x) f F = false) := fun h => hwy (by rw [hE]; exact h)
        clear hy hF hP hE hmem hFl hix hwy hC HT hFb
        obtain ⟨y0, y1, y2⟩ := y
        unfold QMo at hq
        subst hq
        have e0 : wr.cell? ⟨b, off + k * 3, none⟩ = some (.string y0) := hcell 0 _ rfl
        have e1 : wr.cell? ⟨b, off + k * 3 + 1, none⟩ = some (.string y1) := hcell 1 _ rfl
        have e2 : wr.cell? ⟨b, off + k * 3 + 1 + 1, none⟩ = some (.string y2) := hcell 2 _ rfl
        simp only at HFY hE2
        clear hcell
        subst eab
        have HBm : Hid (Below w.heap.size w (wr.alloc (.cells #[.string y0, .string y1, .string y2] 132))) := HBw.out.alloc HBw.out.size _
        have hbm : Below wr.heap.size wr (wr.alloc (.cells #[.string y0, .string y1, .string y2] 132)) := (Below.refl _ _).alloc (Nat.le_refl _) _
        have HBn := hidOf hbm
        clear hbm
        cases E with
        | false =>
          go_wp2_with fail
          go_roundw
          case rel => exact ⟨k + 1, by omega, by go_num, by rw [HT2.out]; rfl, hbel.trans (HBn.out.mono hbel.size)⟩
          case measure => simp [intOf]; omega
        | true =>
          have HWT := hidOf (HWY.out rfl)
          clear HWY
          go_wp2_with fail
          go_region_held3 (fun w' => w'.cell? ⟨w.heap.size, 0, none⟩ = some (.string xn) ∧ w'.cell? ⟨w.heap.size, 1, none⟩ = some (.slice ai ni ci) ∧ w'.cell? ⟨w.heap.size, 2, none⟩ = some (.slice ao no co) ∧ w'.cell? ⟨w.heap.size, 3, none⟩ = some (.slice av nv cv) ∧ w'.cell? ⟨w.heap.size, 4, none⟩ = some (.slice (some ⟨sb, soff, none⟩) nt ct) ∧ w'.cell? ⟨wr.heap.size, 0, none⟩ = some (.string y0) ∧ w'.cell? ⟨wr.heap.size, 1, none⟩ = some (.string y1) ∧ w'.cell? ⟨wr.heap.size, 2, none⟩ = some (.string y2)) (simp [go_sem, *])
            (first
             | (go_at_call 102; refine (HS.out _ (by first | exact HBm.out | exact below_drew1 HBm.out | exact drewN HBm.out _)).mono ?_; rintro e w3 ⟨u3, rfl, o3, b3⟩; obtain ⟨a3, c3', e3, _⟩ := o3.form; subst e3; have HB3 : Hid (Below wr.heap.size wr w3) := HBn.out.trans ((undrew b3).mono HBn.out.size); have hs3 : wr.heap.size < w3.heap.size := (by have := b3.size; simp at this; omega); have ht3 : w.heap.size < w3.heap.size := (by omega); have HO3 := hidOf o3; obtain ⟨hc3, hf3⟩ := bcell (undrew b3); clear o3 b3 hf3)
             | (go_at_call 53; refine (HFY.out _ _ _ _ _ HO3.out).mono ?_; rintro e w' ⟨rfl, hw'⟩; rw [hw']; clear hw' w')
             | (go_at_call 101; refine (IHY.out _ HWT.out (HBw.out.trans (HB3.out.mono HBw.out.size))).mono ?_; rintro e w4 ⟨rfl, b4⟩; have HB4 : Hid (Below wr.heap.size wr w4) := HB3.out.trans (b4.mono HB3.out.size); obtain ⟨hc4, hf4⟩ := bcell b4; clear b4 hf4))
          by_cases hcp : C < P
          · go_wp2_with fail
            go_roundw
            case rel => exact ⟨k + 1, by omega, by go_num, by rw [HT2.out, if_pos trivial, show max C P = P from by omega], hbel.trans (HB4.out.mono hbel.size)⟩
            case measure => simp [intOf]; omega
          · go_wp2_with fail
            go_roundw
            case rel => exact ⟨k + 1, by omega, by go_num, by rw [HT2.out, if_pos trivial, show max C P = C from by omega], hbel.trans (HB4.out.mono hbel.size)⟩
            case measure => simp [intOf]; omega
      · have hkm : k = mn := by omega
        have HE : Hid (ml.take k = ml) := List.take_of_length_le (by omega)
        rw [HE.out] at hbk ⊢
        obtain ⟨C, hC⟩ : ∃ C, behindM x ON noEv ml = C := ⟨_, rfl⟩
        rw [hC] at HR hbk ⊢
        have hC0 : 0 ≤ C := hbk.1
        have hC1 : C ≤ 1099511627776 := by omega
        have hwT : IntKind.i64.wrap (TL + C) = TL + C := by rw [IntKind.wrap_i64]; omega
        have HTW := hidOf (HTE.out wr HBw.out)
        clear hkm hC hbk
        go_wp2_with fail
        refine HTW.out.mono ?_
        rintro e w3 ⟨rfl, b3⟩
        have HB3 : Hid (Below w.heap.size w w3) := HBw.out.trans (b3.mono HBw.out.size)
        clear b3
        go_wp2_with fail
        go_ret
        exact ⟨ret_int HR.out.symm, HB3.out⟩
end Go.Proofs.YtceokbmejnopoaaGreatDoor

/- The model's BlockMost: how often an event can be told at most. -/
namespace Go.Proofs.YtceokbmejnopoaaGreatDoor
open Go Go.RowKit Go.PlainAid
set_option linter.unusedSimpArgs false
set_option linter.unusedVariables false

theorem maxL_app (a b : List Int) : maxL (a ++ b) = max (maxL a) (maxL b) := by
  unfold maxL
  rw [List.foldl_append]
  have key : ∀ (l : List Int) (u : Int), 0 ≤ u → l.foldl max u = max u (l.foldl max 0) := by
    intro l
    induction l with
    | nil => intro u hu; simp; omega
    | cons y r ih => intro u hu; rw [List.foldl_cons, List.foldl_cons, ih _ (by omega), ih (max 0 y) (by omega)]; omega
  exact key b _ (maxL_nonneg a)
/-- the most of the first i states -/
def doneM (x : Bk) (g : Nat → Int) (i : Nat) : Int := maxL ((x.states.take i).map fun s => behindM x g anyMo s.moves)
theorem doneM_succ (x : Bk) (g : Nat → Int) {i : Nat} (h : i < x.states.length) : doneM x g (i + 1) = max (doneM x g i) (behindM x g anyMo x.states[i].moves) := by
  unfold doneM
  rw [List.take_succ_eq_append_getElem h, List.map_append, List.map_singleton, maxL_snoc]
theorem doneM_all (x : Bk) (g : Nat → Int) {i : Nat} (h : x.states.length ≤ i) : doneM x g i = maxL (x.states.map fun s => behindM x g anyMo s.moves) := by
  unfold doneM; rw [List.take_of_length_le h]
theorem moves_ix {x : Bk} (h : checkM x = 0) : ∀ s ∈ x.states, ∀ m ∈ s.moves, 0 ≤ findM (statesM x) m.to := moves_found (check_states h)

set_option maxHeartbeats 3200000 in
set_option maxRecDepth 100000 in
theorem l3Most_any (B : Nat) (v : BkV) (x : Bk) (out : ByteArray) (w : World) (hB : B ≤ w.heap.size) (hwt : wtBk x ≤ 1048576) (hok : checkM x = 0) (hx : IsBk B w v x) :
    Calls Tryz.prog 55 #[v.val x.name, .string out] w fun e w' => e = .returned (.int .i64 (mostM x out)) ∧ Below w.heap.size w w' := by
  obtain ⟨p0, p1, p2, p3, p4, p5, p6, p7, p8, p9⟩ := wtBk_parts hwt
  have lt := hx.states.1
  have HX := hidOf hx
  have htl : (statesM x).length = x.states.length := by simp [statesM]
  have hss := states_small p8
  have hact : ∀ s ∈ x.states, s.acts.length ≤ 1048576 := fun s hs => by have h := state_size p8 s hs; unfold wtSt at h; omega
  have hmv : ∀ s ∈ x.states, s.moves.length ≤ 1048576 := fun s hs => by have h := state_size p8 s hs; unfold wtSt at h; omega
  have HML := hidOf hmv
  have hon := onF_bound x out hact x.states.length
  have HONB : Hid (∀ i, 0 ≤ onM x out i ∧ onM x out i ≤ (1048576 * x.states.length : Nat)) := fun i => by have := hon i; unfold onM; omega
  have HST : Hid (∀ W, Below w.heap.size w W → Calls Tryz.prog 102 #[v.val x.name] W fun e w' => ∃ u, e = .returned u ∧ OwnS W.heap.size w' u (statesM x) ∧ Below W.heap.size W w') := fun W hb => l3States_any B v x W (by have := hb.size; omega) (by omega) (HX.out.below (hb.mono hB))
  have HON : Hid (∀ j W, j < x.states.length → Below w.heap.size w W → Calls Tryz.prog 101 #[v.val x.name, .int .i64 (j : Nat), .string out] W fun e w' => e = .returned (.int .i64 (onM x out j)) ∧ Below W.heap.size W w') := fun j W hj hb => l3On_any B v x out hwt (moves_ix hok) hact x.states.length j W (by omega) (check_walk hok j hj) hj (by have := hb.size; omega) (HX.out.below (hb.mono hB))
  have HQS : Hid (∀ W, Below w.heap.size w W → IsArr 3 QSt B W v.at_ v.nt x.states) := fun W hb => (HX.out.below (hb.mono hB)).states
  have HOK : Hid (∀ s ∈ x.states, ∀ m ∈ s.moves, 0 ≤ findM (statesM x) m.to ∧ m.to.size ≤ 1048576) := fun s hs m hm => by
    have h1 := wsum_mem (f := wtSt) hs
    have h2 := wsum_mem (f := wtMo) hm
    have h3 : wsum wtMo s.moves ≤ wtSt s := by unfold wtSt; omega
    have h4 : m.to.size ≤ wtMo m := by unfold wtMo; omega
    exact ⟨moves_ix hok s hs m hm, by omega⟩
  have HFS : Hid (∀ y : ByteArray, y.size ≤ 1048576 → ∀ (B : Nat) (W : World) (a : Option Addr) (n c : Nat), OwnS B W (.slice a n c) (statesM x) → Calls Tryz.prog 53 #[.slice a n c, .string y] W fun e w' => e = .returned (.int .i64 (findM (statesM x) y)) ∧ w' = W) := fun y hy => findOwn_any (statesM x) y (by omega) hss hy
  have hfl := hidOf (fun m => findM_lt (statesM x) m)
  have HDN := hidOf (fun (i : Nat) (h : i < x.states.length) => doneM_succ x (onM x out) h)
  have hres : mostM x out = doneM x (onM x out) x.states.length := (doneM_all x _ (Nat.le_refl _)).symm
  have HBD : Hid (∀ i, 0 ≤ doneM x (onM x out) i ∧ doneM x (onM x out) i ≤ (1048576 * x.states.length : Nat)) := fun i => ⟨maxL_nonneg _, maxL_le (by omega) fun y hy => by
    obtain ⟨s, _, rfl⟩ := List.mem_map.1 hy
    exact (behindM_bound (x := x) (fits := anyMo) (l := s.moves) (by omega) (fun i => (HONB.out i).2)).2⟩
  have HBH : Hid (∀ l, 0 ≤ behindM x (onM x out) anyMo l ∧ behindM x (onM x out) anyMo l ≤ (1048576 * x.states.length : Nat)) := fun l => behindM_bound x (by omega) (fun i => (HONB.out i).2)
  have HBT := hidOf (fun (l : List Mo) (k : Nat) (hk : k < l.length) => behindM_take x (onM x out) anyMo l hk)
  have hNb : 1048576 * x.states.length ≤ 1099511627776 := by have := Nat.mul_le_mul_left 1048576 (show x.states.length ≤ 1048576 by omega); omega
  obtain ⟨NB, hNB⟩ : ∃ N, 1048576 * x.states.length = N := ⟨_, rfl⟩
  rw [hNB] at HBD HBH hNb
  rw [hres]
  obtain ⟨DN, hDN⟩ : ∃ g, doneM x (onM x out) = g := ⟨_, rfl⟩
  have HD0 : Hid (DN 0 = 0) := by show DN 0 = 0; rw [← hDN]; rfl
  have HDN2 : Hid (∀ (i : Nat) (h : i < x.states.length), DN (i + 1) = max (DN i) (behindM x (onM x out) anyMo x.states[i].moves)) := fun i h => by rw [← hDN]; exact HDN.out i h
  rw [hDN] at HBD ⊢
  obtain ⟨g, hg⟩ : ∃ g, onM x out = g := ⟨_, rfl⟩
  rw [hg] at HDN2 HON HBH HBT
  have HTL := hidOf htl
  have HLT := hidOf lt
  have hnt : v.nt ≤ 1048576 := by omega
  have HNN : Hid (DN x.states.length = DN v.nt) := by show _ = _; rw [lt]
  rw [HNN.out]
  clear hres hDN hg htl lt hx HX hwt hok hss hact hmv hon HDN HONB hNB p0 p1 p2 p3 p4 p5 p6 p7 p8 p9
  obtain ⟨ai, ni, ci, ao, no, co, av, nv, cv, at_, nt, ct⟩ := v
  obtain ⟨xn, hxn⟩ : ∃ n, x.name = n := ⟨_, rfl⟩
  simp only [BkV.val] at HST HON HQS HLT hnt ⊢
  rw [hxn] at HST HON ⊢
  clear hxn HNN
  have BX0 := hidOf (boxAt_new w [.string xn, .slice ai ni ci, .slice ao no co, .slice av nv cv, .slice at_ nt ct] 34)
  have HB0 : Hid (Below w.heap.size w (w.alloc (.cells #[.string xn, .slice ai ni ci, .slice ao no co, .slice av nv cv, .slice at_ nt ct] 34))) := (Below.refl _ _).alloc (Nat.le_refl _) _
  go_enter Tryz.func55, Tryz.ntmps55
  go_wp2_with fail
  go_loopw [5, 6] (fun t i wr => ∃ k : Nat, k ≤ nt ∧ i = .int .i64 k ∧ t = .int .i64 (DN k) ∧ Hid (Below w.heap.size w wr) ∧ Hid (BoxAt w.heap.size [.string xn, .slice ai ni ci, .slice ao no co, .slice av nv cv, .slice at_ nt ct] wr)) (fun _ i _ => nt - (intOf i).toNat)
  case atStart => exact ⟨0, Nat.zero_le _, rfl, by rw [HD0.out], HB0, BX0⟩
  case round =>
    obtain ⟨k, hk, rfl, rfl, HB, HXB⟩ := hrel
    have hdk := HBD.out k
    have c0 : wr.cell? ⟨w.heap.size, 0, none⟩ = some (.string xn) := (HXB.out.2 0 _ rfl).1
    have c1 : wr.cell? ⟨w.heap.size, 1, none⟩ = some (.slice ai ni ci) := (HXB.out.2 1 _ rfl).1
    have c2 : wr.cell? ⟨w.heap.size, 2, none⟩ = some (.slice ao no co) := (HXB.out.2 2 _ rfl).1
    have c3 : wr.cell? ⟨w.heap.size, 3, none⟩ = some (.slice av nv cv) := (HXB.out.2 3 _ rfl).1
    have c4 : wr.cell? ⟨w.heap.size, 4, none⟩ = some (.slice at_ nt ct) := (HXB.out.2 4 _ rfl).1
    have sx : w.heap.size < wr.heap.size := HXB.out.1
    by_cases hlt : k < nt
    · have hkl : k < x.states.length := by have h1 : x.states.length = nt := HLT.out; omega
      obtain ⟨sb, soff, cs, rfl, hsb, hq, hcell⟩ := IsArr.at (HQS.out wr HB.out) hlt hkl
      obtain ⟨ma, mn, mc, ra, rn, rc, rfl, q1, q2, q3, q4, q5, q6⟩ := hq
      have lm := q5.1
      have hml := HML.out _ (List.getElem_mem hkl)
      have HOKs := hidOf (HOK.out _ (List.getElem_mem hkl))
      have HQM : Hid (∀ W, Below wr.heap.size wr W → IsArr 3 QMo B W ma mn x.states[k].moves) := fun W hb => q5.below (QMo.lift (hb.mono (by have := HB.out.size; omega))) (hb.mono (by have := HB.out.size; omega))
      have hDk := HDN2.out k hkl
      obtain ⟨ml, hmls⟩ : ∃ l, x.states[k].moves = l := ⟨_, rfl⟩
      rw [hmls] at lm hml HOKs HQM hDk
      have HDk := hidOf hDk
      have hsbr : sb < wr.heap.size := by have := HB.out.size; omega
      have s1 : wr.cell? ⟨sb, soff + k * 3 + 1, none⟩ = some (.slice ma mn mc) := hcell 1 _ rfl
      obtain ⟨D, hD⟩ : ∃ D, DN k = D := ⟨_, rfl⟩
      rw [hD] at HDk hdk ⊢
      have hLM := hidOf lm
      have hmn : mn ≤ 1048576 := by omega
      clear hcell hmls hD hDk q5 q6 lm hml
      have HSB := hidOf HXB.out
      go_wp2_with fail
      clear c0 c1 c2 c3 c4 sx
      obtain ⟨WO, rfl⟩ : ∃ W, W = wr := ⟨wr, rfl⟩
      go_loopw [5, 7] (fun t i wi => ∃ j : Nat, j ≤ mn ∧ i = .int .i64 j ∧ t = .int .i64 (max D (behindM x g anyMo (ml.take j))) ∧ Hid (Below WO.heap.size WO wi)) (fun _ i _ => mn - (intOf i).toNat)
      case atStart => exact ⟨0, Nat.zero_le _, rfl, by rw [List.take_zero, behindM_nil, show max D 0 = D from by omega], Below.refl _ _⟩
      case round =>
        obtain ⟨j, hj, rfl, rfl, HI⟩ := hrel
        have HBi : Hid (Below w.heap.size w wr) := HB.out.trans (HI.out.mono HB.out.size)
        have HXi := hidOf (HSB.out.below HI.out)
        have t1 := (HI.out.cell (p := ⟨sb, soff + k * 3 + 1, none⟩) hsbr).trans s1
        have hsbi : sb < wr.heap.size := Nat.lt_of_lt_of_le hsbr HI.out.size
        have hbj := HBH.out (ml.take j)
        have c0 : wr.cell? ⟨w.heap.size, 0, none⟩ = some (.string xn) := (HXi.out.2 0 _ rfl).1
        have c1 : wr.cell? ⟨w.heap.size, 1, none⟩ = some (.slice ai ni ci) := (HXi.out.2 1 _ rfl).1
        have c2 : wr.cell? ⟨w.heap.size, 2, none⟩ = some (.slice ao no co) := (HXi.out.2 2 _ rfl).1
        have c3 : wr.cell? ⟨w.heap.size, 3, none⟩ = some (.slice av nv cv) := (HXi.out.2 3 _ rfl).1
        have c4 : wr.cell? ⟨w.heap.size, 4, none⟩ = some (.slice (some ⟨sb, soff, none⟩) nt ct) := (HXi.out.2 4 _ rfl).1
        have sx : w.heap.size < wr.heap.size := HXi.out.1
        by_cases hlj : j < mn
        · have hjl : j < ml.length := by have h1 : ml.length = mn := hLM.out; omega
          obtain ⟨b, off, cs, rfl, hb, hq, hcell⟩ := IsArr.at (HQM.out wr HI.out) hlj hjl
          have hbr : b < wr.heap.size := by have := HBi.out.size; omega
          have HT := hidOf (HBT.out ml j hjl)
          have hmo := HOKs.out _ (List.getElem_mem hjl)
          obtain ⟨y, hy⟩ : ∃ y, ml[j] = y := ⟨_, rfl⟩
          rw [hy] at hq HT hmo
          obtain ⟨F, hF⟩ : ∃ F : Nat, findM (statesM x) y.to = F := ⟨(findM (statesM x) y.to).toNat, by have := hmo.1; omega⟩
          have hFl : F < x.states.length := by have := (hfl.out y.to).2; have := HTL.out; omega
          have hix : toIx x y = F := by unfold toIx; rw [hF]; simp
          have HFY := hidOf (HFS.out y.to hmo.2)
          rw [hF] at HFY
          rw [hix] at HT
          have HONF := hidOf (fun W hb => HON.out F W hFl hb)
          obtain ⟨P, hP⟩ : ∃ P, g F = P := ⟨_, rfl⟩
          rw [hP] at HT HONF
          obtain ⟨C, hC⟩ : ∃ C, behindM x g anyMo (ml.take j) = C := ⟨_, rfl⟩
          rw [hC] at HT hbj ⊢
          have HT2 : Hid (behindM x g anyMo (ml.take (j + 1)) = max C P) := by show _ = _; rw [HT.out]; rfl
          obtain ⟨M, hM⟩ : ∃ M, max D C = M := ⟨_, rfl⟩
          have HM := hidOf hM
          rw [hM]
          clear hy hF hmo hFl hix hP hC HT hM
          obtain ⟨y0, y1, y2⟩ := y
          unfold QMo at hq
          subst hq
          have e2 : wr.cell? ⟨b, off + j * 3 + 1 + 1, none⟩ = some (.string y2) := hcell 2 _ rfl
          simp only at HFY
          clear hcell hdk hbj
          go_wp2_with fail
          go_region_held3 (fun w' => w'.cell? ⟨w.heap.size, 0, none⟩ = some (.string xn) ∧ w'.cell? ⟨w.heap.size, 1, none⟩ = some (.slice ai ni ci) ∧ w'.cell? ⟨w.heap.size, 2, none⟩ = some (.slice ao no co) ∧ w'.cell? ⟨w.heap.size, 3, none⟩ = some (.slice av nv cv) ∧ w'.cell? ⟨w.heap.size, 4, none⟩ = some (.slice (some ⟨sb, soff, none⟩) nt ct) ∧ w'.cell? ⟨sb, soff + k * 3 + 1, none⟩ = some (.slice (some ⟨b, off, none⟩) mn mc) ∧ w'.cell? ⟨b, off + j * 3 + 1 + 1, none⟩ = some (.string y2)) (simp [go_sem, *])
            (first
             | (go_at_call 102; refine (HST.out _ (by first | exact HBi.out | exact below_drew1 HBi.out | exact drewN HBi.out _)).mono ?_; rintro e w3 ⟨u3, rfl, o3, b3⟩; obtain ⟨a3, k3, e3, _⟩ := o3.form; subst e3; replace b3 : Below wr.heap.size wr w3 := undrew b3; have HB3 : Hid (Below w.heap.size w w3) := HBi.out.trans (b3.mono HBi.out.size); have HI3 : Hid (Below WO.heap.size WO w3) := HI.out.trans (b3.mono HI.out.size); have qs1 := b3.size; have qs2 : w.heap.size < w3.heap.size := (by omega); have qs3 : sb < w3.heap.size := (by omega); have qs4 : b < w3.heap.size := (by omega); have HO3 := hidOf o3; obtain ⟨hc3, hf3⟩ := bcell b3; clear o3 b3 hf3 qs1)
             | (go_at_call 53; refine (HFY.out _ _ _ _ _ HO3.out).mono ?_; rintro e w' ⟨rfl, hw'⟩; rw [hw']; clear hw' w')
             | (go_at_call 101; refine (HONF.out _ HB3.out).mono ?_; rintro e w4 ⟨rfl, b4⟩; have HI4 : Hid (Below WO.heap.size WO w4) := HI3.out.trans (b4.mono HI3.out.size); obtain ⟨hc4, hf4⟩ := bcell b4; clear b4 hf4))
          by_cases hmp : M < P
          · go_wp2_with fail
            go_roundw
            case rel => exact ⟨j + 1, by omega, by go_num, by rw [HT2.out]; have := HM.out; congr 1; omega, HI4⟩
            case measure => simp [intOf]; omega
          · go_wp2_with fail
            go_roundw
            case rel => exact ⟨j + 1, by omega, by go_num, by rw [HT2.out]; have := HM.out; congr 1; omega, HI4⟩
            case measure => simp [intOf]; omega
        · have HE : Hid (ml.take j = ml) := List.take_of_length_le (by have h1 : ml.length = mn := hLM.out; omega)
          rw [HE.out, ← HDk.out]
          clear hbj hdk
          go_wp2_with fail
          go_roundw
          case rel => exact ⟨k + 1, by omega, by go_num, rfl, HBi, HXi⟩
          case measure => simp [intOf]; omega
    · have hkn : k = nt := by omega
      subst hkn
      go_wp2_with fail
      go_ret
      exact ⟨rfl, HB.out⟩
end Go.Proofs.YtceokbmejnopoaaGreatDoor

/- The program's mostBehind. -/
namespace Go.Proofs.YtceokbmejnopoaaGreatDoor
open Go Go.RowKit Go.PlainAid
set_option linter.unusedSimpArgs false
set_option linter.unusedVariables false

theorem isWithoutEvent_any (y0 y1 y2 : ByteArray) (w : World) : Calls Tryz.prog 107 #[.agg #[.string y0, .string y1, .string y2]] w fun e w' => e = .returned (.bool (noEv ⟨y0, y1, y2⟩)) ∧ Below w.heap.size w w' := by
  obtain ⟨E, hE⟩ : ∃ E, empB y0 = E := ⟨_, rfl⟩
  have hE2 : y0.toList.isEmpty = E := hE
  have HE : Hid (noEv ⟨y0, y1, y2⟩ = E) := hE
  clear hE
  go_enter Tryz.func107, Tryz.ntmps107
  go_wp2_with fail
  go_ret
  exact ⟨ret_bool HE.out.symm, by go_grown⟩

set_option maxHeartbeats 3200000 in
set_option maxRecDepth 100000 in
theorem mostBehindE_any (B : Nat) (v : BkV) (x : Bk) (sn : ByteArray) (ma : Option Addr) (mn mc : Nat) (ra : Option Addr) (rn rc : Nat) (ml : List Mo) (g : Nat) (L : List Int) (w : World) (hB : B ≤ w.heap.size) (hwt : wtBk x ≤ 1048576) (hx : IsBk B w v x) (hml : ml.length ≤ 1048576) (hq : IsArr 3 QMo B w ma mn ml) (hok : ∀ m ∈ ml, 0 ≤ findM (statesM x) m.to)
    (hl : L.length = x.states.length) (hg : g < w.heap.size) (hL : ∀ i, i < L.length → w.cell? ⟨g, i, none⟩ = some (.int .i64 (L.getD i 0))) :
    Calls Tryz.prog 106 #[v.val x.name, .agg #[.string sn, .slice ma mn mc, .slice ra rn rc], .slice (some ⟨g, 0, none⟩) v.nt v.nt, .func (Fn.func 107) #[] #[]] w fun e w' => e = .returned (.int .i64 (behindM x (fun i => L.getD i 0) noEv ml)) ∧ Below w.heap.size w w' := by
  obtain ⟨p0, p1, p2, p3, p4, p5, p6, p7, p8, p9⟩ := wtBk_parts hwt
  have lt := hx.states.1
  have lm := hq.1
  have HX := hidOf hx
  have htl : (statesM x).length = x.states.length := by simp [statesM]
  have HTL := hidOf htl
  have hfl := hidOf (fun m => findM_lt (statesM x) m)
  have HAT : Hid (∀ W y, Below w.heap.size w W → Calls Tryz.prog 142 #[.slice v.at_ v.nt v.ct, .string y] W fun e w' => e = .returned (.int .i64 (findM (statesM x) y)) ∧ Below W.heap.size W w') := fun W y hb => stateAt_any B v.at_ v.nt v.ct x.states y W (by have := hb.size; omega) (by omega) (HX.out.below (hb.mono hB)).states
  have HQ : Hid (∀ W, Below w.heap.size w W → IsArr 3 QMo B W ma mn ml) := fun W hb => hq.below (QMo.lift (hb.mono hB)) (hb.mono hB)
  have HFR : Hid (∀ W, Below w.heap.size w W → ∀ i, i < L.length → W.cell? ⟨g, i, none⟩ = some (.int .i64 (L.getD i 0))) := fun W hb i hi => (hb.cell (p := ⟨g, i, none⟩) hg).trans (hL i hi)
  have HOK := hidOf hok
  have HBT := hidOf (fun (k : Nat) (hk : k < ml.length) => behindM_take x (fun i => L.getD i 0) noEv ml hk)
  obtain ⟨G, hG⟩ : ∃ G : Nat → Int, (fun i => L.getD i 0) = G := ⟨_, rfl⟩
  have HGv : Hid (∀ i, G i = L.getD i 0) := fun i => by rw [← hG]
  rw [hG] at HBT ⊢
  have HLT : Hid (L.length = v.nt) := by show _ = _; omega
  have HTN : Hid (∀ F : Nat, F < (statesM x).length → F < L.length) := fun F h => by omega
  have hmn : mn ≤ 1048576 := by omega
  have HLM := hidOf lm
  clear hG htl lt lm hx HX hwt hok hq hL hl hml p0 p1 p2 p3 p4 p5 p6 p7 p8 p9
  obtain ⟨ai, ni, ci, ao, no, co, av, nv, cv, at_, nt, ct⟩ := v
  obtain ⟨xn, hxn⟩ : ∃ n, x.name = n := ⟨_, rfl⟩
  simp only [BkV.val] at HAT HLT ⊢
  rw [hxn]
  clear hxn
  have HB0 : Hid (Below w.heap.size w ((w.alloc (.cells #[.string xn, .slice ai ni ci, .slice ao no co, .slice av nv cv, .slice at_ nt ct] 34)).alloc (.cells #[.string sn, .slice ma mn mc, .slice ra rn rc] 109))) := ((Below.refl _ _).alloc (Nat.le_refl _) _).alloc (by simp) _
  have BX0 : Hid (BoxAt w.heap.size [.string xn, .slice ai ni ci, .slice ao no co, .slice av nv cv, .slice at_ nt ct] ((w.alloc (.cells #[.string xn, .slice ai ni ci, .slice ao no co, .slice av nv cv, .slice at_ nt ct] 34)).alloc (.cells #[.string sn, .slice ma mn mc, .slice ra rn rc] 109))) := (boxAt_new w [.string xn, .slice ai ni ci, .slice ao no co, .slice av nv cv, .slice at_ nt ct] 34).below ((Below.refl _ _).alloc (Nat.le_refl _) _)
  have BY0 : Hid (BoxAt (w.heap.size + 1) [.string sn, .slice ma mn mc, .slice ra rn rc] ((w.alloc (.cells #[.string xn, .slice ai ni ci, .slice ao no co, .slice av nv cv, .slice at_ nt ct] 34)).alloc (.cells #[.string sn, .slice ma mn mc, .slice ra rn rc] 109))) := by
    have := boxAt_new (w.alloc (.cells #[.string xn, .slice ai ni ci, .slice ao no co, .slice av nv cv, .slice at_ nt ct] 34)) [.string sn, .slice ma mn mc, .slice ra rn rc] 109
    show BoxAt _ _ _
    simpa using this
  go_enter Tryz.func106, Tryz.ntmps106
  go_wp2_with fail
  go_loopw [9, 15] (fun t i wr => ∃ k : Nat, k ≤ mn ∧ i = .int .i64 k ∧ t = .int .i64 (behindM x G noEv (ml.take k)) ∧ Below ((w.alloc (.cells #[.string xn, .slice ai ni ci, .slice ao no co, .slice av nv cv, .slice at_ nt ct] 34)).alloc (.cells #[.string sn, .slice ma mn mc, .slice ra rn rc] 109)).heap.size ((w.alloc (.cells #[.string xn, .slice ai ni ci, .slice ao no co, .slice av nv cv, .slice at_ nt ct] 34)).alloc (.cells #[.string sn, .slice ma mn mc, .slice ra rn rc] 109)) wr) (fun _ i _ => mn - (intOf i).toNat)
  case atStart => exact ⟨0, Nat.zero_le _, rfl, rfl, Below.refl _ _⟩
  case round =>
    obtain ⟨k, hk, rfl, rfl, hbel⟩ := hrel
    have HBw : Hid (Below w.heap.size w wr) := HB0.out.trans (hbel.mono HB0.out.size)
    have BX := hidOf (BX0.out.below hbel)
    have BY := hidOf (BY0.out.below hbel)
    by_cases hlt : k < mn
    · have hkl : k < ml.length := by have h1 : ml.length = mn := HLM.out; omega
      obtain ⟨b, off, cs, rfl, hb, hq, hcell⟩ := IsArr.at (HQ.out wr HBw.out) hlt hkl
      have hbr : b < wr.heap.size := by have := HBw.out.size; omega
      have hmem : ml[k] ∈ ml := List.getElem_mem _
      have HT := hidOf (HBT.out k hkl)
      obtain ⟨y, hy⟩ : ∃ y, ml[k] = y := ⟨_, rfl⟩
      rw [hy] at hq hmem HT
      have hF0 := HOK.out y hmem
      obtain ⟨F, hF⟩ : ∃ F : Nat, findM (statesM x) y.to = F := ⟨(findM (statesM x) y.to).toNat, by omega⟩
      have hFn : F < L.length := HTN.out F (by have := (hfl.out y.to).2; omega)
      have hFn2 : F < nt := by have h1 : L.length = nt := HLT.out; omega
      have hix : toIx x y = F := by unfold toIx; rw [hF]; simp
      rw [hix] at HT
      obtain ⟨P, hP⟩ : ∃ P, L.getD F 0 = P := ⟨_, rfl⟩
      have HP := hidOf hP
      have hGP : G F = P := by rw [HGv.out]; exact hP
      first | rw [hGP] at HT | rw [hP] at HT
      obtain ⟨C, hC⟩ : ∃ C, behindM x G noEv (ml.take k) = C := ⟨_, rfl⟩
      rw [hC] at HT ⊢
      obtain ⟨y0, y1, y2⟩ := y
      unfold QMo at hq
      subst hq
      simp only at hF
      have HFd := hidOf hF
      have HFIT : Hid (∀ W, Below wr.heap.size wr W → Calls Tryz.prog 107 #[.agg #[.string y0, .string y1, .string y2]] W fun e w' => e = .returned (.bool (noEv ⟨y0, y1, y2⟩)) ∧ Below W.heap.size W w') := fun W _ => isWithoutEvent_any y0 y1 y2 W
      have HATF : Hid (∀ W, Below w.heap.size w W → Calls Tryz.prog 142 #[.slice at_ nt ct, .string y2] W fun e w' => e = .returned (.int .i64 F) ∧ Below W.heap.size W w') := fun W hb => by
        have := HAT.out W y2 hb
        rw [HFd.out] at this
        exact this
      have e0 : wr.cell? ⟨b, off + k * 3, none⟩ = some (.string y0) := hcell 0 _ rfl
      have e1 : wr.cell? ⟨b, off + k * 3 + 1, none⟩ = some (.string y1) := hcell 1 _ rfl
      have e2 : wr.cell? ⟨b, off + k * 3 + 1 + 1, none⟩ = some (.string y2) := hcell 2 _ rfl
      have hbm : Below wr.heap.size wr (wr.alloc (.cells #[.string y0, .string y1, .string y2] 132)) := (Below.refl _ _).alloc (Nat.le_refl _) _
      have HBn := hidOf hbm
      have HXn := hidOf (BX.out.below hbm)
      have HYn := hidOf (BY.out.below hbm)
      have HMn := hidOf (boxAt_new wr [.string y0, .string y1, .string y2] 132)
      clear hcell hbm hy hmem hF0 hix hP hGP hC hF
      have d0 : wr.cell? ⟨w.heap.size + 1, 0, none⟩ = some (.string sn) := (BY.out.2 0 _ rfl).1
      have d1 : wr.cell? ⟨w.heap.size + 1, 1, none⟩ = some (.slice (some ⟨b, off, none⟩) mn mc) := (BY.out.2 1 _ rfl).1
      have d2 : wr.cell? ⟨w.heap.size + 1, 2, none⟩ = some (.slice ra rn rc) := (BY.out.2 2 _ rfl).1
      have sy : w.heap.size + 1 < wr.heap.size := BY.out.1
      obtain ⟨E, hE⟩ : ∃ E, noEv ⟨y0, y1, y2⟩ = E := ⟨_, rfl⟩
      rw [hE] at HT HFIT
      clear hE
      cases E with
      | false =>
        go_wp2_with fail
        refine (HFIT.out _ (by exact HBn.out)).mono ?_
        rintro e w2 ⟨rfl, b2⟩
        have HB2 : Hid (Below wr.heap.size wr w2) := HBn.out.trans (b2.mono HBn.out.size)
        clear b2
        go_wp2_with fail
        go_roundw
        case rel => exact ⟨k + 1, by omega, by go_num, by rw [HT.out]; rfl, hbel.trans (HB2.out.mono hbel.size)⟩
        case measure => simp [intOf]; omega
      | true =>
        go_wp2_with fail
        refine (HFIT.out _ (by exact HBn.out)).mono ?_
        rintro e w2 ⟨rfl, b2⟩
        have HB2 : Hid (Below wr.heap.size wr w2) := HBn.out.trans (b2.mono HBn.out.size)
        have HX2 := hidOf ((HXn.out).below b2)
        have HY2 := hidOf ((HYn.out).below b2)
        have HM2 := hidOf ((HMn.out).below b2)
        clear b2
        have c0 : w2.cell? ⟨w.heap.size, 0, none⟩ = some (.string xn) := (HX2.out.2 0 _ rfl).1
        have c1 : w2.cell? ⟨w.heap.size, 1, none⟩ = some (.slice ai ni ci) := (HX2.out.2 1 _ rfl).1
        have c2 : w2.cell? ⟨w.heap.size, 2, none⟩ = some (.slice ao no co) := (HX2.out.2 2 _ rfl).1
        have c3 : w2.cell? ⟨w.heap.size, 3, none⟩ = some (.slice av nv cv) := (HX2.out.2 3 _ rfl).1
        have c4 : w2.cell? ⟨w.heap.size, 4, none⟩ = some (.slice at_ nt ct) := (HX2.out.2 4 _ rfl).1
        have sx : w.heap.size < w2.heap.size := HX2.out.1
        have m0 : w2.cell? ⟨wr.heap.size, 0, none⟩ = some (.string y0) := (HM2.out.2 0 _ rfl).1
        have m1 : w2.cell? ⟨wr.heap.size, 1, none⟩ = some (.string y1) := (HM2.out.2 1 _ rfl).1
        have m2 : w2.cell? ⟨wr.heap.size, 2, none⟩ = some (.string y2) := (HM2.out.2 2 _ rfl).1
        have sm : wr.heap.size < w2.heap.size := HM2.out.1
        go_wp2_with fail
        refine (HATF.out w2 (HBw.out.trans (HB2.out.mono HBw.out.size))).mono ?_
        rintro e w3 ⟨rfl, b3⟩
        have HB3 : Hid (Below wr.heap.size wr w3) := HB2.out.trans (b3.mono HB2.out.size)
        have f0 : w3.cell? ⟨g, F, none⟩ = some (.int .i64 P) := (HFR.out w3 (HBw.out.trans (HB3.out.mono HBw.out.size)) F hFn).trans (by rw [HP.out])
        have hg3 : g < w3.heap.size := by have := HB3.out.size; have := HBw.out.size; omega
        clear b3 c0 c1 c2 c3 c4 sx m0 m1 m2 sm
        by_cases hcp : C ≤ P
        · have hmx : max C P = P := by omega
          go_wp2_with fail
          go_roundw
          case rel => exact ⟨k + 1, by omega, by go_num, by rw [HT.out]; show _ = Value.int IntKind.i64 (max C P); (try congr 1); omega, hbel.trans (HB3.out.mono hbel.size)⟩
          case measure => simp [intOf]; omega
        · have hmx : max C P = C := by omega
          go_wp2_with fail
          go_roundw
          case rel => exact ⟨k + 1, by omega, by go_num, by rw [HT.out]; show _ = Value.int IntKind.i64 (max C P); (try congr 1); omega, hbel.trans (HB3.out.mono hbel.size)⟩
          case measure => simp [intOf]; omega
    · have HE : Hid (ml.take k = ml) := List.take_of_length_le (by have h1 : ml.length = mn := HLM.out; omega)
      rw [HE.out]
      have d0 : wr.cell? ⟨w.heap.size + 1, 0, none⟩ = some (.string sn) := (BY.out.2 0 _ rfl).1
      have d1 : wr.cell? ⟨w.heap.size + 1, 1, none⟩ = some (.slice ma mn mc) := (BY.out.2 1 _ rfl).1
      have d2 : wr.cell? ⟨w.heap.size + 1, 2, none⟩ = some (.slice ra rn rc) := (BY.out.2 2 _ rfl).1
      have sy : w.heap.size + 1 < wr.heap.size := BY.out.1
      go_wp2_with fail
      go_ret
      exact ⟨rfl, HBw.out⟩

theorem isAnyMove_any (y0 y1 y2 : ByteArray) (w : World) : Calls Tryz.prog 108 #[.agg #[.string y0, .string y1, .string y2]] w fun e w' => e = .returned (.bool (anyMo ⟨y0, y1, y2⟩)) ∧ Below w.heap.size w w' := by
  go_enter Tryz.func108, Tryz.ntmps108
  go_wp2_with fail
  go_ret
  exact ⟨rfl, by go_grown⟩

set_option maxHeartbeats 3200000 in
set_option maxRecDepth 100000 in
theorem mostBehindA_any (B : Nat) (v : BkV) (x : Bk) (sn : ByteArray) (ma : Option Addr) (mn mc : Nat) (ra : Option Addr) (rn rc : Nat) (ml : List Mo) (g : Nat) (L : List Int) (w : World) (hB : B ≤ w.heap.size) (hwt : wtBk x ≤ 1048576) (hx : IsBk B w v x) (hml : ml.length ≤ 1048576) (hq : IsArr 3 QMo B w ma mn ml) (hok : ∀ m ∈ ml, 0 ≤ findM (statesM x) m.to)
    (hl : L.length = x.states.length) (hg : g < w.heap.size) (hL : ∀ i, i < L.length → w.cell? ⟨g, i, none⟩ = some (.int .i64 (L.getD i 0))) :
    Calls Tryz.prog 106 #[v.val x.name, .agg #[.string sn, .slice ma mn mc, .slice ra rn rc], .slice (some ⟨g, 0, none⟩) v.nt v.nt, .func (Fn.func 108) #[] #[]] w fun e w' => e = .returned (.int .i64 (behindM x (fun i => L.getD i 0) anyMo ml)) ∧ Below w.heap.size w w' := by
  obtain ⟨p0, p1, p2, p3, p4, p5, p6, p7, p8, p9⟩ := wtBk_parts hwt
  have lt := hx.states.1
  have lm := hq.1
  have HX := hidOf hx
  have htl : (statesM x).length = x.states.length := by simp [statesM]
  have HTL := hidOf htl
  have hfl := hidOf (fun m => findM_lt (statesM x) m)
  have HAT : Hid (∀ W y, Below w.heap.size w W → Calls Tryz.prog 142 #[.slice v.at_ v.nt v.ct, .string y] W fun e w' => e = .returned (.int .i64 (findM (statesM x) y)) ∧ Below W.heap.size W w') := fun W y hb => stateAt_any B v.at_ v.nt v.ct x.states y W (by have := hb.size; omega) (by omega) (HX.out.below (hb.mono hB)).states
  have HQ : Hid (∀ W, Below w.heap.size w W → IsArr 3 QMo B W ma mn ml) := fun W hb => hq.below (QMo.lift (hb.mono hB)) (hb.mono hB)
  have HFR : Hid (∀ W, Below w.heap.size w W → ∀ i, i < L.length → W.cell? ⟨g, i, none⟩ = some (.int .i64 (L.getD i 0))) := fun W hb i hi => (hb.cell (p := ⟨g, i, none⟩) hg).trans (hL i hi)
  have HOK := hidOf hok
  have HBT := hidOf (fun (k : Nat) (hk : k < ml.length) => behindM_take x (fun i => L.getD i 0) anyMo ml hk)
  obtain ⟨G, hG⟩ : ∃ G : Nat → Int, (fun i => L.getD i 0) = G := ⟨_, rfl⟩
  have HGv : Hid (∀ i, G i = L.getD i 0) := fun i => by rw [← hG]
  rw [hG] at HBT ⊢
  have HLT : Hid (L.length = v.nt) := by show _ = _; omega
  have HTN : Hid (∀ F : Nat, F < (statesM x).length → F < L.length) := fun F h => by omega
  have hmn : mn ≤ 1048576 := by omega
  have HLM := hidOf lm
  clear hG htl lt lm hx HX hwt hok hq hL hl hml p0 p1 p2 p3 p4 p5 p6 p7 p8 p9
  obtain ⟨ai, ni, ci, ao, no, co, av, nv, cv, at_, nt, ct⟩ := v
  obtain ⟨xn, hxn⟩ : ∃ n, x.name = n := ⟨_, rfl⟩
  simp only [BkV.val] at HAT HLT ⊢
  rw [hxn]
  clear hxn
  have HB0 : Hid (Below w.heap.size w ((w.alloc (.cells #[.string xn, .slice ai ni ci, .slice ao no co, .slice av nv cv, .slice at_ nt ct] 34)).alloc (.cells #[.string sn, .slice ma mn mc, .slice ra rn rc] 109))) := ((Below.refl _ _).alloc (Nat.le_refl _) _).alloc (by simp) _
  have BX0 : Hid (BoxAt w.heap.size [.string xn, .slice ai ni ci, .slice ao no co, .slice av nv cv, .slice at_ nt ct] ((w.alloc (.cells #[.string xn, .slice ai ni ci, .slice ao no co, .slice av nv cv, .slice at_ nt ct] 34)).alloc (.cells #[.string sn, .slice ma mn mc, .slice ra rn rc] 109))) := (boxAt_new w [.string xn, .slice ai ni ci, .slice ao no co, .slice av nv cv, .slice at_ nt ct] 34).below ((Below.refl _ _).alloc (Nat.le_refl _) _)
  have BY0 : Hid (BoxAt (w.heap.size + 1) [.string sn, .slice ma mn mc, .slice ra rn rc] ((w.alloc (.cells #[.string xn, .slice ai ni ci, .slice ao no co, .slice av nv cv, .slice at_ nt ct] 34)).alloc (.cells #[.string sn, .slice ma mn mc, .slice ra rn rc] 109))) := by
    have := boxAt_new (w.alloc (.cells #[.string xn, .slice ai ni ci, .slice ao no co, .slice av nv cv, .slice at_ nt ct] 34)) [.string sn, .slice ma mn mc, .slice ra rn rc] 109
    show BoxAt _ _ _
    simpa using this
  go_enter Tryz.func106, Tryz.ntmps106
  go_wp2_with fail
  go_loopw [9, 15] (fun t i wr => ∃ k : Nat, k ≤ mn ∧ i = .int .i64 k ∧ t = .int .i64 (behindM x G anyMo (ml.take k)) ∧ Below ((w.alloc (.cells #[.string xn, .slice ai ni ci, .slice ao no co, .slice av nv cv, .slice at_ nt ct] 34)).alloc (.cells #[.string sn, .slice ma mn mc, .slice ra rn rc] 109)).heap.size ((w.alloc (.cells #[.string xn, .slice ai ni ci, .slice ao no co, .slice av nv cv, .slice at_ nt ct] 34)).alloc (.cells #[.string sn, .slice ma mn mc, .slice ra rn rc] 109)) wr) (fun _ i _ => mn - (intOf i).toNat)
  case atStart => exact ⟨0, Nat.zero_le _, rfl, rfl, Below.refl _ _⟩
  case round =>
    obtain ⟨k, hk, rfl, rfl, hbel⟩ := hrel
    have HBw : Hid (Below w.heap.size w wr) := HB0.out.trans (hbel.mono HB0.out.size)
    have BX := hidOf (BX0.out.below hbel)
    have BY := hidOf (BY0.out.below hbel)
    by_cases hlt : k < mn
    · have hkl : k < ml.length := by have h1 : ml.length = mn := HLM.out; omega
      obtain ⟨b, off, cs, rfl, hb, hq, hcell⟩ := IsArr.at (HQ.out wr HBw.out) hlt hkl
      have hbr : b < wr.heap.size := by have := HBw.out.size; omega
      have hmem : ml[k] ∈ ml := List.getElem_mem _
      have HT := hidOf (HBT.out k hkl)
      obtain ⟨y, hy⟩ : ∃ y, ml[k] = y := ⟨_, rfl⟩
      rw [hy] at hq hmem HT
      have hF0 := HOK.out y hmem
      obtain ⟨F, hF⟩ : ∃ F : Nat, findM (statesM x) y.to = F := ⟨(findM (statesM x) y.to).toNat, by omega⟩
      have hFn : F < L.length := HTN.out F (by have := (hfl.out y.to).2; omega)
      have hFn2 : F < nt := by have h1 : L.length = nt := HLT.out; omega
      have hix : toIx x y = F := by unfold toIx; rw [hF]; simp
      rw [hix] at HT
      obtain ⟨P, hP⟩ : ∃ P, L.getD F 0 = P := ⟨_, rfl⟩
      have HP := hidOf hP
      have hGP : G F = P := by rw [HGv.out]; exact hP
      first | rw [hGP] at HT | rw [hP] at HT
      obtain ⟨C, hC⟩ : ∃ C, behindM x G anyMo (ml.take k) = C := ⟨_, rfl⟩
      rw [hC] at HT ⊢
      obtain ⟨y0, y1, y2⟩ := y
      unfold QMo at hq
      subst hq
      simp only at hF
      have HFd := hidOf hF
      have HFIT : Hid (∀ W, Below wr.heap.size wr W → Calls Tryz.prog 108 #[.agg #[.string y0, .string y1, .string y2]] W fun e w' => e = .returned (.bool (anyMo ⟨y0, y1, y2⟩)) ∧ Below W.heap.size W w') := fun W _ => isAnyMove_any y0 y1 y2 W
      have HATF : Hid (∀ W, Below w.heap.size w W → Calls Tryz.prog 142 #[.slice at_ nt ct, .string y2] W fun e w' => e = .returned (.int .i64 F) ∧ Below W.heap.size W w') := fun W hb => by
        have := HAT.out W y2 hb
        rw [HFd.out] at this
        exact this
      have e0 : wr.cell? ⟨b, off + k * 3, none⟩ = some (.string y0) := hcell 0 _ rfl
      have e1 : wr.cell? ⟨b, off + k * 3 + 1, none⟩ = some (.string y1) := hcell 1 _ rfl
      have e2 : wr.cell? ⟨b, off + k * 3 + 1 + 1, none⟩ = some (.string y2) := hcell 2 _ rfl
      have hbm : Below wr.heap.size wr (wr.alloc (.cells #[.string y0, .string y1, .string y2] 132)) := (Below.refl _ _).alloc (Nat.le_refl _) _
      have HBn := hidOf hbm
      have HXn := hidOf (BX.out.below hbm)
      have HYn := hidOf (BY.out.below hbm)
      have HMn := hidOf (boxAt_new wr [.string y0, .string y1, .string y2] 132)
      clear hcell hbm hy hmem hF0 hix hP hGP hC hF
      have d0 : wr.cell? ⟨w.heap.size + 1, 0, none⟩ = some (.string sn) := (BY.out.2 0 _ rfl).1
      have d1 : wr.cell? ⟨w.heap.size + 1, 1, none⟩ = some (.slice (some ⟨b, off, none⟩) mn mc) := (BY.out.2 1 _ rfl).1
      have d2 : wr.cell? ⟨w.heap.size + 1, 2, none⟩ = some (.slice ra rn rc) := (BY.out.2 2 _ rfl).1
      have sy : w.heap.size + 1 < wr.heap.size := BY.out.1
      go_wp2_with fail
      refine (HFIT.out _ (by exact HBn.out)).mono ?_
      rintro e w2 ⟨rfl, b2⟩
      have HB2 : Hid (Below wr.heap.size wr w2) := HBn.out.trans (b2.mono HBn.out.size)
      have HX2 := hidOf ((HXn.out).below b2)
      have HY2 := hidOf ((HYn.out).below b2)
      have HM2 := hidOf ((HMn.out).below b2)
      clear b2
      have c0 : w2.cell? ⟨w.heap.size, 0, none⟩ = some (.string xn) := (HX2.out.2 0 _ rfl).1
      have c1 : w2.cell? ⟨w.heap.size, 1, none⟩ = some (.slice ai ni ci) := (HX2.out.2 1 _ rfl).1
      have c2 : w2.cell? ⟨w.heap.size, 2, none⟩ = some (.slice ao no co) := (HX2.out.2 2 _ rfl).1
      have c3 : w2.cell? ⟨w.heap.size, 3, none⟩ = some (.slice av nv cv) := (HX2.out.2 3 _ rfl).1
      have c4 : w2.cell? ⟨w.heap.size, 4, none⟩ = some (.slice at_ nt ct) := (HX2.out.2 4 _ rfl).1
      have sx : w.heap.size < w2.heap.size := HX2.out.1
      have m0 : w2.cell? ⟨wr.heap.size, 0, none⟩ = some (.string y0) := (HM2.out.2 0 _ rfl).1
      have m1 : w2.cell? ⟨wr.heap.size, 1, none⟩ = some (.string y1) := (HM2.out.2 1 _ rfl).1
      have m2 : w2.cell? ⟨wr.heap.size, 2, none⟩ = some (.string y2) := (HM2.out.2 2 _ rfl).1
      have sm : wr.heap.size < w2.heap.size := HM2.out.1
      go_wp2_with fail
      refine (HATF.out w2 (HBw.out.trans (HB2.out.mono HBw.out.size))).mono ?_
      rintro e w3 ⟨rfl, b3⟩
      have HB3 : Hid (Below wr.heap.size wr w3) := HB2.out.trans (b3.mono HB2.out.size)
      have f0 : w3.cell? ⟨g, F, none⟩ = some (.int .i64 P) := (HFR.out w3 (HBw.out.trans (HB3.out.mono HBw.out.size)) F hFn).trans (by rw [HP.out])
      have hg3 : g < w3.heap.size := by have := HB3.out.size; have := HBw.out.size; omega
      clear b3 c0 c1 c2 c3 c4 sx m0 m1 m2 sm
      by_cases hcp : C ≤ P
      · have hmx : max C P = P := by omega
        go_wp2_with fail
        go_roundw
        case rel => exact ⟨k + 1, by omega, by go_num, by rw [HT.out]; show _ = Value.int IntKind.i64 (max C P); (try congr 1); omega, hbel.trans (HB3.out.mono hbel.size)⟩
        case measure => simp [intOf]; omega
      · have hmx : max C P = C := by omega
        go_wp2_with fail
        go_roundw
        case rel => exact ⟨k + 1, by omega, by go_num, by rw [HT.out]; show _ = Value.int IntKind.i64 (max C P); (try congr 1); omega, hbel.trans (HB3.out.mono hbel.size)⟩
        case measure => simp [intOf]; omega
    · have HE : Hid (ml.take k = ml) := List.take_of_length_le (by have h1 : ml.length = mn := HLM.out; omega)
      rw [HE.out]
      have d0 : wr.cell? ⟨w.heap.size + 1, 0, none⟩ = some (.string sn) := (BY.out.2 0 _ rfl).1
      have d1 : wr.cell? ⟨w.heap.size + 1, 1, none⟩ = some (.slice ma mn mc) := (BY.out.2 1 _ rfl).1
      have d2 : wr.cell? ⟨w.heap.size + 1, 2, none⟩ = some (.slice ra rn rc) := (BY.out.2 2 _ rfl).1
      have sy : w.heap.size + 1 < wr.heap.size := BY.out.1
      go_wp2_with fail
      go_ret
      exact ⟨rfl, HBw.out⟩
end Go.Proofs.YtceokbmejnopoaaGreatDoor
