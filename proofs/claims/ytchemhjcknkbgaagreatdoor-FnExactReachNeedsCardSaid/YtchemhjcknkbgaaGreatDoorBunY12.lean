/- The reader's sum, for every text: it comes to what the function sumF says. -/
import Derived.Test.YtchemhjcknkbgaaGreatDoorBunY10
namespace Go.Proofs.YtchemhjcknkbgaaGreatDoor
open Go.RowKit Go.PlainAid
set_option linter.unusedSimpArgs false
set_option linter.unusedVariables false

theorem loopS_eq {s : ByteArray} {rec : Int → Par → Par} (hrec : ∀ l st, Adv s st (rec l st)) (level : Int) (n : Nat) : ∀ m st, s.size - st.at_ + 1 ≤ n → s.size - st.at_ + 1 ≤ m → st.at_ ≤ s.size → loopS rec s level n st = loopS rec s level m st := by
  induction n with
  | zero => intro m st h; omega
  | succ n ih =>
    intro m st hn hm ha
    obtain ⟨m, rfl⟩ : ∃ m', m = m' + 1 := ⟨m - 1, by omega⟩
    unfold loopS
    split
    · rfl
    · split
      · rfl
      · rename_i hf
        have h1 := findSign_lt hf
        have h2 := skipTo_mono s st.at_
        have h3 := (hrec (level + 1) { st with at_ := signAt s (skipTo s st.at_) level }).trans (adv_put s _ (findSign s (skipTo s st.at_) level, 0, noName))
        have h4 := h3.lo
        have h5 := h3.hi
        simp only at h4 h5
        have h6 := (signAt_le s st.at_ level).2 ha
        have h7 : signAt s (skipTo s st.at_) level = skipTo s st.at_ + (sg (findSign s (skipTo s st.at_) level)).size := rfl
        exact ih m _ (by omega) (by omega) (h5 h6)

set_option maxHeartbeats 1600000 in
set_option maxRecDepth 100000 in
theorem sum_any (s : ByteArray) (hs : s.size ≤ 1048576) (f : Nat) : SumOk s f := by
  induction f with
  | zero =>
    intro level p st v w h1 h2 h3
    omega
  | succ f ih =>
    intro level p st v w h1 h2 h3 ha hd hl h
    have HS : Hid (SumOk s f) := ih
    have HP : Hid (ParAt p w s st v) := h
    clear ih h
    by_cases h6 : 5 < level
    · have HM : Hid (sumF s (f + 1) level st = unaryM (sumF s f) s st) := by
        show sumF _ _ _ _ = _
        rw [sumF, if_pos h6]
      go_enter Tryz.func116, Tryz.ntmps116
      go_wp2_with fail
      refine (unary_any s f HS.out hs p st v _ (by omega) ha hd hl HP.out).mono ?_
      rintro e w1 ⟨rfl, v1, hp1, ht1⟩
      go_wp2_with fail
      go_returns
      rw [HM.out]
      exact ⟨rfl, v1, hp1, ht1⟩
    · have HM : Hid (sumF s (f + 1) level st = loopS (sumF s f) s level (s.size + 1) (sumF s f (level + 1) st)) := by
        show sumF _ _ _ _ = _
        rw [sumF, if_neg h6]
      have HA := adv_sum s f (level + 1) st
      obtain ⟨st0, hst0⟩ : ∃ st0, sumF s f (level + 1) st = st0 := ⟨_, rfl⟩
      have HST : Hid (sumF s f (level + 1) st = st0) := hst0
      rw [hst0] at HM HA
      obtain ⟨a1, a2, a3, a4, a5⟩ := HA
      have a2' := a2 ha
      have a5' := a5 hl
      clear hst0 a2 a5
      go_enter Tryz.func116, Tryz.ntmps116
      go_wp2_with fail
      refine (HS.out (level + 1) p st v _ (by omega) (by omega) (by omega) ha hd hl HP.out).mono ?_
      rw [HST.out]
      rintro e w1 ⟨rfl, v1, hp1, ht1⟩
      have HP1 : Hid (ParAt p w1 s st0 v1) := hp1
      clear hp1
      go_wp2_with fail
      go_loopw [] (fun wr => ∃ (st' : Par) (v' : Value) (n : Nat), Hid (loopS (sumF s f) s level (s.size + 1) st0 = loopS (sumF s f) s level n st') ∧ s.size - st'.at_ + 1 ≤ n ∧ st'.at_ ≤ s.size ∧ st.at_ ≤ st'.at_ ∧ st'.deep ≤ st'.at_ ∧ st'.out.length ≤ 24 ∧ Hid (ParAt p wr s st' v') ∧ Touch p v w wr v')
        (fun wr => s.size - (intOf ((wr.cell? ⟨p, 1, none⟩).getD undef)).toNat)
      case atStart => exact ⟨st0, v1, s.size + 1, rfl, by omega, a2', a1, by omega, a5', HP1.out, ht1⟩
      case round =>
        obtain ⟨st', v', n, HQ, hn, hat, hat2, hdt, hlt, HPr, htr⟩ := hrel
        have c3 := HPr.out.c3
        have c1 := HPr.out.c1
        obtain ⟨n, rfl⟩ : ∃ n', n = n' + 1 := ⟨n - 1, by omega⟩
        cases hbad : st'.bad
        · rw [hbad] at c3
          by_cases hf0 : findSign s (skipTo s st'.at_) level = 0
          · have HE : Hid (loopS (sumF s f) s level (s.size + 1) st0 = { st' with at_ := signAt s (skipTo s st'.at_) level }) := by
              show loopS _ _ _ _ _ = _
              rw [HQ.out, loopS, hbad, if_neg (by decide), if_pos hf0]
            have HF : Hid (findSign s (skipTo s st'.at_) level = 0) := hf0
            clear hbad hf0
            go_wp2_with fail
            refine (sign_any p s st' v' level _ ⟨h1, by omega⟩ hs hat HPr.out).mono ?_
            rw [HF.out]
            rintro e w2 ⟨rfl, hp2, ht2⟩
            go_wp2_with fail
            go_returns
            rw [HM.out, HE.out]
            exact ⟨rfl, v', hp2, htr.trans ht2⟩
          · obtain ⟨K, hK⟩ : ∃ K, findSign s (skipTo s st'.at_) level = K := ⟨_, rfl⟩
            have hK0 : ((K : Int) == 0) = false := by rw [← hK]; simp [hf0]
            have HF : Hid (findSign s (skipTo s st'.at_) level = K) := hK
            have hfl := findSign_lt hf0
            have hsl := signAt_le s st'.at_ level
            have hsk := skipTo_mono s st'.at_
            have hsg : signAt s (skipTo s st'.at_) level = skipTo s st'.at_ + (sg (findSign s (skipTo s st'.at_) level)).size := rfl
            obtain ⟨st2, hst2⟩ : ∃ st2, sumF s f (level + 1) { st' with at_ := signAt s (skipTo s st'.at_) level } = st2 := ⟨_, rfl⟩
            have HST2 : Hid (sumF s f (level + 1) { st' with at_ := signAt s (skipTo s st'.at_) level } = st2) := hst2
            have HE : Hid (loopS (sumF s f) s level (s.size + 1) st0 = loopS (sumF s f) s level n (putNd st2 (K, 0, noName))) := by
              show loopS _ _ _ _ _ = _
              rw [HQ.out, loopS, if_neg (by rw [hbad]; decide), if_neg hf0, hK, hst2]
            have HA2 := (adv_sum s f (level + 1) { st' with at_ := signAt s (skipTo s st'.at_) level })
            rw [hst2] at HA2
            obtain ⟨b1, b2, b3, b4, b5⟩ := HA2
            simp only at b1 b2 b3 b4 b5
            obtain ⟨d1, d2, d3, d4, d5⟩ := adv_put s st2 (K, 0, noName)
            have hsA := hsl.2 hat
            have b2' := b2 hsA
            have b5' := b5 hlt
            have d5' := d5 b5'
            have d2' := d2 b2'
            obtain ⟨A, hA⟩ : ∃ A, signAt s (skipTo s st'.at_) level = A := ⟨_, rfl⟩
            have HAA : Hid (signAt s (skipTo s st'.at_) level = A) := hA
            rw [hA] at hsA b1 b4 hsg HST2
            have hAgt : st'.at_ < A := by omega
            clear hbad hf0 hK hfl hsl hsk hsg hst2 b2 b5 d2 d5 hA
            go_wp2_with fail
            refine (sign_any p s st' v' level _ ⟨h1, by omega⟩ hs hat HPr.out).mono ?_
            rw [HF.out, HAA.out]
            rintro e w2 ⟨rfl, hp2, ht2⟩
            have HP2 : Hid (ParAt p w2 s { st' with at_ := A } v') := hp2
            clear hp2
            go_wp2_with fail
            refine (HS.out (level + 1) p { st' with at_ := A } v' _ (by omega) (by omega) (by simp only; omega) hsA (by simp only; omega) hlt HP2.out).mono ?_
            rw [HST2.out]
            rintro e w3 ⟨rfl, v3, hp3, ht3⟩
            have HP3 : Hid (ParAt p w3 s st2 v3) := hp3
            clear hp3
            go_wp2_with fail
            refine (put_any' p s st2 v3 _ _ _ _ b5' HP3.out).mono ?_
            rintro e w4 ⟨rfl, v4, hp4, ht4⟩
            have HP4 : Hid (ParAt p w4 s (putNd st2 (K, 0, noName)) v4) := hp4
            have HT4 : Hid (Touch p v w w4 v4) := ((htr.trans ht2).trans ht3).trans ht4
            have hc4 := HP4.out.c1
            generalize putNd st2 (K, 0, noName) = st4 at *
            clear hp4 ht2 ht3 ht4
            go_wp2_with fail
            go_roundw
            case rel => exact ⟨st4, v4, n, HE.out, by omega, d2', by omega, by omega, d5', HP4.out, HT4.out⟩
            case measure =>
              rw [hc4, c1]
              simp [intOf]; omega
        · have HE : Hid (loopS (sumF s f) s level (s.size + 1) st0 = st') := by
            show loopS _ _ _ _ _ = _
            rw [HQ.out, loopS, hbad, if_pos rfl]
          rw [hbad] at c3
          clear hbad
          go_wp2_with fail
          go_end0
          rw [HM.out, HE.out]
          exact ⟨rfl, v', HPr.out, htr⟩
end Go.Proofs.YtchemhjcknkbgaaGreatDoor

/- The model's l1Get: all of a text. -/
namespace Go.Proofs.YtchemhjcknkbgaaGreatDoor
open Go.RowKit Go.PlainAid
set_option linter.unusedSimpArgs false
set_option linter.unusedVariables false

def par0 : Par := ⟨0, 0, false, []⟩
def parEnd (s : ByteArray) : Par := sumF s (7 * s.size + 7) 1 par0
/-- the nodes of all of a text -/
def getM (s : ByteArray) : Option (List Nd) :=
  if 60 < s.size then none else if (parEnd s).bad = true ∨ skipTo s (parEnd s).at_ < s.size then none else some (parEnd s).out

/-- the nodes in memory -/
def OwnNd (B : Nat) (w : World) (v : Value) (l : List Nd) : Prop := w.ownsRow B 121 3 v l.length (ndCells l)

theorem getM_len {s : ByteArray} {l : List Nd} (h : getM s = some l) : l.length ≤ 24 := by
  unfold getM at h
  split at h
  · cases h
  · split at h
    · cases h
    · cases h
      exact (adv_sum s _ 1 par0).len (by decide)

theorem ownsRow_mono {w : World} {base base' size n : Nat} {e : TypeId} {v : Value} {xs : List Value} (h : w.ownsRow base e size v n xs) (hb : base' ≤ base) : w.ownsRow base' e size v n xs := by
  obtain ⟨h1, h2⟩ := h
  refine ⟨h1, ?_⟩
  rcases h2 with h2 | ⟨g, cap, cur, hv, h3, h4⟩
  · exact .inl h2
  · exact .inr ⟨g, cap, cur, hv, by omega, h4⟩

set_option maxHeartbeats 800000 in
set_option maxRecDepth 100000 in
theorem l1Get_any (s : ByteArray) (w : World) (hs : s.size ≤ 1048576) : Calls Tryz.prog 67 #[.string s] w fun e w' => ∃ v b, e = .returned (.tuple #[v, .bool b]) ∧
    (getM s = none → b = false ∧ v = .slice none 0 0) ∧ (∀ l, getM s = some l → b = true ∧ OwnNd w.heap.size w' v l) ∧ Below w.heap.size w w' := by
  by_cases h60 : 60 < s.size
  · have HN : Hid (getM s = none) := by
      show getM s = none
      unfold getM; rw [if_pos h60]
    go_enter Tryz.func67, Tryz.ntmps67
    go_wp2_with fail
    go_ret2
    exact ⟨_, _, rfl, fun _ => ⟨rfl, rfl⟩, (fun l hl => by rw [HN.out] at hl; cases hl), Below.refl _ _⟩
  · have HPA : Hid (∀ W : World, ParAt W.heap.size (W.alloc (.cells #[.string s, .int .i64 0, .int .i64 0, .bool false, .slice none 0 0] 163)) s par0 (.slice none 0 0)) := fun W =>
      ⟨by simp, by simp [par0], by simp [par0], by simp [par0], by simp, fun j => by simp, World.ownsRow_nil _ _ _ _⟩
    have HA := adv_sum s (7 * s.size + 7) 1 par0
    obtain ⟨st, hst⟩ : ∃ st, sumF s (7 * s.size + 7) 1 par0 = st := ⟨_, rfl⟩
    have HST : Hid (sumF s (7 * s.size + 7) 1 par0 = st) := hst
    have HE : Hid (parEnd s = st) := hst
    rw [hst] at HA
    have ha := HA.hi (Nat.zero_le _)
    clear HA hst
    have HS : Hid (SumOk s (7 * s.size + 7)) := sum_any s hs _
    go_enter Tryz.func67, Tryz.ntmps67
    go_wp2_with fail
    refine (HS.out 1 w.heap.size par0 (.slice none 0 0) _ (by decide) (by decide) (by simp [par0]; omega) (Nat.zero_le _) (Nat.le_refl _) (by decide) (by exact HPA.out w)).mono ?_
    rw [HST.out]
    rintro e w1 ⟨rfl, v1, hp1, ht1⟩
    have HP1 : Hid (ParAt w.heap.size w1 s st v1) := hp1
    have HB1 : Hid (Below w.heap.size w w1) := by
      have h1 := ht1.below (HPA.out w)
      exact ((Below.refl _ w).alloc (Nat.le_refl _) _).trans h1
    clear hp1 ht1
    go_wp2_with fail
    refine (skip_any _ s st v1 _ (by unfold maxLen; omega) ha HP1.out).mono ?_
    rintro e w2 ⟨rfl, hp2, ht2⟩
    have HB2 : Hid (Below w.heap.size w w2) := HB1.out.trans (ht2.below HP1.out)
    obtain ⟨k, hk⟩ : ∃ k, skipTo s st.at_ = k := ⟨_, rfl⟩
    rw [hk] at hp2
    have HK : Hid (skipTo s (parEnd s).at_ = k) := by
      show skipTo s (parEnd s).at_ = k
      rw [HE.out]; exact hk
    have HP2 : Hid (ParAt w.heap.size w2 s { st with at_ := k } v1) := hp2
    obtain ⟨c0, c1, c2, c3, c4, ho, hown⟩ := hp2
    simp only at c1 c2 c3 c4 hown
    have HO : Hid (w2.ownsRow (w.heap.size + 1) 121 3 v1 st.out.length (ndCells st.out)) := hown
    clear ht2 hk c2 hown
    cases hbad : st.bad
    · rw [hbad] at c3
      by_cases hlt : k < s.size
      · have HN : Hid (getM s = none) := by
          show getM s = none
          unfold getM; rw [if_neg h60, HK.out, if_pos (.inr hlt)]
        clear hbad
        go_wp2_with fail
        go_ret2
        exact ⟨_, _, rfl, fun _ => ⟨rfl, rfl⟩, (fun l hl => by rw [HN.out] at hl; cases hl), HB2.out⟩
      · have HN : Hid (getM s = some st.out) := by
          show getM s = _
          unfold getM; rw [if_neg h60, HK.out, HE.out, if_neg (by rw [hbad]; simp; omega)]
        clear hbad
        go_wp2_with fail
        go_ret2
        refine ⟨_, _, rfl, (fun h => by rw [HN.out] at h; cases h), (fun l hl => ?_), HB2.out⟩
        rw [HN.out] at hl; cases hl
        exact ⟨rfl, by unfold OwnNd; exact ownsRow_mono HO.out (by omega)⟩
    · rw [hbad] at c3
      have HN : Hid (getM s = none) := by
        show getM s = none
        unfold getM; rw [if_neg h60, if_pos (.inl (by rw [HE.out]; exact hbad))]
      clear hbad
      go_wp2_with fail
      go_ret2
      exact ⟨_, _, rfl, fun _ => ⟨rfl, rfl⟩, (fun l hl => by rw [HN.out] at hl; cases hl), HB2.out⟩
end Go.Proofs.YtchemhjcknkbgaaGreatDoor

/- Lists of nodes in memory; the model's l1Same. -/
namespace Go.Proofs.YtchemhjcknkbgaaGreatDoor
open Go.RowKit Go.PlainAid
set_option linter.unusedSimpArgs false
set_option linter.unusedVariables false

/-- the slice (a, n), below block B, reads in w as these nodes -/
def IsNds (B : Nat) (w : World) (a : Option Addr) (n : Nat) (l : List Nd) : Prop :=
  l.length = n ∧ (n = 0 ∨ ∃ b off, a = some ⟨b, off, none⟩ ∧ b < B ∧ ∀ i, (h : i < l.length) → w.cell? ⟨b, off + i * 3, none⟩ = some (.int .i64 l[i].1) ∧ w.cell? ⟨b, off + i * 3 + 1, none⟩ = some (.int .i64 l[i].2.1) ∧ w.cell? ⟨b, off + i * 3 + 1 + 1, none⟩ = some (.string l[i].2.2))
theorem IsNds.below {B : Nat} {w w' : World} {a : Option Addr} {n : Nat} {l : List Nd} (h : IsNds B w a n l) (hb : Below B w w') : IsNds B w' a n l := by
  obtain ⟨h1, h2⟩ := h
  refine ⟨h1, ?_⟩
  rcases h2 with h2 | ⟨b, off, rfl, hlt, hc⟩
  · exact .inl h2
  · exact .inr ⟨b, off, rfl, hlt, fun i hi => ⟨(hb.cell hlt).trans (hc i hi).1, (hb.cell hlt).trans (hc i hi).2.1, (hb.cell hlt).trans (hc i hi).2.2⟩⟩
theorem IsNds.mono {B B' : Nat} {w : World} {a : Option Addr} {n : Nat} {l : List Nd} (h : IsNds B w a n l) (hb : B ≤ B') : IsNds B' w a n l := by
  obtain ⟨h1, h2⟩ := h
  refine ⟨h1, ?_⟩
  rcases h2 with h2 | ⟨b, off, rfl, hlt, hc⟩
  · exact .inl h2
  · exact .inr ⟨b, off, rfl, by omega, hc⟩
theorem ndCells_at (l : List Nd) : ∀ i, (h : i < l.length) → (ndCells l)[i * 3]? = some (.int .i64 l[i].1) ∧ (ndCells l)[i * 3 + 1]? = some (.int .i64 l[i].2.1) ∧ (ndCells l)[i * 3 + 1 + 1]? = some (.string l[i].2.2) := by
  induction l with
  | nil => intro i h; simp at h
  | cons x r ih =>
    intro i h
    have e : ndCells (x :: r) = .int .i64 x.1 :: .int .i64 x.2.1 :: .string x.2.2 :: ndCells r := by simp [ndCells]
    rw [e]
    cases i with
    | zero => simp
    | succ i =>
      have := ih i (by simpa using h)
      rw [show (i + 1) * 3 = i * 3 + 1 + 1 + 1 from by omega]
      simpa using this
/-- what a value owns it reads -/
theorem OwnNd.is {B : Nat} {w : World} {v : Value} {l : List Nd} (h : OwnNd B w v l) : ∃ a cap, v = .slice a l.length cap ∧ IsNds w.heap.size w a l.length l := by
  have h0 := h
  obtain ⟨h1, h2⟩ := h
  rcases h2 with ⟨hv, hn⟩ | ⟨g, cap, cur, hv, h3, h4, h5⟩
  · exact ⟨none, 0, by rw [hv, hn], rfl, .inl hn⟩
  · refine ⟨_, cap, hv, rfl, ?_⟩
    subst hv
    have hlt := (World.ownsRow.lt h0 g rfl).2
    refine .inr ⟨g, 0, rfl, hlt, fun i hi => ?_⟩
    obtain ⟨e1, e2, e3⟩ := ndCells_at l i hi
    refine ⟨?_, ?_, ?_⟩
    · rw [Nat.zero_add, World.ownsRow.cellAt h0 (i * 3) (by omega), e1]
    · rw [Nat.zero_add, World.ownsRow.cellAt h0 (i * 3 + 1) (by omega), e2]
    · rw [Nat.zero_add, World.ownsRow.cellAt h0 (i * 3 + 1 + 1) (by omega), e3]

set_option maxHeartbeats 800000 in
set_option maxRecDepth 100000 in
theorem l1Same_any (B : Nat) (a a' : Option Addr) (n n' cap cap' : Nat) (l l' : List Nd) (w : World) (hn : n ≤ 1048576) (hn' : n' ≤ 1048576) (hz : IsNds B w a n l) (hz' : IsNds B w a' n' l') :
    Calls Tryz.prog 224 #[.slice a n cap, .slice a' n' cap'] w fun e w' => e = .returned (.bool (decide (l = l'))) ∧ Below w.heap.size w w' := by
  obtain ⟨hlen, hcells⟩ := hz
  obtain ⟨hlen', hcells'⟩ := hz'
  obtain ⟨D, hD⟩ : ∃ D, decide (l = l') = D := ⟨_, rfl⟩
  have HD : Hid (decide (l = l') = D) := hD
  rw [hD]; clear hD
  by_cases hnn : n = n'
  · subst hnn
    go_enter Tryz.func224, Tryz.ntmps224
    go_wp2_with fail
    go_loopw [5] (fun i wr => ∃ k : Nat, k ≤ n ∧ i = .int .i64 k ∧ Hid (l.take k = l'.take k) ∧ Below w.heap.size w wr) (fun i _ => n - (intOf i).toNat)
    case atStart => exact ⟨0, Nat.zero_le _, rfl, by show _ = _; simp, Below.refl _ _⟩
    case round =>
      obtain ⟨k, hk, rfl, hdone, hbel⟩ := hrel
      by_cases hlt : k < n
      · rcases hcells with h0 | ⟨b, off, rfl, hb, hc⟩
        · omega
        rcases hcells' with h0 | ⟨b', off', rfl, hb', hc'⟩
        · omega
        have hkl : k < l.length := by omega
        have hkl' : k < l'.length := by omega
        obtain ⟨x0, x1, x2, hx⟩ : ∃ x0 x1 x2, l[k] = (x0, x1, x2) := ⟨_, _, _, rfl⟩
        obtain ⟨y0, y1, y2, hy⟩ : ∃ y0 y1 y2, l'[k] = (y0, y1, y2) := ⟨_, _, _, rfl⟩
        have hcx := hc k hkl
        have hcy := hc' k hkl'
        rw [hx] at hcx
        rw [hy] at hcy
        have hbw := World.block_lt_of_cell? w _ hcx.1
        have hbw' := World.block_lt_of_cell? w _ hcy.1
        have p0 := (hbel.cell (p := ⟨b, off + k * 3, none⟩) hbw).trans hcx.1
        have p1 := (hbel.cell (p := ⟨b, off + k * 3 + 1, none⟩) hbw).trans hcx.2.1
        have p2 := (hbel.cell (p := ⟨b, off + k * 3 + 1 + 1, none⟩) hbw).trans hcx.2.2
        have q0 := (hbel.cell (p := ⟨b', off' + k * 3, none⟩) hbw').trans hcy.1
        have q1 := (hbel.cell (p := ⟨b', off' + k * 3 + 1, none⟩) hbw').trans hcy.2.1
        have q2 := (hbel.cell (p := ⟨b', off' + k * 3 + 1 + 1, none⟩) hbw').trans hcy.2.2
        simp only at p0 p1 p2 q0 q1 q2
        have HT : Hid (l.take (k + 1) = l.take k ++ [(x0, x1, x2)] ∧ l'.take (k + 1) = l'.take k ++ [(y0, y1, y2)]) :=
          ⟨by rw [List.take_succ_eq_append_getElem hkl, hx], by rw [List.take_succ_eq_append_getElem hkl', hy]⟩
        clear hc hc' hcx hcy hx hy
        by_cases hxy : x0 = y0 ∧ x1 = y1 ∧ x2 = y2
        · obtain ⟨rfl, rfl, rfl⟩ := hxy
          go_wp2_with fail
          go_quiet (fail)
          go_wp2_with fail
          go_roundw
          case rel => exact ⟨k + 1, by omega, by go_num, by show _ = _; rw [HT.out.1, HT.out.2, hdone.out], drewN hbel _⟩
          case measure => simp [intOf]; omega
        · have HN : Hid (D = false) := by
            show D = false
            rw [← HD.out]; simp; intro h
            have h1 := HT.out.1
            have h2 := HT.out.2
            rw [h] at h1
            rw [h1] at h2
            have h3 := List.append_inj_right' h2 rfl
            simp at h3
            exact hxy h3
          by_cases h0 : x0 = y0
          · subst h0
            by_cases h1 : x1 = y1
            · subst h1
              have h2 : ¬ x2 = y2 := fun e => hxy ⟨rfl, rfl, e⟩
              have e2' : (x2.toList == y2.toList) = false := by
                simp only [beq_eq_false_iff_ne, ne_eq]
                intro e; exact h2 (by rw [Lib.toList_data, Lib.toList_data] at e; exact ByteArray.ext (Array.toList_inj.1 e))
              clear hxy h2
              go_wp2_with fail
              go_quiet (fail)
              go_wp2_with fail
              go_ret
              exact ⟨ret_bool HN.out.symm, drewN hbel _⟩
            · have e1 : (x1 == y1) = false := by simp [h1]
              clear hxy h1
              go_wp2_with fail
              go_quiet (fail)
              go_wp2_with fail
              go_ret
              exact ⟨ret_bool HN.out.symm, drewN hbel _⟩
          · have e0 : (x0 == y0) = false := by simp [h0]
            clear hxy h0
            go_wp2_with fail
            go_quiet (fail)
            go_wp2_with fail
            go_ret
            exact ⟨ret_bool HN.out.symm, drewN hbel _⟩
      · have : k = n := by omega
        subst this
        have HN : Hid (D = true) := by
          show D = true
          rw [← HD.out]
          have := hdone.out
          rw [List.take_of_length_le (by omega), List.take_of_length_le (by omega)] at this
          simp [this]
        go_wp2_with fail
        go_ret
        exact ⟨ret_bool HN.out.symm, hbel⟩
  · have hne : ((n : Int) != n') = true := by simp; omega
    have HN : Hid (D = false) := by
      show D = false
      rw [← HD.out]; simp; intro h; rw [h] at hlen; omega
    go_enter Tryz.func224, Tryz.ntmps224
    go_wp2_with fail
    go_ret
    exact ⟨ret_bool HN.out.symm, Below.refl _ _⟩
end Go.Proofs.YtchemhjcknkbgaaGreatDoor
