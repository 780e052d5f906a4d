/- The model's ExprGet, walked; names that are read are not longer than what is read. -/
import Derived.Test.YtcajjngjojegfaaGreatDoorParWrite
namespace Go.Proofs.YtcajjngjojegfaaGreatDoor
open Go Go.RowKit Go.PlainAid
set_option linter.unusedSimpArgs false
set_option linter.unusedVariables false

def Sm (s : ByteArray) (st : Par) : Prop := ∀ x ∈ st.out, x.2.2.size ≤ s.size
theorem sm_put {s : ByteArray} {st : Par} {x : Nd} (h : Sm s st) (hx : x.2.2.size ≤ s.size) : Sm s (putNd st x) := by
  unfold putNd
  split
  · exact h
  · intro y hy
    simp at hy
    rcases hy with hy | rfl
    · exact h y hy
    · exact hx
theorem sm_putAll {s : ByteArray} (l : List Int) : ∀ st, Sm s st → Sm s (putAll l st) := by
  induction l with
  | nil => exact fun _ h => h
  | cons k r ih =>
    intro st h
    unfold putAll
    split
    · exact h
    · exact ih _ (sm_put h (Nat.zero_le _))
theorem sm_prim {s : ByteArray} {rec : Int → Par → Par} (hrec : ∀ l st, Sm s st → Sm s (rec l st)) (st : Par) (h : Sm s st) : Sm s (primM rec s st) := by
  unfold primM
  split
  · split
    · exact h
    · exact hrec 1 { st with at_ := skipTo s st.at_ + 1, deep := st.deep + 1 } h
  · simp only
    split
    · exact sm_put h (Nat.zero_le _)
    · exact sm_put h (by simp only [ByteArray.size_extract]; omega)
theorem sm_unary {s : ByteArray} {rec : Int → Par → Par} (hrec : ∀ l st, Sm s st → Sm s (rec l st)) (st : Par) (h : Sm s st) : Sm s (unaryM rec s st) := by
  unfold unaryM
  exact sm_putAll _ _ (sm_prim hrec _ h)
theorem sm_loop {s : ByteArray} {rec : Int → Par → Par} (hrec : ∀ l st, Sm s st → Sm s (rec l st)) (level : Int) (n : Nat) : ∀ st, Sm s st → Sm s (loopS rec s level n st) := by
  induction n with
  | zero => exact fun _ h => h
  | succ n ih =>
    intro st h
    unfold loopS
    split
    · exact h
    · split
      · exact h
      · exact ih _ (sm_put (hrec _ { st with at_ := signAt s (skipTo s st.at_) level } h) (Nat.zero_le _))
theorem sm_sum (s : ByteArray) (f : Nat) : ∀ level st, Sm s st → Sm s (sumF s f level st) := by
  induction f with
  | zero => exact fun _ _ h => h
  | succ f ih =>
    intro level st h
    unfold sumF
    split
    · exact sm_unary ih st h
    · exact sm_loop ih level _ _ (ih _ _ h)
theorem getM_names {s : ByteArray} {l : List Nd} (h : getM s = some l) : ∀ x ∈ l, x.2.2.size ≤ 60 := by
  unfold getM at h
  split at h
  · cases h
  · rename_i h60
    split at h
    · cases h
    · cases h
      intro x hx
      have := sm_sum s (7 * s.size + 7) 1 par0 (fun x hx => by simp [par0] at hx) x hx
      omega
theorem OwnNd.old {B : Nat} {w w' : World} {v : Value} {l : List Nd} (h : OwnNd B w v l) (hb : Below w.heap.size w w') : OwnNd B w' v l :=
  own_of_block h (fun g hg => hb.block g (World.ownsRow.lt h g hg).2)

/-- the nodes of all of a text that can be written -/
def exprM (s : ByteArray) : Option (List Nd) := match getM s with | some l => if (putM l).toList.isEmpty = true then none else some l | none => none

set_option maxHeartbeats 800000 in
set_option maxRecDepth 100000 in
theorem ExprGet_any (s : ByteArray) (w : World) (hs : s.size ≤ 1048576) : Calls Tryz.prog 18 #[.string s] w fun e w' => ∃ v b, e = .returned (.tuple #[v, .bool b]) ∧
    (exprM s = none → b = false ∧ v = .slice none 0 0) ∧ (∀ l, exprM s = some l → b = true ∧ OwnNd w.heap.size w' v l) ∧ Below w.heap.size w w' := by
  cases hg : getM s with
  | none =>
    have HN : Hid (exprM s = none) := by
      show exprM s = none
      unfold exprM; rw [hg]
    have HG : Hid (getM s = none) := hg
    clear hg
    go_enter Tryz.func18, Tryz.ntmps18
    go_wp2_with fail
    refine (l1Get_any s _ hs).mono ?_
    rintro e w1 ⟨v, b, rfl, hno, hyes, hb1⟩
    obtain ⟨rfl, rfl⟩ := hno HG.out
    have HB : Hid (Below w.heap.size w w1) := hb1
    clear hno hyes hb1
    go_wp2_with fail
    go_ret2
    exact ⟨_, _, rfl, fun _ => ⟨rfl, rfl⟩, (fun l hl => by rw [HN.out] at hl; cases hl), HB.out⟩
  | some l =>
    have hl24 := getM_len hg
    have HSM : Hid (∀ x ∈ l, x.2.2.size ≤ 1048576) := fun x hx => Nat.le_trans (getM_names hg x hx) (by decide)
    have HE : Hid (exprM s = if (putM l).toList.isEmpty = true then none else some l) := by
      show exprM s = _
      unfold exprM; rw [hg]
    have HG : Hid (getM s = some l) := hg
    clear hg
    go_enter Tryz.func18, Tryz.ntmps18
    go_wp2_with fail
    refine (l1Get_any s _ hs).mono ?_
    rintro e w1 ⟨v, b, rfl, hno, hyes, hb1⟩
    obtain ⟨rfl, ho⟩ := hyes l HG.out
    have HO : Hid (OwnNd w.heap.size w1 v l) := ho
    obtain ⟨a, cap, rfl, hi⟩ := ho.is
    have HB : Hid (Below w.heap.size w w1) := hb1
    have HI : Hid (IsNds w1.heap.size w1 a l.length l) := hi
    obtain ⟨n, hn⟩ : ∃ n, l.length = n := ⟨_, rfl⟩
    rw [hn] at HI hl24 HO
    rw [hn]
    clear hno hyes hb1 ho hi hn
    go_wp2_with fail
    refine (l1Put_any w1.heap.size a n cap l _ (by omega) (Nat.le_refl _) HSM.out HI.out).mono ?_
    rintro e w2 ⟨rfl, hb2⟩
    have HB2 : Hid (Below w.heap.size w w2) := HB.out.trans (hb2.mono HB.out.size)
    have HO2 : Hid (OwnNd w.heap.size w2 (.slice a n cap) l) := HO.out.old hb2
    clear hb2
    obtain ⟨P, hP⟩ : ∃ P, putM l = P := ⟨_, rfl⟩
    rw [hP] at HE
    rw [hP]
    clear hP
    cases he : P.toList.isEmpty
    · have HN : Hid (exprM s = some l) := by
        show exprM s = _
        rw [HE.out, if_neg (by rw [he]; decide)]
      go_wp2_with fail
      go_ret2
      exact ⟨_, _, rfl, (fun h => by rw [HN.out] at h; cases h), (fun l' hl => by rw [HN.out] at hl; cases hl; exact ⟨rfl, HO2.out⟩), HB2.out⟩
    · have HN : Hid (exprM s = none) := by
        show exprM s = _
        rw [HE.out, if_pos he]
      go_wp2_with fail
      go_ret2
      exact ⟨_, _, rfl, fun _ => ⟨rfl, rfl⟩, (fun l' hl => by rw [HN.out] at hl; cases hl), HB2.out⟩
end Go.Proofs.YtcajjngjojegfaaGreatDoor
