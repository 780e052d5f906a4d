/- The reader's word, and numbers. -/
import Derived.Test.YtchemhjcknkbgaaGreatDoorBunY3
import Derived.Test.YtchemhjcknkbgaaGreatDoorProg
import Derived.Test.YtchemhjcknkbgaaGreatDoorBunY0
import Derived.Test.YtchemhjcknkbgaaGreatDoorBunY2
import Derived.WalkKit
import Derived.ProofKit
import Derived.Handy
import Derived.PlainAid
import Derived.Test.YtchemhjcknkbgaaGreatDoorBunY4
namespace Go.Proofs.YtchemhjcknkbgaaGreatDoor
open Go.RowKit Go.PlainAid
set_option linter.unusedSimpArgs false
set_option linter.unusedVariables false

def alnB (n : Int) : Bool := letB n || figB n
/-- the place of the next byte that is no letter and no figure -/
def wordF (s : ByteArray) : Nat → Nat → Nat
  | 0, a => a
  | f + 1, a => if a < s.size ∧ alnB (bt s a) = true then wordF s f (a + 1) else a
def wordTo (s : ByteArray) (a : Nat) : Nat := wordF s (s.size - a) a
theorem wordTo_step {s : ByteArray} {a : Nat} (h : a < s.size) (hb : alnB (bt s a) = true) : wordTo s a = wordTo s (a + 1) := by
  unfold wordTo
  rw [show s.size - a = (s.size - (a + 1)) + 1 from by omega, wordF, if_pos ⟨h, hb⟩]
theorem wordTo_stop {s : ByteArray} {a : Nat} (h : ¬ (a < s.size ∧ alnB (bt s a) = true)) : wordTo s a = a := by
  unfold wordTo
  cases s.size - a with
  | zero => rfl
  | succ f => rw [wordF, if_neg h]
theorem wordF_le (s : ByteArray) (f : Nat) : ∀ a, a ≤ wordF s f a ∧ (a ≤ s.size → wordF s f a ≤ s.size) := by
  induction f with
  | zero => intro a; simp [wordF]
  | succ f ih =>
    intro a
    unfold wordF
    split
    · have := ih (a + 1); omega
    · omega
theorem wordTo_le {s : ByteArray} {a : Nat} (h : a ≤ s.size) : a ≤ wordTo s a ∧ wordTo s a ≤ s.size := ⟨(wordF_le s _ a).1, (wordF_le s _ a).2 h⟩

theorem l1Letter_is {n : Int} {b : Bool} (h : letB n = b) (w : World) : Calls Tryz.prog 153 #[.int .u8 n] w fun e w' => e = .returned (.bool b) ∧ w' = w := by
  rw [← h]; exact l1Letter_any n w
theorem l1Figure_is {n : Int} {b : Bool} (h : figB n = b) (w : World) : Calls Tryz.prog 154 #[.int .u8 n] w fun e w' => e = .returned (.bool b) ∧ w' = w := by
  rw [← h]; exact l1Figure_any n w

set_option maxHeartbeats 1600000 in
set_option maxRecDepth 100000 in
theorem word_any (p : Nat) (s : ByteArray) (st : Par) (v : Value) (w : World) (hs : s.size ≤ 1048576) (ha : st.at_ ≤ s.size) (h : ParAt p w s st v) :
    Calls Tryz.prog 226 #[.pointer (some ⟨p, 0, none⟩)] w fun e w' => e = .returned (.string (s.extract st.at_ (wordTo s st.at_))) ∧ ParAt p w' s { st with at_ := wordTo s st.at_ } v ∧ Touch p v w w' v := by
  have hb := get_bt s
  have HP : Hid (ParAt p w s st v) := h
  obtain ⟨a0, hat⟩ : ∃ a0, st.at_ = a0 := ⟨_, rfl⟩
  have HA : Hid (st.at_ = a0) := hat
  have c1 := h.c1
  rw [hat] at c1 ha
  have hle := wordTo_le ha
  clear h hat
  go_enter Tryz.func226, Tryz.ntmps226
  go_wp2_with fail
  go_loopw [] (fun wr => ∃ k : Nat, k ≤ s.size ∧ a0 ≤ k ∧ Hid (wordTo s k = wordTo s a0) ∧ Hid (ParAt p wr s { st with at_ := k } v) ∧ Touch p v w wr v) (fun wr => s.size - (intOf ((wr.cell? ⟨p, 1, none⟩).getD undef)).toNat)
  case atStart => exact ⟨a0, ha, Nat.le_refl _, rfl, by have h1 := HP.out; rw [show st = { st with at_ := a0 } from by rw [← HA.out]] at h1; exact h1, Touch.refl _ _ _⟩
  case round =>
    clear c1
    obtain ⟨k, hk, hk0, hsk, hpar, ht⟩ := hrel
    obtain ⟨c0, c1, c2, c3, c4, ho, hown⟩ := hpar.out
    simp only at c1 c2 c3 c4
    clear c2 c3 c4 hown
    by_cases hlt : k < s.size
    · have hltI : (k : Int) < s.size := by omega
      cases hl : letB (bt s k)
      · cases hf : figB (bt s k)
        · have HN : Hid (k = wordTo s a0) := (wordTo_stop (fun h => by simp [alnB, hl, hf] at h)).symm.trans hsk.out
          go_wp2_with fail
          go_quiet ((first | (go_at_call 153; exact Calls.quiet_of_same (l1Letter_any _ _)) | (go_at_call 154; exact Calls.quiet_of_same (l1Figure_any _ _))))
          go_wp2_with fail
          go_quiet (fail)
          go_wp2_with fail
          go_ret
          rw [HA.out]
          exact ⟨by rw [← HN.out]; rfl, by rw [← HN.out]; exact (hpar.out.drewN _).drewN _, (ht.drewN _).drewN _⟩
        · have HN : Hid (wordTo s (k + 1) = wordTo s a0) := (wordTo_step hlt (by simp [alnB, hf])).symm.trans hsk.out
          go_wp2_with fail
          go_quiet ((first | (go_at_call 153; exact Calls.quiet_of_same (l1Letter_any _ _)) | (go_at_call 154; exact Calls.quiet_of_same (l1Figure_any _ _))))
          go_wp2_with fail
          go_roundw
          case rel => exact ⟨k + 1, by omega, by omega, HN.out, (hpar.out.drewN _).at1 (k + 1), (ht.drewN _).setCell _ _⟩
          case measure =>
            rw [World.cell?_setCell_same (wr.drewN nq) ⟨p, 1, none⟩ _ (u := .int .i64 k) c1, c1]
            simp [intOf]; omega
      · have HN : Hid (wordTo s (k + 1) = wordTo s a0) := (wordTo_step hlt (by simp [alnB, hl])).symm.trans hsk.out
        go_wp2_with fail
        go_quiet ((go_at_call 153; exact Calls.quiet_of_same (l1Letter_is hl _)))
        go_wp2_with fail
        go_roundw
        case rel => exact ⟨k + 1, by omega, by omega, HN.out, (hpar.out.drewN _).at1 (k + 1), (ht.drewN _).setCell _ _⟩
        case measure =>
          rw [World.cell?_setCell_same (wr.drewN nq) ⟨p, 1, none⟩ _ (u := .int .i64 k) c1, c1]
          simp [intOf]; omega
    · have hd : decide ((k : Int) < s.size) = false := by simp; omega
      have HN : Hid (k = wordTo s a0) := (wordTo_stop (fun h => hlt h.1)).symm.trans hsk.out
      go_wp2_with fail
      go_quiet ((first | (go_at_call 153; exact Calls.quiet_of_same (l1Letter_any _ _)) | (go_at_call 154; exact Calls.quiet_of_same (l1Figure_any _ _))))
      go_wp2_with fail
      go_quiet (fail)
      go_wp2_with fail
      go_ret
      rw [HA.out]
      exact ⟨by rw [← HN.out]; rfl, by rw [← HN.out]; exact (hpar.out.drewN _).drewN _, (ht.drewN _).drewN _⟩
end Go.Proofs.YtchemhjcknkbgaaGreatDoor

/- Numbers of texts: the model's l1Num. -/
namespace Go.Proofs.YtchemhjcknkbgaaGreatDoor
open Go.RowKit Go.PlainAid
set_option linter.unusedSimpArgs false
set_option linter.unusedVariables false

/-- the number that the first k figures are -/
def numTo (s : ByteArray) : Nat → Int
  | 0 => 0
  | k + 1 => numTo s k * 10 + (bt s k - 48)
def figTo (s : ByteArray) : Nat → Bool
  | 0 => true
  | k + 1 => figTo s k && figB (bt s k)
def numOk (s : ByteArray) : Bool := figTo s s.size && decide (1 ≤ s.size ∧ s.size ≤ 6 ∧ ¬ (1 < s.size ∧ bt s 0 = 48))
/-- the number that a text is; -1, if it is none -/
def numOf (s : ByteArray) : Int := if numOk s then numTo s s.size else -1

theorem figTo_le (s : ByteArray) {j k : Nat} (h : j ≤ k) (hk : figTo s k = true) : figTo s j = true := by
  induction k with
  | zero => have : j = 0 := by omega
            subst this; rfl
  | succ k ih =>
    by_cases e : j = k + 1
    · subst e; exact hk
    · simp [figTo] at hk; exact ih (by omega) hk.1
theorem figTo_no (s : ByteArray) {k n : Nat} (h : k < n) (hk : figB (bt s k) = false) : figTo s n = false := by
  cases e : figTo s n with
  | false => rfl
  | true => have := figTo_le s (j := k + 1) (by omega) e
            simp [figTo, hk] at this
theorem numTo_range (s : ByteArray) : ∀ k, figTo s k = true → 0 ≤ numTo s k ∧ numTo s k < 10 ^ k
  | 0, _ => by simp [numTo]
  | k + 1, h => by
    simp [figTo, figB] at h
    obtain ⟨h1, h2, h3⟩ := h
    have := numTo_range s k h1
    have e : (10 : Int) ^ (k + 1) = 10 ^ k * 10 := Int.pow_succ 10 k
    rw [numTo, e]
    generalize (10 : Int) ^ k = t at *
    omega
theorem pow10_le {k : Nat} (h : k ≤ 6) : (10 : Int) ^ k ≤ 1000000 := by
  have : k = 0 ∨ k = 1 ∨ k = 2 ∨ k = 3 ∨ k = 4 ∨ k = 5 ∨ k = 6 := by omega
  rcases this with rfl | rfl | rfl | rfl | rfl | rfl | rfl <;> decide
theorem numTo_le {s : ByteArray} {k : Nat} (h : figTo s k = true) (hk : k ≤ 6) : 0 ≤ numTo s k ∧ numTo s k < 1000000 := by
  have h1 := numTo_range s k h
  have h2 := pow10_le hk
  omega

set_option maxHeartbeats 1600000 in
set_option maxRecDepth 100000 in
theorem l1Num_any (s : ByteArray) (w : World) (hs : s.size ≤ 1048576) : Calls Tryz.prog 227 #[.string s] w fun e w' => e = .returned (.int .i64 (numOf s)) ∧ w' = w := by
  have hb := get_bt s
  obtain ⟨D, hD⟩ : ∃ D, numOf s = D := ⟨_, rfl⟩
  have HD : Hid (numOf s = D) := hD
  rw [hD]; clear hD
  go_enter Tryz.func227, Tryz.ntmps227
  go_wp2_with fail
  go_loop [3, 4] (fun vn i => ∃ k : Nat, k ≤ s.size ∧ k ≤ 6 ∧ i = .int .i64 k ∧ vn = .int .i64 (numTo s k) ∧ Hid (figTo s k = true)) (fun _ i => s.size - (intOf i).toNat)
  case atStart => exact ⟨0, Nat.zero_le _, by omega, rfl, rfl, rfl⟩
  case round =>
    obtain ⟨k, hk, hk6, rfl, rfl, hfig⟩ := hrel
    obtain ⟨n1, n2⟩ := numTo_le hfig.out hk6
    by_cases hlt : k < s.size
    · cases hf : figB (bt s k)
      · have HN : Hid (D = -1) := by
          show D = -1
          rw [← HD.out, numOf, numOk, figTo_no s hlt hf]; rfl
        go_wp2_with (go_at_call 154; refine (l1Figure_is hf _).mono ?_; rintro e w' ⟨rfl, rfl⟩)
        go_ret
        exact ⟨ret_int HN.out.symm, rfl⟩
      · by_cases h6 : 6 ≤ k
        · have HN : Hid (D = -1) := by
            show D = -1
            rw [← HD.out, numOf, numOk, decide_eq_false (by omega)]; simp
          go_wp2_with (go_at_call 154; refine (l1Figure_is hf _).mono ?_; rintro e w' ⟨rfl, rfl⟩)
          go_ret
          exact ⟨ret_int HN.out.symm, rfl⟩
        · have hf2 := hf
          simp [figB] at hf2
          obtain ⟨f1, f2⟩ := hf2
          have HF : Hid (figTo s (k + 1) = true) := by
            show figTo s (k + 1) = true
            rw [figTo, hfig.out, hf]; rfl
          have HN : Hid (numTo s (k + 1) = numTo s k * 10 + (bt s k - 48)) := rfl
          generalize numTo s k = nn at *
          go_wp2_with (go_at_call 154; refine (l1Figure_is hf _).mono ?_; rintro e w' ⟨rfl, rfl⟩)
          go_round
          case rel => exact ⟨k + 1, by omega, by omega, by go_num, by rw [HN.out], HF.out⟩
          case measure => simp [intOf]; omega
    · have : k = s.size := by omega
      by_cases h0 : s.size = 0
      · have h0' : ((s.size : Int) == 0) = true := by simp [h0]
        have HN : Hid (D = -1) := by
          show D = -1
          rw [← HD.out, numOf, numOk, decide_eq_false (by omega)]; simp
        clear h0
        go_wp2_with fail
        go_ret
        exact ⟨ret_int HN.out.symm, rfl⟩
      have h0' : ((s.size : Int) == 0) = false := by simp [h0]
      by_cases h1 : 1 < s.size
      · by_cases h48 : bt s 0 = 48
        · have h48' : (bt s 0 == 48) = true := by simp [h48]
          have HN : Hid (D = -1) := by
            show D = -1
            rw [← HD.out, numOf, numOk, decide_eq_false (fun h => h.2.2 ⟨h1, h48⟩)]; simp
          clear h48
          go_wp2_with fail
          go_ret
          exact ⟨ret_int HN.out.symm, rfl⟩
        · have h48' : (bt s 0 == 48) = false := by simp [h48]
          have HN : Hid (D = numTo s s.size) := by
            show D = _
            rw [← HD.out, numOf, numOk, ← this, hfig.out, decide_eq_true (by rw [this]; exact ⟨by omega, by omega, fun h => h48 h.2⟩)]; rfl
          clear h48
          go_wp2_with fail
          go_ret
          exact ⟨ret_int HN.out.symm, rfl⟩
      · have HN : Hid (D = numTo s s.size) := by
          show D = _
          rw [← HD.out, numOf, numOk, ← this, hfig.out, decide_eq_true (by rw [this]; exact ⟨by omega, by omega, fun h => h1 h.1⟩)]; rfl
        go_wp2_with fail
        go_ret
        exact ⟨ret_int HN.out.symm, rfl⟩
end Go.Proofs.YtchemhjcknkbgaaGreatDoor

/- Numbers in memory. -/
namespace Go.Proofs.YtchemhjcknkbgaaGreatDoor
open Go Go.RowKit Go.PlainAid
set_option linter.unusedSimpArgs false
set_option linter.unusedVariables false

/-- the slice (a, n), below block B, reads in w as these numbers -/
def IsInts (B : Nat) (w : World) (a : Option Addr) (n : Nat) (vs : List Int) : Prop :=
  vs.length = n ∧ (n = 0 ∨ ∃ b off, a = some ⟨b, off, none⟩ ∧ b < B ∧ ∀ i, i < n → w.cell? ⟨b, off + i, none⟩ = some (.int .i64 (vs.getD i 0)))
theorem IsInts.below {B : Nat} {w w' : World} {a : Option Addr} {n : Nat} {vs : List Int} (h : IsInts B w a n vs) (hb : Below B w w') : IsInts B w' a n vs := by
  obtain ⟨h1, h2⟩ := h
  refine ⟨h1, ?_⟩
  rcases h2 with h2 | ⟨b, off, rfl, hlt, hc⟩
  · exact .inl h2
  · exact .inr ⟨b, off, rfl, hlt, fun i hi => (hb.cell hlt).trans (hc i hi)⟩
theorem IsInts.mono {B B' : Nat} {w : World} {a : Option Addr} {n : Nat} {vs : List Int} (h : IsInts B w a n vs) (hb : B ≤ B') : IsInts B' w a n vs := by
  obtain ⟨h1, h2⟩ := h
  refine ⟨h1, ?_⟩
  rcases h2 with h2 | ⟨b, off, rfl, hlt, hc⟩
  · exact .inl h2
  · exact .inr ⟨b, off, rfl, by omega, hc⟩

theorem infoInt : (Tryz.prog.info? 3).map (fun i => (i.zero, i.size, i.bytes)) = some (some (.int .i64 0), 1, 8) := by kernel_rfl
def intCell (vs : List Int) (j : Nat) : Value := .int .i64 (vs.getD j 0)
end Go.Proofs.YtchemhjcknkbgaaGreatDoor

/- What moves within a range of blocks. -/
namespace Go.Proofs.YtchemhjcknkbgaaGreatDoor
open Go Go.RowKit Go.PlainAid
set_option linter.unusedSimpArgs false
set_option linter.unusedVariables false

/-- all that was is as it was, but blocks from L to H -/
structure MvR (L H : Nat) (w w' : World) : Prop where
  os : w'.os = w.os
  tape : w'.tape = w.tape
  output : w'.output = w.output
  size : w.heap.size ≤ w'.heap.size
  block : ∀ g, g < w.heap.size → ¬ (L ≤ g ∧ g < H) → w'.heap[g]? = w.heap[g]?
theorem MvR.refl (L H : Nat) (w : World) : MvR L H w w := ⟨rfl, rfl, rfl, Nat.le_refl _, fun _ _ _ => rfl⟩
theorem MvR.trans {L H : Nat} {a b c : World} (h : MvR L H a b) (k : MvR L H b c) : MvR L H a c :=
  ⟨k.os.trans h.os, k.tape.trans h.tape, k.output.trans h.output, Nat.le_trans h.size k.size, fun g h1 h2 => (k.block g (Nat.lt_of_lt_of_le h1 h.size) h2).trans (h.block g h1 h2)⟩
theorem MvR.wide {L H L' H' : Nat} {a b : World} (h : MvR L H a b) (h1 : L' ≤ L) (h2 : H ≤ H') : MvR L' H' a b :=
  ⟨h.os, h.tape, h.output, h.size, fun g hg hn => h.block g hg (fun ⟨x, y⟩ => hn ⟨by omega, by omega⟩)⟩
theorem Mv.range {L H p : Nat} {a b : World} (h : Mv p a b) (h1 : L ≤ p) (h2 : p < H) : MvR L H a b :=
  ⟨h.os, h.tape, h.output, h.size, fun g hg hn => h.block g hg (fun e => hn (by subst e; exact ⟨h1, h2⟩))⟩
theorem MvR.of_below {L H : Nat} {w w' : World} (h : Below w.heap.size w w') : MvR L H w w' := ⟨h.os, h.tape, h.output, h.size, fun g h1 _ => h.block g h1⟩
/-- to one who looks below the range nothing moved -/
theorem MvR.belowL {B L H : Nat} {w w' : World} (h : MvR L H w w') (hB : B ≤ L) (hw : B ≤ w.heap.size) : Below B w w' :=
  ⟨h.os, h.tape, h.output, h.size, fun q hq => h.block q (by omega) (by omega)⟩
theorem Open.mvR {b N L H : Nat} {w w' : World} (h : Open b N w) (hm : MvR L H w w') (hp : ¬ (L ≤ b ∧ b < H)) : Open b N w' :=
  ⟨Nat.lt_of_lt_of_le h.1 hm.size, fun j hj => by
    obtain ⟨⟨v, h1⟩, h2⟩ := h.2 j hj
    exact ⟨⟨v, (World.cell?_of_block (hm.block b h.1 hp)).trans h1⟩, (World.frozen?_of_block (hm.block b h.1 hp)).trans h2⟩⟩
theorem BoxAt.mvR {b L H : Nat} {vals : List Value} {w w' : World} (h : BoxAt b vals w) (hm : MvR L H w w') (hp : ¬ (L ≤ b ∧ b < H)) : BoxAt b vals w' :=
  ⟨Nat.lt_of_lt_of_le h.1 hm.size, fun j u hu => ⟨(World.cell?_of_block (hm.block b h.1 hp)).trans (h.2 j u hu).1, (World.frozen?_of_block (hm.block b h.1 hp)).trans (h.2 j u hu).2⟩⟩
/-- the cells of a block stay cells that may be written -/
def Keep (b : Nat) (w w' : World) : Prop := ∀ N, Open b N w → Open b N w'
theorem Keep.refl (b : Nat) (w : World) : Keep b w w := fun _ h => h
theorem Keep.trans {b : Nat} {w w' w2 : World} (h : Keep b w w') (k : Keep b w' w2) : Keep b w w2 := fun N q => k N (h N q)
theorem Keep.below {b : Nat} {w w' : World} (h : Below w.heap.size w w') : Keep b w w' := fun _ q => q.below h
theorem Keep.cell (b : Nat) (w : World) (i : Nat) (v : Value) : Keep b w (w.setCell ⟨b, i, none⟩ v) := by
  intro N h
  refine ⟨by simpa [World.setCell] using h.1, fun j hj => ?_⟩
  obtain ⟨⟨u, h1⟩, h2⟩ := h.2 j hj
  refine ⟨?_, by simpa using h2⟩
  by_cases e : j = i
  · subst e; exact ⟨v, World.cell?_setCell_same _ _ _ h1⟩
  · exact ⟨u, by rw [setCell_ne _ _ _ _ _ (fun h => e h.symm)]; exact h1⟩
/-- blocks that may be written stay so, whichever of them moved -/
theorem Open.kept {b g N : Nat} {w w' : World} (h : Open b N w) (hm : Mv g w w') (hk : Keep g w w') : Open b N w' := by
  by_cases e : b = g
  · subst e; exact hk N h
  · exact h.mv hm e
end Go.Proofs.YtchemhjcknkbgaaGreatDoor
