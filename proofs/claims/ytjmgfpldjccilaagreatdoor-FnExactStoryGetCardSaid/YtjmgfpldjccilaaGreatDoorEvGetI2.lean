/- How the program finds an event's kind, and a number among its words. -/
import Derived.Test.YtjmgfpldjccilaaGreatDoorEvGetI
import Derived.Test.YtjmgfpldjccilaaGreatDoorEvGot
namespace Go.Proofs.YtjmgfpldjccilaaGreatDoor
open Go Go.RowKit Go.PlainAid
set_option linter.unusedSimpArgs false
set_option linter.unusedVariables false

/-- a word is read as a kind: where it is one, as that -/
def ReadsK (s : ByteArray) (k : Int) : Prop := ∀ j : Int, 1 ≤ j → j ≤ 9 → s = bt8 (wd j) → k = j
theorem idx_word0 (W : Nat → ByteArray) (u : World) : (Instr.index 49 (.agg #[.string (W 0), .string (W 1), .string (W 2), .string (W 3), .string (W 4), .string (W 5), .string (W 6), .string (W 7), .string (W 8), .string (W 9)]) (.int .i64 0)).run Tryz.prog u = .ok (.string (W 0)) u := by kernel_rfl
theorem idx_word1 (W : Nat → ByteArray) (u : World) : (Instr.index 49 (.agg #[.string (W 0), .string (W 1), .string (W 2), .string (W 3), .string (W 4), .string (W 5), .string (W 6), .string (W 7), .string (W 8), .string (W 9)]) (.int .i64 1)).run Tryz.prog u = .ok (.string (W 1)) u := by kernel_rfl
theorem idx_word2 (W : Nat → ByteArray) (u : World) : (Instr.index 49 (.agg #[.string (W 0), .string (W 1), .string (W 2), .string (W 3), .string (W 4), .string (W 5), .string (W 6), .string (W 7), .string (W 8), .string (W 9)]) (.int .i64 2)).run Tryz.prog u = .ok (.string (W 2)) u := by kernel_rfl
theorem idx_word3 (W : Nat → ByteArray) (u : World) : (Instr.index 49 (.agg #[.string (W 0), .string (W 1), .string (W 2), .string (W 3), .string (W 4), .string (W 5), .string (W 6), .string (W 7), .string (W 8), .string (W 9)]) (.int .i64 3)).run Tryz.prog u = .ok (.string (W 3)) u := by kernel_rfl
theorem idx_word4 (W : Nat → ByteArray) (u : World) : (Instr.index 49 (.agg #[.string (W 0), .string (W 1), .string (W 2), .string (W 3), .string (W 4), .string (W 5), .string (W 6), .string (W 7), .string (W 8), .string (W 9)]) (.int .i64 4)).run Tryz.prog u = .ok (.string (W 4)) u := by kernel_rfl
theorem idx_word5 (W : Nat → ByteArray) (u : World) : (Instr.index 49 (.agg #[.string (W 0), .string (W 1), .string (W 2), .string (W 3), .string (W 4), .string (W 5), .string (W 6), .string (W 7), .string (W 8), .string (W 9)]) (.int .i64 5)).run Tryz.prog u = .ok (.string (W 5)) u := by kernel_rfl
theorem idx_word6 (W : Nat → ByteArray) (u : World) : (Instr.index 49 (.agg #[.string (W 0), .string (W 1), .string (W 2), .string (W 3), .string (W 4), .string (W 5), .string (W 6), .string (W 7), .string (W 8), .string (W 9)]) (.int .i64 6)).run Tryz.prog u = .ok (.string (W 6)) u := by kernel_rfl
theorem idx_word7 (W : Nat → ByteArray) (u : World) : (Instr.index 49 (.agg #[.string (W 0), .string (W 1), .string (W 2), .string (W 3), .string (W 4), .string (W 5), .string (W 6), .string (W 7), .string (W 8), .string (W 9)]) (.int .i64 7)).run Tryz.prog u = .ok (.string (W 7)) u := by kernel_rfl
theorem idx_word8 (W : Nat → ByteArray) (u : World) : (Instr.index 49 (.agg #[.string (W 0), .string (W 1), .string (W 2), .string (W 3), .string (W 4), .string (W 5), .string (W 6), .string (W 7), .string (W 8), .string (W 9)]) (.int .i64 8)).run Tryz.prog u = .ok (.string (W 8)) u := by kernel_rfl
theorem idx_word9 (W : Nat → ByteArray) (u : World) : (Instr.index 49 (.agg #[.string (W 0), .string (W 1), .string (W 2), .string (W 3), .string (W 4), .string (W 5), .string (W 6), .string (W 7), .string (W 8), .string (W 9)]) (.int .i64 9)).run Tryz.prog u = .ok (.string (W 9)) u := by kernel_rfl
theorem idx_words (W : Nat → ByteArray) (k : Nat) (hk : k < 10) (u : World) : (Instr.index 49 (.agg #[.string (W 0), .string (W 1), .string (W 2), .string (W 3), .string (W 4), .string (W 5), .string (W 6), .string (W 7), .string (W 8), .string (W 9)]) (.int .i64 (k : Int))).run Tryz.prog u = .ok (.string (W k)) u := by
  match k, hk with
  | 0, _ => exact idx_word0 W u
  | 1, _ => exact idx_word1 W u
  | 2, _ => exact idx_word2 W u
  | 3, _ => exact idx_word3 W u
  | 4, _ => exact idx_word4 W u
  | 5, _ => exact idx_word5 W u
  | 6, _ => exact idx_word6 W u
  | 7, _ => exact idx_word7 W u
  | 8, _ => exact idx_word8 W u
  | 9, _ => exact idx_word9 W u
  | k + 10, h => omega

set_option maxHeartbeats 1600000 in
set_option maxRecDepth 100000 in
theorem eventKind_any (s : ByteArray) (w : World) (hT : TbP w) :
    Calls Tryz.prog 49 #[.string s] w fun e w' => ∃ k, e = .returned (.int .i64 k) ∧ ReadsK s k ∧ Below w.heap.size w w' := by
  have cs := hT.words
  have hg := hT.lt
  obtain ⟨W, hW⟩ : ∃ W : Nat → ByteArray, ∀ k, bt8 (wordsL.getD k []) = W k := ⟨_, fun _ => rfl⟩
  simp only [hW] at cs
  have c0 := cs 0 (by decide)
  have c1 := cs 1 (by decide)
  have c2 := cs 2 (by decide)
  have c3 := cs 3 (by decide)
  have c4 := cs 4 (by decide)
  have c5 := cs 5 (by decide)
  have c6 := cs 6 (by decide)
  have c7 := cs 7 (by decide)
  have c8 := cs 8 (by decide)
  have c9 := cs 9 (by decide)
  have HW : Hid (∀ (n : Nat), n < 10 → (∀ j, j < n → W j ≠ s) → s = W n → ReadsK s n) := fun n hn hno e j h1 h2 e2 => by
    have h3 : s = W j.toNat := by rw [e2, ← hW]; rfl
    rcases Nat.lt_trichotomy j.toNat n with h | h | h
    · exact absurd h3.symm (hno _ h)
    · omega
    · exfalso
      rw [e, ← hW, ← hW] at h3
      have key : ∀ a b : Fin 10, wordsL.getD a.val [] = wordsL.getD b.val [] → a = b := by decide
      have := key ⟨n, hn⟩ ⟨j.toNat, by omega⟩ (bt8_inj h3)
      have := congrArg Fin.val this
      simp at this
      omega
  have HN : Hid ((∀ j, j < 10 → W j ≠ s) → ReadsK s 0) := fun hno j h1 h2 e2 => by
    exact absurd (show W j.toNat = s by rw [e2, ← hW]; rfl) (hno _ (by omega))
  have hAt := idx_words W
  obtain ⟨A, hA⟩ : ∃ A : Array Value, #[.string (W 0), .string (W 1), .string (W 2), .string (W 3), .string (W 4), .string (W 5), .string (W 6), .string (W 7), .string (W 8), .string (W 9)] = A := ⟨_, rfl⟩
  rw [hA] at hAt
  have HA := hidOf hA
  have HAT := hidOf hAt
  clear cs hW hA hAt hT
  go_enter Tryz.func49, Tryz.ntmps49
  go_wp2_with fail
  rw [HA.out]
  clear HA c0 c1 c2 c3 c4 c5 c6 c7 c8 c9
  go_loop [6] (fun i => ∃ k : Nat, k ≤ 10 ∧ i = .int .i64 k ∧ Hid (∀ j, j < k → W j ≠ s)) (fun i => 10 - (intOf i).toNat)
  case atStart => exact ⟨0, Nat.zero_le _, rfl, fun j h => absurd h (Nat.not_lt_zero _)⟩
  case round =>
    obtain ⟨k, hk, rfl, HK⟩ := hrel
    by_cases hlt : k < 10
    · have ha := HAT.out k hlt
      have hlt' : (k : Int) < 10 := by omega
      obtain ⟨x, hx⟩ : ∃ x, W k = x := ⟨_, rfl⟩
      rw [hx] at ha
      have HX := hidOf hx
      clear hx
      by_cases e : x = s
      · have HR := hidOf (HW.out k hlt HK.out (by rw [HX.out]; exact e.symm))
        subst e
        go_wp2_with fail
        go_ret
        exact ⟨k, rfl, HR.out, Below.refl _ _⟩
      · have HE := hidOf e
        have hb := txt_ne e
        clear e
        go_wp2_with fail
        go_round
        case rel =>
          refine ⟨k + 1, by omega, by go_num, fun j hj => ?_⟩
          by_cases e : j = k
          · rw [e, HX.out]; exact HE.out
          · exact HK.out j (by omega)
        case measure => simp [intOf]; omega
    · have : k = 10 := by omega
      subst this
      have HR := hidOf (HN.out HK.out)
      go_wp2_with fail
      go_ret
      exact ⟨0, rfl, HR.out, Below.refl _ _⟩

/-- a word at a place, as a number; 0, if there is none -/
def ReadsAt (l : List ByteArray) (p : Nat) (v : Int) : Prop := (∀ x, l[p]? = some x → Reads x v) ∧ (l.length ≤ p → v = 0)
set_option maxHeartbeats 800000 in
set_option maxRecDepth 100000 in
theorem numberAt_any (B : Nat) (a : Option Addr) (n c p : Nat) (l : List ByteArray) (w : World) (hT : TbG w) (hB : B ≤ w.heap.size) (hn : n ≤ 1048577) (hp : p ≤ 5) (hz : IsStrs B w a n l) (hs : ∀ x ∈ l, x.size ≤ 1048576) :
    Calls Tryz.prog 50 #[.slice a n c, .int .i64 p] w fun e w' => ∃ v, e = .returned (.int .i64 v) ∧ ReadsAt l p v ∧ Below w.heap.size w w' := by
  have hlen := hz.1
  by_cases hlt : p < n
  · rcases hz.2 with h0 | ⟨b, off, rfl, hb, hc⟩
    · omega
    have hpl : p < l.length := by omega
    have c0 := hc p hpl
    have hxs := hs _ (List.getElem_mem hpl)
    obtain ⟨x, hx⟩ : ∃ x, l[p]'hpl = x := ⟨_, rfl⟩
    rw [hx] at c0 hxs
    have HC := hidOf (numberOf_any x w hT hxs)
    have HR : Hid (∀ v, Reads x v → ReadsAt l p v) := fun v h => ⟨fun y hy => by
      rw [List.getElem?_eq_getElem hpl, hx] at hy
      cases hy
      exact h, fun h => by omega⟩
    have hbr : b < w.heap.size := by omega
    have h1 : ¬ ((p : Int) ≥ n) := by omega
    clear hc hx hT hs hz
    go_enter Tryz.func50, Tryz.ntmps50
    go_wp2_with fail
    refine HC.out.mono ?_
    rintro e w1 ⟨v, rfl, hr, hb1⟩
    have HV := hidOf hr
    have HB := hidOf hb1
    clear hr hb1
    go_wp2_with fail
    go_ret
    exact ⟨v, rfl, HR.out v HV.out, HB.out⟩
  · have HR : Hid (ReadsAt l p 0) := ⟨fun y hy => by
      have := (List.getElem?_eq_some_iff.1 hy).1
      omega, fun _ => rfl⟩
    have h1 : (p : Int) ≥ n := by omega
    clear hT hs hz
    go_enter Tryz.func50, Tryz.ntmps50
    go_wp2_with fail
    go_ret
    exact ⟨0, rfl, HR.out, Below.refl _ _⟩
end Go.Proofs.YtjmgfpldjccilaaGreatDoor
