/- Texts in memory; the model's l1Find. -/
import Derived.Test.YtjmgfpldjccilaaGreatDoorProg
import Derived.Test.YtjmgfpldjccilaaGreatDoorCommon
import Derived.WalkKit
import Derived.ProofKit
import Derived.Handy
import Derived.PlainAid
import Derived.Lib.Strings
namespace Go.Proofs.YtjmgfpldjccilaaGreatDoor
open Go Go.RowKit Go.PlainAid
set_option linter.unusedSimpArgs false
set_option linter.unusedVariables false

def IsStrs (B : Nat) (w : World) (a : Option Addr) (n : Nat) (l : List ByteArray) : Prop :=
  l.length = n ∧ (n = 0 ∨ ∃ b off, a = some ⟨b, off, none⟩ ∧ b < B ∧ ∀ i, (h : i < l.length) → w.cell? ⟨b, off + i, none⟩ = some (.string l[i]))
theorem IsStrs.below {B : Nat} {w w' : World} {a : Option Addr} {n : Nat} {l : List ByteArray} (h : IsStrs B w a n l) (hb : Below B w w') : IsStrs B w' a n l := by
  obtain ⟨h1, h2⟩ := h
  refine ⟨h1, ?_⟩
  rcases h2 with h2 | ⟨b, off, rfl, hlt, hc⟩
  · exact .inl h2
  · exact .inr ⟨b, off, rfl, hlt, fun i hi => (hb.cell (p := ⟨b, off + i, none⟩) hlt).trans (hc i hi)⟩
theorem IsStrs.mono {B B' : Nat} {w : World} {a : Option Addr} {n : Nat} {l : List ByteArray} (h : IsStrs B w a n l) (hb : B ≤ B') : IsStrs B' w a n l := by
  obtain ⟨h1, h2⟩ := h
  refine ⟨h1, ?_⟩
  rcases h2 with h2 | ⟨b, off, rfl, hlt, hc⟩
  · exact .inl h2
  · exact .inr ⟨b, off, rfl, by omega, hc⟩

/-- the place of a name; -1, if it is not there -/
def findM : List ByteArray → ByteArray → Int
  | [], _ => -1
  | y :: r, x => if y = x then 0 else if findM r x < 0 then -1 else findM r x + 1
theorem findM_at {x : ByteArray} : ∀ {l : List ByteArray} {k : Nat}, (hk : k < l.length) → l[k] = x → (∀ j, (h : j < k) → l[j] ≠ x) → findM l x = k
  | y :: r, 0, _, h, _ => by simp at h; simp [findM, h]
  | y :: r, k + 1, hk, h, hb => by
    have h0 : y ≠ x := hb 0 (by omega)
    have ih := findM_at (l := r) (k := k) (by simpa using hk) (by simpa using h) (fun j hj => by simpa using hb (j + 1) (by omega))
    simp only [findM, if_neg h0, ih]
    rw [if_neg (by omega)]; simp
theorem findM_none {x : ByteArray} : ∀ {l : List ByteArray}, (∀ j, (h : j < l.length) → l[j] ≠ x) → findM l x = -1
  | [], _ => rfl
  | y :: r, hb => by
    have h0 : y ≠ x := hb 0 (by simp)
    have ih := findM_none (l := r) (x := x) (fun j hj => fun e => hb (j + 1) (by simp only [List.length_cons]; omega) e)
    simp only [findM, if_neg h0, ih]
    rfl
theorem findM_lt (l : List ByteArray) (x : ByteArray) : -1 ≤ findM l x ∧ findM l x < l.length := by
  induction l with
  | nil => exact ⟨Int.le_refl _, by show (-1 : Int) < 0; decide⟩
  | cons y r ih =>
    simp only [findM, List.length_cons]
    split
    · omega
    · split <;> omega

set_option maxHeartbeats 800000 in
set_option maxRecDepth 100000 in
theorem l1Find_any (B : Nat) (a : Option Addr) (n cap : Nat) (l : List ByteArray) (x : ByteArray) (w : World) (hn : n ≤ 1048576) (hx : x.size ≤ 1048576) (hls : ∀ y ∈ l, y.size ≤ 1048576) (hz : IsStrs B w a n l) :
    Calls Tryz.prog 52 #[.slice a n cap, .string x] w fun e w' => e = .returned (.int .i64 (findM l x)) ∧ w' = w := by
  obtain ⟨hlen, hcells⟩ := hz
  obtain ⟨D, hD⟩ : ∃ D, findM l x = D := ⟨_, rfl⟩
  have HD : Hid (findM l x = D) := hD
  rw [hD]; clear hD
  go_enter Tryz.func52, Tryz.ntmps52
  go_wp2_with fail
  go_loopw [5] (fun i wr => ∃ k : Nat, k ≤ n ∧ i = .int .i64 k ∧ Hid (∀ j, (h : j < l.length) → j < k → l[j] ≠ x) ∧ wr = w) (fun i _ => n - (intOf i).toNat)
  case atStart => exact ⟨0, Nat.zero_le _, rfl, fun j _ h => by omega, rfl⟩
  case round =>
    obtain ⟨k, hk, rfl, hdone, rfl⟩ := hrel
    by_cases hlt : k < n
    · rcases hcells with h0 | ⟨b, off, rfl, hb, hc⟩
      · omega
      have hkl : k < l.length := by omega
      have hcx := hc k hkl
      obtain ⟨y, hy⟩ : ∃ y, l[k] = y := ⟨_, rfl⟩
      have HY : Hid (l[k] = y) := hy
      rw [hy] at hcx
      clear hc hy hls
      by_cases hxy : y = x
      · subst hxy
        have HN : Hid (D = k) := by
          show D = k
          rw [← HD.out]
          exact findM_at hkl HY.out (fun j hj => hdone.out j (by omega) hj)
        go_wp2_with fail
        go_ret
        exact ⟨ret_int HN.out.symm, rfl⟩
      · have e2' : (y.toList == x.toList) = false := by
          simp only [beq_eq_false_iff_ne, ne_eq]
          intro e; exact hxy (by rw [Lib.toList_data, Lib.toList_data] at e; exact ByteArray.ext (Array.toList_inj.1 e))
        have HK : Hid (∀ j, (h : j < l.length) → j < k + 1 → l[j] ≠ x) := fun j h1 h2 => by
          rcases Nat.lt_or_ge j k with h3 | h3
          · exact hdone.out j h1 h3
          · have : j = k := by omega
            subst this
            rw [HY.out]; exact hxy
        clear hxy
        go_wp2_with fail
        go_roundw
        case rel => exact ⟨k + 1, by omega, by go_num, HK.out, trivial⟩
        case measure => simp [intOf]; omega
    · have HN : Hid (D = -1) := by
        show D = -1
        rw [← HD.out]
        exact findM_none (fun j hj => hdone.out j hj (by omega))
      go_wp2_with fail
      go_ret
      exact ⟨ret_int HN.out.symm, rfl⟩
end Go.Proofs.YtjmgfpldjccilaaGreatDoor
