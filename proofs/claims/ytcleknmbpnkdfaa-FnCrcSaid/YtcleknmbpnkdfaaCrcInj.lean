/- Sums of texts that differ in their last byte differ. -/
import Derived.Test.YtcleknmbpnkdfaaCrc
namespace Go.Proofs.Ytcleknmbpnkdfaa
open Go.RowKit Go.PlainAid

theorem xor_self_right (a b : Nat) : (a ^^^ b) ^^^ b = a := by rw [Nat.xor_assoc, Nat.xor_self, Nat.xor_zero]
theorem xor_can {a b c : Nat} (h : a ^^^ c = b ^^^ c) : a = b := by rw [← xor_self_right a c, h, xor_self_right]
theorem xor_can' {a b c : Nat} (h : c ^^^ a = c ^^^ b) : a = b := by rw [Nat.xor_comm c a, Nat.xor_comm c b] at h; exact xor_can h
theorem crcBit_top {x y : Nat} (hx : x < 4294967296) (hy : y < 4294967296) (h : (x / 2) ^^^ 3988292384 = y / 2) : False := by
  have h1 : ((x / 2) ^^^ 3988292384).testBit 31 = (y / 2).testBit 31 := by rw [h]
  rw [Nat.testBit_xor, Nat.testBit_lt_two_pow (show x / 2 < 2 ^ 31 by omega), Nat.testBit_lt_two_pow (show y / 2 < 2 ^ 31 by omega)] at h1
  revert h1
  decide
theorem crcBit_inj {x y : Nat} (hx : x < 4294967296) (hy : y < 4294967296) (h : crcBit x = crcBit y) : x = y := by
  unfold crcBit at h
  by_cases h1 : x % 2 = 1
  · by_cases h2 : y % 2 = 1
    · rw [if_pos h1, if_pos h2] at h
      have := xor_can h
      omega
    · rw [if_pos h1, if_neg h2] at h
      exact (crcBit_top hx hy h).elim
  · by_cases h2 : y % 2 = 1
    · rw [if_neg h1, if_pos h2] at h
      exact (crcBit_top hy hx h.symm).elim
    · rw [if_neg h1, if_neg h2] at h
      omega
theorem crcBits_inj (k : Nat) {x y : Nat} (hx : x < 4294967296) (hy : y < 4294967296) (h : crcBits k x = crcBits k y) : x = y := by
  induction k with
  | zero => exact h
  | succ k ih => exact ih (crcBit_inj (crcBits_lt k hx) (crcBits_lt k hy) h)
theorem bt_append_lt (s t : ByteArray) {k : Nat} (h : k < s.size) : bt (s ++ t) k = bt s k := by
  unfold bt
  have h2 : k < (s ++ t).size := by rw [ByteArray.size_append]; omega
  rw [dif_pos h, dif_pos h2, ByteArray.getElem_append_left h]
theorem bt_append_at (s t : ByteArray) (ht : 0 < t.size) : bt (s ++ t) s.size = bt t 0 := by
  unfold bt
  have h2 : s.size < (s ++ t).size := by rw [ByteArray.size_append]; omega
  rw [dif_pos ht, dif_pos h2, ByteArray.getElem_append_right (Nat.le_refl _)]
  simp
theorem crcTo_append (s t : ByteArray) : ∀ k, k ≤ s.size → crcTo (s ++ t) k = crcTo s k
  | 0, _ => rfl
  | k + 1, h => by rw [crcTo, crcTo, crcTo_append s t k (by omega), bt_append_lt s t (by omega)]
/-- one byte more -/
theorem crcM_more (s t : ByteArray) (ht : t.size = 1) : crcM (s ++ t) = 4294967295 ^^^ crcBits 8 (crcTo s s.size ^^^ (bt t 0).toNat) := by
  unfold crcM
  rw [ByteArray.size_append, ht, crcTo, crcTo_append s t _ (Nat.le_refl _), bt_append_at s t (by omega)]
theorem crcM_other (s t u : ByteArray) (ht : t.size = 1) (hu : u.size = 1) (h : bt t 0 ≠ bt u 0) : crcM (s ++ t) ≠ crcM (s ++ u) := by
  intro e
  rw [crcM_more s t ht, crcM_more s u hu] at e
  have h1 := bt_lt t 0
  have h2 := bt_lt u 0
  have e2 := crcBits_inj 8 (xor_lt (crcTo_lt s _) (by omega)) (xor_lt (crcTo_lt s _) (by omega)) (xor_can' e)
  have e3 := xor_can' e2
  apply h
  omega
theorem crc_known : crcM ⟨#[49, 50, 51, 52, 53, 54, 55, 56, 57]⟩ = 3421780262 := by decide +kernel
end Go.Proofs.Ytcleknmbpnkdfaa
