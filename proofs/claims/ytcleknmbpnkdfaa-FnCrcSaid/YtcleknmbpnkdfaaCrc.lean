/- Sums of texts: what Crc of the program and of the model come to, for every string. -/
import Derived.Test.YtcleknmbpnkdfaaProg
import Derived.Test.YtcleknmbpnkdfaaCommon
import Derived.WalkKit
import Derived.ProofKit
import Derived.Handy
import Derived.PlainAid
import Derived.Laws.BitsAllLaws
namespace Go.Proofs.Ytcleknmbpnkdfaa
open Go.RowKit Go.PlainAid

def crcBit (x : Nat) : Nat := if x % 2 = 1 then (x / 2) ^^^ 3988292384 else x / 2
def crcBits : Nat → Nat → Nat
  | 0, x => x
  | k + 1, x => crcBit (crcBits k x)
def crcTo (s : ByteArray) : Nat → Nat
  | 0 => 4294967295
  | k + 1 => crcBits 8 (crcTo s k ^^^ (bt s k).toNat)
def crcM (s : ByteArray) : Nat := 4294967295 ^^^ crcTo s s.size

theorem xor_lt {a b : Nat} (ha : a < 4294967296) (hb : b < 4294967296) : a ^^^ b < 4294967296 := Nat.xor_lt_two_pow (n := 32) ha hb
theorem crcBit_lt {x : Nat} (h : x < 4294967296) : crcBit x < 4294967296 := by
  unfold crcBit
  split
  · exact xor_lt (by omega) (by omega)
  · omega
theorem crcBits_lt (k : Nat) {x : Nat} (h : x < 4294967296) : crcBits k x < 4294967296 := by
  induction k with
  | zero => exact h
  | succ k ih => exact crcBit_lt ih
theorem bt_lt (s : ByteArray) (k : Nat) : 0 ≤ bt s k ∧ bt s k < 256 := by
  have h1 := bt_nonneg s k
  have h2 := bt_le s k
  omega
theorem crcTo_lt (s : ByteArray) (k : Nat) : crcTo s k < 4294967296 := by
  cases k with
  | zero => simp [crcTo]
  | succ k => have := bt_lt s k
              exact crcBits_lt 8 (xor_lt (crcTo_lt s k) (by omega))
theorem crcM_lt (s : ByteArray) : crcM s < 4294967296 := xor_lt (by omega) (crcTo_lt s _)

theorem i64_xor (a b : Nat) (ha : a < 4294967296) (hb : b < 4294967296) : bits .xor .i64 (a : Int) (b : Int) = ((a ^^^ b : Nat) : Int) := by
  have hx := xor_lt ha hb
  show IntKind.i64.wrap ((BitVec.ofInt 64 (a : Int) ^^^ BitVec.ofInt 64 (b : Int)).toNat : Int) = _
  rw [BitVec.toNat_xor, BitVec.ofInt_natCast, BitVec.ofInt_natCast, BitVec.toNat_ofNat, BitVec.toNat_ofNat, Nat.mod_eq_of_lt (by omega), Nat.mod_eq_of_lt (by omega)]
  simp [IntKind.wrap, IntKind.bits, IntKind.signed]
  omega
theorem i64_xor' (a : Nat) (b : Int) (ha : a < 4294967296) (h0 : 0 ≤ b) (hb : b < 4294967296) : bits .xor .i64 (a : Int) b = ((a ^^^ b.toNat : Nat) : Int) := by
  obtain ⟨B, rfl⟩ := Int.eq_ofNat_of_zero_le h0
  simpa using i64_xor a B ha (by omega)
theorem u32_xor' (a : Nat) (b : Int) (ha : a < 4294967296) (h0 : 0 ≤ b) (hb : b < 4294967296) : bits .xor .u32 (a : Int) b = ((a ^^^ b.toNat : Nat) : Int) := by
  obtain ⟨B, rfl⟩ := Int.eq_ofNat_of_zero_le h0
  simpa using u32_xor_nat a B ha (by omega)

set_option maxHeartbeats 400000 in
theorem crcByte_any (x : Nat) (hx : x < 4294967296) (w : World) : Calls Try.prog 9 #[.int .u32 x] w fun e w' => e = .returned (.int .u32 (crcBits 8 x : Nat)) ∧ w' = w := by
  go_enter Try.func9, Try.ntmps9
  go_wp2
  go_loop [0, 4] (fun c i => ∃ k : Nat, k ≤ 8 ∧ i = .int .i64 k ∧ c = .int .u32 (crcBits k x : Nat)) (fun c i => 8 - (intOf i).toNat)
  case atStart => exact ⟨0, by omega, rfl, rfl⟩
  case round =>
    obtain ⟨k, hk, rfl, rfl⟩ := hrel
    obtain ⟨y, hy⟩ : ∃ y, crcBits k x = y := ⟨_, rfl⟩
    have hyl : y < 4294967296 := hy ▸ crcBits_lt k hx
    have HY : Hid (crcBits k x = y) := hy
    rw [hy]
    clear hy
    by_cases hlt : k < 8
    · have h1 : bits .and .u32 (y : Int) 1 = ((y % 2 : Nat) : Int) := by
        have := u32_and_nat y 1 hyl (by omega); rw [nat_mask1] at this; exact this
      have h2 : bits .xor .u32 ((y : Int) / 2) 3988292384 = (((y / 2) ^^^ 3988292384 : Nat) : Int) := by
        have := u32_xor_nat (y / 2) 3988292384 (by omega) (by omega); simpa using this
      by_cases ho : y % 2 = 1
      · have ho' : ((y : Int) % 2) = 1 := by omega
        go_wp2
        go_round
        case rel => exact ⟨k + 1, by omega, by go_num, by simp [crcBits, HY.out, crcBit, ho]⟩
        case measure => simp [intOf]; omega
      · have ho' : ((y : Int) % 2) = 0 := by omega
        go_wp2
        go_round
        case rel => exact ⟨k + 1, by omega, by go_num, by simp [crcBits, HY.out, crcBit, ho]⟩
        case measure => simp [intOf]; omega
    · have : k = 8 := by omega
      subst this
      go_wp2
      go_ret
      exact ⟨by rw [HY.out]; rfl, rfl⟩

set_option maxHeartbeats 400000 in
theorem implCrc_any (s : ByteArray) (hs : s.size ≤ maxLen) (w : World) : Calls Try.prog 5 #[.string s] w fun e w' => e = .returned (.int .i64 (crcM s : Nat)) ∧ w' = w := by
  unfold maxLen at hs
  have hb := get_bt s
  go_enter Try.func5, Try.ntmps5
  go_wp2
  go_loop [3, 7] (fun c i => ∃ k : Nat, k ≤ s.size ∧ i = .int .i64 k ∧ c = .int .u32 (crcTo s k : Nat)) (fun c i => s.size - (intOf i).toNat)
  case atStart => exact ⟨0, by omega, rfl, rfl⟩
  case round =>
    obtain ⟨k, hk, rfl, rfl⟩ := hrel
    obtain ⟨y, hy⟩ : ∃ y, crcTo s k = y := ⟨_, rfl⟩
    have hyl : y < 4294967296 := hy ▸ crcTo_lt s k
    have HY : Hid (crcTo s k = y) := hy
    rw [hy]
    clear hy
    by_cases hlt : k < s.size
    · have hbl := bt_lt s k
      have hw : IntKind.u32.wrap (bt s k) = bt s k := by rw [IntKind.wrap_u32']; omega
      have h2 : bits .xor .u32 (y : Int) (bt s k) = ((y ^^^ (bt s k).toNat : Nat) : Int) := u32_xor' y _ hyl (by omega) (by omega)
      have h3 : y ^^^ (bt s k).toNat < 4294967296 := xor_lt hyl (by omega)
      go_wp2_with (go_at_call 9; refine (crcByte_any _ h3 _).mono ?_; rintro e w' ⟨rfl, rfl⟩)
      go_round
      case rel => exact ⟨k + 1, by omega, by go_num, by simp [crcTo, HY.out]⟩
      case measure => simp [intOf]; omega
    · have : k = s.size := by omega
      subst this
      have h2 : bits .xor .u32 IntKind.u32.max (y : Int) = ((4294967295 ^^^ y : Nat) : Int) := u32_xor_nat 4294967295 y (by omega) hyl
      have h3 : wrap64 ((4294967295 ^^^ y : Nat) : Int) = ((4294967295 ^^^ y : Nat) : Int) := by
        have := xor_lt (a := 4294967295) (b := y) (by omega) hyl
        simp [wrap64]; omega
      go_wp2
      go_ret
      exact ⟨by rw [crcM, HY.out]; rfl, rfl⟩

set_option maxHeartbeats 800000 in
theorem l7Crc_any (s : ByteArray) (hs : s.size ≤ maxLen) (w : World) : Calls Try.prog 10 #[.string s] w fun e w' => e = .returned (.int .i64 (crcM s : Nat)) ∧ w' = w := by
  unfold maxLen at hs
  have hb := get_bt s
  go_enter Try.func10, Try.ntmps10
  go_wp2
  go_loop [3, 4] (fun c i => ∃ k : Nat, k ≤ s.size ∧ i = .int .i64 k ∧ c = .int .i64 (crcTo s k : Nat)) (fun c i => s.size - (intOf i).toNat)
  case atStart => exact ⟨0, by omega, rfl, rfl⟩
  case round =>
    obtain ⟨k, hk, rfl, rfl⟩ := hrel
    obtain ⟨y, hy⟩ : ∃ y, crcTo s k = y := ⟨_, rfl⟩
    have hyl : y < 4294967296 := hy ▸ crcTo_lt s k
    have HY : Hid (crcTo s k = y) := hy
    rw [hy]
    clear hy
    by_cases hlt : k < s.size
    · have hbl := bt_lt s k
      have hw : IntKind.i64.wrap (bt s k) = bt s k := by simp [IntKind.wrap, IntKind.bits, IntKind.signed]; omega
      have h2 : bits .xor .i64 (y : Int) (bt s k) = ((y ^^^ (bt s k).toNat : Nat) : Int) := i64_xor' y _ hyl (by omega) (by omega)
      obtain ⟨x, hx⟩ : ∃ x, y ^^^ (bt s k).toNat = x := ⟨_, rfl⟩
      have hxl : x < 4294967296 := hx ▸ xor_lt hyl (by omega)
      rw [hx] at h2
      have HX : Hid (y ^^^ (bt s k).toNat = x) := hx
      clear hx
      go_wp2
      go_loop [3, 5] (fun c i => ∃ j : Nat, j ≤ 8 ∧ i = .int .i64 j ∧ c = .int .i64 (crcBits j x : Nat)) (fun c i => 8 - (intOf i).toNat)
      case atStart => exact ⟨0, by omega, rfl, rfl⟩
      case round =>
        obtain ⟨j, hj, rfl, rfl⟩ := hrel
        obtain ⟨z, hz⟩ : ∃ z, crcBits j x = z := ⟨_, rfl⟩
        have hzl : z < 4294967296 := hz ▸ crcBits_lt j hxl
        have HZ : Hid (crcBits j x = z) := hz
        rw [hz]
        clear hz
        by_cases hjt : j < 8
        · have h4 : bits .xor .i64 ((z : Int) / 2) 3988292384 = (((z / 2) ^^^ 3988292384 : Nat) : Int) := by
            have := i64_xor (z / 2) 3988292384 (by omega) (by omega); simpa using this
          by_cases ho : z % 2 = 1
          · have ho' : ((z : Int) % 2) = 1 := by omega
            go_wp2
            go_round
            case rel => exact ⟨j + 1, by omega, by go_num, by simp [crcBits, HZ.out, crcBit, ho]⟩
            case measure => simp [intOf]; omega
          · have ho' : ((z : Int) % 2) = 0 := by omega
            go_wp2
            go_round
            case rel => exact ⟨j + 1, by omega, by go_num, by simp [crcBits, HZ.out, crcBit, ho]⟩
            case measure => simp [intOf]; omega
        · have : j = 8 := by omega
          subst this
          go_wp2
          go_round
          case rel => exact ⟨k + 1, by omega, by go_num, by simp [crcTo, HY.out, HX.out, HZ.out]⟩
          case measure => simp [intOf]; omega
    · have : k = s.size := by omega
      subst this
      have h2 : bits .xor .i64 (y : Int) 4294967295 = ((4294967295 ^^^ y : Nat) : Int) := by
        have := i64_xor y 4294967295 hyl (by omega); rw [Nat.xor_comm] at this; exact this
      go_wp2
      go_ret
      exact ⟨by rw [crcM, HY.out]; rfl, rfl⟩
theorem specCrc_any (s : ByteArray) (hs : s.size ≤ maxLen) (w : World) : Calls Try.prog 6 #[.string s] w fun e w' => e = .returned (.int .i64 (crcM s : Nat)) ∧ w' = w := by
  go_enter Try.func6, Try.ntmps6
  go_wp2_with (go_at_call 10; refine (l7Crc_any _ hs _).mono ?_; rintro e w' ⟨rfl, rfl⟩)
  go_ret
  exact ⟨rfl, rfl⟩
end Go.Proofs.Ytcleknmbpnkdfaa
