/- The reader of drawn bytes: pick. What it answers does not matter, but that it is less than n. -/
import Derived.Test.YtjmgfpldjccilaaGreatDoorProg
import Derived.Test.YtjmgfpldjccilaaGreatDoorCommon
import Derived.WalkKit
import Derived.ProofKit
import Derived.Handy
import Derived.PlainAid
import Derived.BigQuiet
namespace Go.Proofs.YtjmgfpldjccilaaGreatDoor
open Go Go.RowKit Go.PlainAid
set_option linter.unusedSimpArgs false
set_option linter.unusedVariables false

/-- the reader in memory: its bytes, and how many were asked for -/
structure RdAt (w : World) (p : Nat) (a : Option Addr) (n cap : Nat) (bs : List Int) (k : Nat) : Prop where
  cb : w.cell? ⟨p, 0, none⟩ = some (.slice a n cap)
  cp : w.cell? ⟨p, 1, none⟩ = some (.int .i64 k)
  fz : w.frozen? ⟨p, 1, none⟩ = false
  len : bs.length = n
  few : n ≤ 2000
  bytes : n = 0 ∨ ∃ b off, a = some ⟨b, off, none⟩ ∧ b < p ∧ ∀ i, (h : i < bs.length) → w.cell? ⟨b, off + i, none⟩ = some (.int .u8 bs[i]) ∧ 0 ≤ bs[i] ∧ bs[i] < 256

theorem xor_nonneg {a b : Int} (ha : 0 ≤ a ∧ a < 9223372036854775808) (hb : 0 ≤ b ∧ b < 9223372036854775808) : 0 ≤ bits .xor .i64 a b := by
  obtain ⟨x, rfl⟩ : ∃ x : Nat, a = x := ⟨a.toNat, by omega⟩
  obtain ⟨y, rfl⟩ : ∃ y : Nat, b = y := ⟨b.toNat, by omega⟩
  have hx : x < 2 ^ 63 := by omega
  have hy : y < 2 ^ 63 := by omega
  have h := Nat.xor_lt_two_pow hx hy
  have e : ((BitVec.ofInt 64 (x : Int)) ^^^ (BitVec.ofInt 64 (y : Int))).toNat = x ^^^ y := by
    rw [BitVec.toNat_xor, BitVec.toNat_ofInt, BitVec.toNat_ofInt]
    have e1 : ((x : Int) % ((2 ^ 64 : Nat) : Int)).toNat = x := by omega
    have e2 : ((y : Int) % ((2 ^ 64 : Nat) : Int)).toNat = y := by omega
    rw [e1, e2]
  show 0 ≤ IntKind.i64.wrap (((BitVec.ofInt 64 (x : Int)) ^^^ (BitVec.ofInt 64 (y : Int))).toNat : Int)
  rw [e, IntWalk.i64_in _ ⟨by omega, by omega⟩]
  omega

set_option maxHeartbeats 800000 in
set_option maxRecDepth 100000 in
theorem pick_any (p : Nat) (a : Option Addr) (n cap : Nat) (bs : List Int) (k : Nat) (m : Int) (w : World) (hk : k ≤ 1000000) (hm : m ≤ 1000000) (hr : RdAt w p a n cap bs k) :
    Calls Tryz.prog 26 #[.pointer (some ⟨p, 0, none⟩), .int .i64 m] w fun e w' => ∃ v, e = .returned (.int .i64 v) ∧ 0 ≤ v ∧ (1 ≤ m → v < m) ∧ ∃ d, w' = (w.setCell ⟨p, 1, none⟩ (.int .i64 ((k + 1 : Nat) : Int))).drewN d := by
  obtain ⟨hb, hp, fz, hlen, few, hbytes⟩ := hr
  have hpw := World.block_lt_of_cell? w _ hp
  have q1 : IntKind.i64.wrap ((k : Int) + 1) = (k : Int) + 1 := IntWalk.i64_in _ ⟨by omega, by omega⟩
  have q2 : IntKind.i64.wrap (k : Int) = (k : Int) := IntWalk.i64_in _ ⟨by omega, by omega⟩
  have HQ : Hid (((k + 1 : Nat) : Int) = (k : Int) + 1) := by show _ = _; omega
  rw [HQ.out]
  by_cases h1 : m < 1
  · go_enter Tryz.func26, Tryz.ntmps26
    go_wp2_with fail
    go_ret
    exact ⟨0, rfl, by decide, fun h => by omega, 0, rfl⟩
  · rcases hbytes with h0 | ⟨b, off, rfl, hbp, hc⟩
    · subst h0
      go_enter Tryz.func26, Tryz.ntmps26
      go_wp2_with fail
      go_ret
      exact ⟨0, rfl, by decide, by omega, 0, rfl⟩
    · by_cases hn0 : n = 0
      · subst hn0
        go_enter Tryz.func26, Tryz.ntmps26
        go_wp2_with fail
        go_ret
        exact ⟨0, rfl, by decide, by omega, 0, rfl⟩
      · have hne : b ≠ p := by omega
        by_cases hkn : k < n
        · have hcx := hc k (by omega)
          obtain ⟨y, hy⟩ : ∃ y, bs[k]'(by omega) = y := ⟨_, rfl⟩
          rw [hy] at hcx
          obtain ⟨c0, c1, c2⟩ := hcx
          clear hc hy
          go_enter Tryz.func26, Tryz.ntmps26
          go_wp2_with fail
          go_ret
          exact ⟨_, rfl, Int.emod_nonneg _ (by omega), Int.emod_lt_of_pos _ (by omega), 0, rfl⟩
        · have y1 := hc (k % n) (by rw [hlen]; exact Nat.mod_lt _ (by omega))
          have y2 := hc ((k * 7 + 3) % n) (by rw [hlen]; exact Nat.mod_lt _ (by omega))
          obtain ⟨u, hu⟩ : ∃ u, bs[k % n]'(by rw [hlen]; exact Nat.mod_lt _ (by omega)) = u := ⟨_, rfl⟩
          obtain ⟨v, hv⟩ : ∃ v, bs[(k * 7 + 3) % n]'(by rw [hlen]; exact Nat.mod_lt _ (by omega)) = v := ⟨_, rfl⟩
          rw [hu] at y1
          rw [hv] at y2
          obtain ⟨u0, u1, u2⟩ := y1
          obtain ⟨v0, v1, v2⟩ := y2
          clear hc hu hv
          obtain ⟨r1, hr1⟩ : ∃ r1, k % n = r1 := ⟨_, rfl⟩
          obtain ⟨r2, hr2⟩ : ∃ r2, (k * 7 + 3) % n = r2 := ⟨_, rfl⟩
          obtain ⟨r3, hr3⟩ : ∃ r3, k / n = r3 := ⟨_, rfl⟩
          rw [hr1] at u0
          rw [hr2] at v0
          have g1 : r1 < n := by rw [← hr1]; exact Nat.mod_lt _ (by omega)
          have g2 : r2 < n := by rw [← hr2]; exact Nat.mod_lt _ (by omega)
          have g3 : r3 ≤ k := by rw [← hr3]; exact Nat.div_le_self _ _
          have m1 : (k : Int) % n = r1 := by rw [← hr1]; simp
          have m2 : ((k : Int) * 7 + 3) % n = r2 := by rw [← hr2]; simp
          have m3 : (k : Int) / n = r3 := by rw [← hr3]; simp
          have w1 : IntKind.i64.wrap ((k : Int) * 7) = (k : Int) * 7 := IntWalk.i64_in _ ⟨by omega, by omega⟩
          have w2 : IntKind.i64.wrap ((k : Int) * 7 + 3) = (k : Int) * 7 + 3 := IntWalk.i64_in _ ⟨by omega, by omega⟩
          have w3 : IntKind.i64.wrap (r1 : Int) = r1 := IntWalk.i64_in _ ⟨by omega, by omega⟩
          have w4 : IntKind.i64.wrap (r2 : Int) = r2 := IntWalk.i64_in _ ⟨by omega, by omega⟩
          have w5 : IntKind.i64.wrap (r3 : Int) = r3 := IntWalk.i64_in _ ⟨by omega, by omega⟩
          have w6 : IntKind.i64.wrap (u * 131) = u * 131 := IntWalk.i64_in _ ⟨by omega, by omega⟩
          have w7 : IntKind.i64.wrap (v * 1117) = v * 1117 := IntWalk.i64_in _ ⟨by omega, by omega⟩
          have w8 : IntKind.i64.wrap (u * 131 + v * 1117) = u * 131 + v * 1117 := IntWalk.i64_in _ ⟨by omega, by omega⟩
          have w9 : IntKind.i64.wrap ((k : Int) * 29) = (k : Int) * 29 := IntWalk.i64_in _ ⟨by omega, by omega⟩
          have w10 : IntKind.i64.wrap (u * 131 + v * 1117 + (k : Int) * 29) = u * 131 + v * 1117 + (k : Int) * 29 := IntWalk.i64_in _ ⟨by omega, by omega⟩
          have w11 : IntKind.i64.wrap ((r3 : Int) * 53) = (r3 : Int) * 53 := IntWalk.i64_in _ ⟨by omega, by omega⟩
          have w12 : IntKind.i64.wrap (u * 131 + v * 1117 + (k : Int) * 29 + (r3 : Int) * 53) = u * 131 + v * 1117 + (k : Int) * 29 + (r3 : Int) * 53 := IntWalk.i64_in _ ⟨by omega, by omega⟩
          have z1 : (r1 : Int) < n := by omega
          have z2 : (r2 : Int) < n := by omega
          have hn0' : ((n : Int) == 0) = false := by simp; omega
          clear hr1 hr2 hr3
          go_enter Tryz.func26, Tryz.ntmps26
          go_wp2_with fail
          go_quiet (fail)
          go_wp2_with fail
          have hx := xor_nonneg (a := u * 131 + v * 1117 + (k : Int) * 29 + (r3 : Int) * 53) (b := (u * 131 + v * 1117 + (k : Int) * 29 + (r3 : Int) * 53) / 64) ⟨by omega, by omega⟩ ⟨by omega, by omega⟩
          go_ret
          exact ⟨_, rfl, Int.tmod_nonneg _ hx, fun h => Int.tmod_lt_of_pos _ (by omega), _, rfl⟩
end Go.Proofs.YtjmgfpldjccilaaGreatDoor
