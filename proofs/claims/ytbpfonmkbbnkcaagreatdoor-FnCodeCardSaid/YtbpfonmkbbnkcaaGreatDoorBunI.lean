/- The reader of drawn bytes: pick. What it answers does not matter, but that it is less than n. -/
import Derived.Test.YtbpfonmkbbnkcaaGreatDoorFind
import Derived.Test.YtbpfonmkbbnkcaaGreatDoorBunD
namespace Go.Proofs.YtbpfonmkbbnkcaaGreatDoor
open Go Go.RowKit Go.PlainAid
set_option linter.unusedSimpArgs false
set_option linter.unusedVariables false

/-- the reader in memory: its bytes, and how many were asked for -/
structure RdAt (w : World) (p : Nat) (a : Option Addr) (n cap : Nat) (bs : List Int) (k : Nat) : Prop where
  cb : w.cell? ⟨p, 0, none⟩ = some (.slice a n cap)
  cp : w.cell? ⟨p, 1, none⟩ = some (.int .i64 k)
  fz : w.frozen? ⟨p, 1, none⟩ = false
  len : bs.length = n
  few : n ≤ 2000
  bytes : n = 0 ∨ ∃ b off, a = some ⟨b, off, none⟩ ∧ b < p ∧ ∀ i, (h : i < bs.length) → w.cell? ⟨b, off + i, none⟩ = some (.int .u8 bs[i]) ∧ 0 ≤ bs[i] ∧ bs[i] < 256

theorem xor_nonneg {a b : Int} (ha : 0 ≤ a ∧ a < 9223372036854775808) (hb : 0 ≤ b ∧ b < 9223372036854775808) : 0 ≤ bits .xor .i64 a b := by
  obtain ⟨x, rfl⟩ : ∃ x : Nat, a = x := ⟨a.toNat, by omega⟩
  obtain ⟨y, rfl⟩ : ∃ y : Nat, b = y := ⟨b.toNat, by omega⟩
  have hx : x < 2 ^ 63 := by omega
  have hy : y < 2 ^ 63 := by omega
  have h := Nat.xor_lt_two_pow hx hy
  have e : ((BitVec.ofInt 64 (x : Int)) ^^^ (BitVec.ofInt 64 (y : Int))).toNat = x ^^^ y := by
    rw [BitVec.toNat_xor, BitVec.toNat_ofInt, BitVec.toNat_ofInt]
    have e1 : ((x : Int) % ((2 ^ 64 : Nat) : Int)).toNat = x := by omega
    have e2 : ((y : Int) % ((2 ^ 64 : Nat) : Int)).toNat = y := by omega
    rw [e1, e2]
  show 0 ≤ IntKind.i64.wrap (((BitVec.ofInt 64 (x : Int)) ^^^ (BitVec.ofInt 64 (y : Int))).toNat : Int)
  rw [e, IntWalk.i64_in _ ⟨by omega, by omega⟩]
  omega

set_option maxHeartbeats 800000 in
set_option maxRecDepth 100000 in
theorem pick_any (p : Nat) (a : Option Addr) (n cap : Nat) (bs : List Int) (k : Nat) (m : Int) (w : World) (hk : k ≤ 1000000) (hm : m ≤ 1000000) (hr : RdAt w p a n cap bs k) :
    Calls Tryz.prog 48 #[.pointer (some ⟨p, 0, none⟩), .int .i64 m] w fun e w' => ∃ v, e = .returned (.int .i64 v) ∧ 0 ≤ v ∧ (1 ≤ m → v < m) ∧ ∃ d, w' = (w.setCell ⟨p, 1, none⟩ (.int .i64 ((k + 1 : Nat) : Int))).drewN d := by
  obtain ⟨hb, hp, fz, hlen, few, hbytes⟩ := hr
  have hpw := World.block_lt_of_cell? w _ hp
  have q1 : IntKind.i64.wrap ((k : Int) + 1) = (k : Int) + 1 := IntWalk.i64_in _ ⟨by omega, by omega⟩
  have q2 : IntKind.i64.wrap (k : Int) = (k : Int) := IntWalk.i64_in _ ⟨by omega, by omega⟩
  have HQ : Hid (((k + 1 : Nat) : Int) = (k : Int) + 1) := by show _ = _; omega
  rw [HQ.out]
  by_cases h1 : m < 1
  · go_enter Tryz.func48, Tryz.ntmps48
    go_wp2_with fail
    go_ret
    exact ⟨0, rfl, by decide, fun h => by omega, 0, rfl⟩
  · rcases hbytes with h0 | ⟨b, off, rfl, hbp, hc⟩
    · subst h0
      go_enter Tryz.func48, Tryz.ntmps48
      go_wp2_with fail
      go_ret
      exact ⟨0, rfl, by decide, by omega, 0, rfl⟩
    · by_cases hn0 : n = 0
      · subst hn0
        go_enter Tryz.func48, Tryz.ntmps48
        go_wp2_with fail
        go_ret
        exact ⟨0, rfl, by decide, by omega, 0, rfl⟩
      · have hne : b ≠ p := by omega
        by_cases hkn : k < n
        · have hcx := hc k (by omega)
          obtain ⟨y, hy⟩ : ∃ y, bs[k]'(by omega) = y := ⟨_, rfl⟩
          rw [hy] at hcx
          obtain ⟨c0, c1, c2⟩ := hcx
          clear hc hy
          go_enter Tryz.func48, Tryz.ntmps48
          go_wp2_with fail
          go_ret
          exact ⟨_, rfl, Int.emod_nonneg _ (by omega), Int.emod_lt_of_pos _ (by omega), 0, rfl⟩
        · have y1 := hc (k % n) (by rw [hlen]; exact Nat.mod_lt _ (by omega))
          have y2 := hc ((k * 7 + 3) % n) (by rw [hlen]; exact Nat.mod_lt _ (by omega))
          obtain ⟨u, hu⟩ : ∃ u, bs[k % n]'(by rw [hlen]; exact Nat.mod_lt _ (by omega)) = u := ⟨_, rfl⟩
          obtain ⟨v, hv⟩ : ∃ v, bs[(k * 7 + 3) % n]'(by rw [hlen]; exact Nat.mod_lt _ (by omega)) = v := ⟨_, rfl⟩
          rw [hu] at y1
          rw [hv] at y2
          obtain ⟨u0, u1, u2⟩ := y1
          obtain ⟨v0, v1, v2⟩ := y2
          clear hc hu hv
          obtain ⟨r1, hr1⟩ : ∃ r1, k % n = r1 := ⟨_, rfl⟩
          obtain ⟨r2, hr2⟩ : ∃ r2, (k * 7 + 3) % n = r2 := ⟨_, rfl⟩
          obtain ⟨r3, hr3⟩ : ∃ r3, k / n = r3 := ⟨_, rfl⟩
          rw [hr1] at u0
          rw [hr2] at v0
          have g1 : r1 < n := by rw [← hr1]; exact Nat.mod_lt _ (by omega)
          have g2 : r2 < n := by rw [← hr2]; exact Nat.mod_lt _ (by omega)
          have g3 : r3 ≤ k := by rw [← hr3]; exact Nat.div_le_self _ _
          have m1 : (k : Int) % n = r1 := by rw [← hr1]; simp
          have m2 : ((k : Int) * 7 + 3) % n = r2 := by rw [← hr2]; simp
          have m3 : (k : Int) / n = r3 := by rw [← hr3]; simp
          have w1 : IntKind.i64.wrap ((k : Int) * 7) = (k : Int) * 7 := IntWalk.i64_in _ ⟨by omega, by omega⟩
          have w2 : IntKind.i64.wrap ((k : Int) * 7 + 3) = (k : Int) * 7 + 3 := IntWalk.i64_in _ ⟨by omega, by omega⟩
          have w3 : IntKind.i64.wrap (r1 : Int) = r1 := IntWalk.i64_in _ ⟨by omega, by omega⟩
          have w4 : IntKind.i64.wrap (r2 : Int) = r2 := IntWalk.i64_in _ ⟨by omega, by omega⟩
          have w5 : IntKind.i64.wrap (r3 : Int) = r3 := IntWalk.i64_in _ ⟨by omega, by omega⟩
          have w6 : IntKind.i64.wrap (u * 131) = u * 131 := IntWalk.i64_in _ ⟨by omega, by omega⟩
          have w7 : IntKind.i64.wrap (v * 1117) = v * 1117 := IntWalk.i64_in _ ⟨by omega, by omega⟩
          have w8 : IntKind.i64.wrap (u * 131 + v * 1117) = u * 131 + v * 1117 := IntWalk.i64_in _ ⟨by omega, by omega⟩
          have w9 : IntKind.i64.wrap ((k : Int) * 29) = (k : Int) * 29 := IntWalk.i64_in _ ⟨by omega, by omega⟩
          have w10 : IntKind.i64.wrap (u * 131 + v * 1117 + (k : Int) * 29) = u * 131 + v * 1117 + (k : Int) * 29 := IntWalk.i64_in _ ⟨by omega, by omega⟩
          have w11 : IntKind.i64.wrap ((r3 : Int) * 53) = (r3 : Int) * 53 := IntWalk.i64_in _ ⟨by omega, by omega⟩
          have w12 : IntKind.i64.wrap (u * 131 + v * 1117 + (k : Int) * 29 + (r3 : Int) * 53) = u * 131 + v * 1117 + (k : Int) * 29 + (r3 : Int) * 53 := IntWalk.i64_in _ ⟨by omega, by omega⟩
          have z1 : (r1 : Int) < n := by omega
          have z2 : (r2 : Int) < n := by omega
          have hn0' : ((n : Int) == 0) = false := by simp; omega
          clear hr1 hr2 hr3
          go_enter Tryz.func48, Tryz.ntmps48
          go_wp2_with fail
          go_quiet (fail)
          go_wp2_with fail
          have hx := xor_nonneg (a := u * 131 + v * 1117 + (k : Int) * 29 + (r3 : Int) * 53) (b := (u * 131 + v * 1117 + (k : Int) * 29 + (r3 : Int) * 53) / 64) ⟨by omega, by omega⟩ ⟨by omega, by omega⟩
          go_ret
          exact ⟨_, rfl, Int.tmod_nonneg _ hx, fun h => Int.tmod_lt_of_pos _ (by omega), _, rfl⟩
end Go.Proofs.YtbpfonmkbbnkcaaGreatDoor

/- The reader of drawn bytes: l11Open, of, one. -/
namespace Go.Proofs.YtbpfonmkbbnkcaaGreatDoor
open Go Go.RowKit Go.PlainAid
set_option linter.unusedSimpArgs false
set_option linter.unusedVariables false

/-- a row of texts that is not the reader's own -/
def RowS (w : World) (p : Nat) (a : Option Addr) (l : List ByteArray) : Prop := ∃ b off, a = some ⟨b, off, none⟩ ∧ b ≠ p ∧ ∀ i, (h : i < l.length) → w.cell? ⟨b, off + i, none⟩ = some (.string l[i])
def RowI (w : World) (p : Nat) (a : Option Addr) (l : List Int) : Prop := ∃ b off, a = some ⟨b, off, none⟩ ∧ b ≠ p ∧ ∀ i, (h : i < l.length) → w.cell? ⟨b, off + i, none⟩ = some (.int .i64 l[i])

set_option maxHeartbeats 800000 in
set_option maxRecDepth 100000 in
theorem of_any (p : Nat) (a : Option Addr) (n cap : Nat) (bs : List Int) (k : Nat) (a' : Option Addr) (m cap' : Nat) (l : List ByteArray) (w : World) (hk : k ≤ 1000000) (hr : RdAt w p a n cap bs k) (hl : l.length = m) (h1 : 1 ≤ m) (hm : m ≤ 1000) (hrow : RowS w p a' l) :
    Calls Tryz.prog 49 #[.pointer (some ⟨p, 0, none⟩), .slice a' m cap'] w fun e w' => ∃ y, y ∈ l ∧ e = .returned (.string y) ∧ ∃ d, w' = (w.setCell ⟨p, 1, none⟩ (.int .i64 ((k + 1 : Nat) : Int))).drewN d := by
  obtain ⟨b, off, rfl, hbp, hc⟩ := hrow
  have HR : Hid (RdAt w p a n cap bs k) := hr
  have hpw : p < w.heap.size := World.block_lt_of_cell? w _ hr.cp
  obtain ⟨K, hK⟩ : ∃ K : Int, ((k + 1 : Nat) : Int) = K := ⟨_, rfl⟩
  have HK : Hid (((k + 1 : Nat) : Int) = K) := hK
  rw [hK]
  clear hK hr
  go_enter Tryz.func49, Tryz.ntmps49
  go_wp2_with fail
  refine (pick_any p a n cap bs k m _ hk (by omega) HR.out).mono ?_
  rw [HK.out]
  rintro e w1 ⟨v, rfl, v0, v1, d, rfl⟩
  have v2 := v1 (by omega)
  obtain ⟨j, rfl⟩ : ∃ j : Nat, v = j := ⟨v.toNat, by omega⟩
  have hj : j < l.length := by omega
  have hcj := hc j hj
  obtain ⟨y, hy⟩ : ∃ y, l[j] = y := ⟨_, rfl⟩
  have HY : Hid (y ∈ l) := by rw [← hy]; exact List.getElem_mem hj
  rw [hy] at hcj
  have hjm : j < m := by omega
  clear hc hy v1
  go_wp2_with fail
  go_ret
  exact ⟨y, HY.out, rfl, _, rfl⟩

set_option maxHeartbeats 800000 in
set_option maxRecDepth 100000 in
theorem one_any (p : Nat) (a : Option Addr) (n cap : Nat) (bs : List Int) (k : Nat) (a' : Option Addr) (m cap' : Nat) (l : List Int) (w : World) (hk : k ≤ 1000000) (hr : RdAt w p a n cap bs k) (hl : l.length = m) (h1 : 1 ≤ m) (hm : m ≤ 1000) (hrow : RowI w p a' l) :
    Calls Tryz.prog 54 #[.pointer (some ⟨p, 0, none⟩), .slice a' m cap'] w fun e w' => ∃ y, y ∈ l ∧ e = .returned (.int .i64 y) ∧ ∃ d, w' = (w.setCell ⟨p, 1, none⟩ (.int .i64 ((k + 1 : Nat) : Int))).drewN d := by
  obtain ⟨b, off, rfl, hbp, hc⟩ := hrow
  have HR : Hid (RdAt w p a n cap bs k) := hr
  have hpw : p < w.heap.size := World.block_lt_of_cell? w _ hr.cp
  obtain ⟨K, hK⟩ : ∃ K : Int, ((k + 1 : Nat) : Int) = K := ⟨_, rfl⟩
  have HK : Hid (((k + 1 : Nat) : Int) = K) := hK
  rw [hK]
  clear hK hr
  go_enter Tryz.func54, Tryz.ntmps54
  go_wp2_with fail
  refine (pick_any p a n cap bs k m _ hk (by omega) HR.out).mono ?_
  rw [HK.out]
  rintro e w1 ⟨v, rfl, v0, v1, d, rfl⟩
  have v2 := v1 (by omega)
  obtain ⟨j, rfl⟩ : ∃ j : Nat, v = j := ⟨v.toNat, by omega⟩
  have hj : j < l.length := by omega
  have hcj := hc j hj
  obtain ⟨y, hy⟩ : ∃ y, l[j] = y := ⟨_, rfl⟩
  have HY : Hid (y ∈ l) := by rw [← hy]; exact List.getElem_mem hj
  rw [hy] at hcj
  have hjm : j < m := by omega
  clear hc hy v1
  go_wp2_with fail
  go_ret
  exact ⟨y, HY.out, rfl, _, rfl⟩
end Go.Proofs.YtbpfonmkbbnkcaaGreatDoor

/- What drawing leaves of memory; l11Open. -/
namespace Go.Proofs.YtbpfonmkbbnkcaaGreatDoor
open Go Go.RowKit Go.PlainAid
set_option linter.unusedSimpArgs false
set_option linter.unusedVariables false

theorem RdAt.old {w w' : World} {p : Nat} {a : Option Addr} {n cap : Nat} {bs : List Int} {k : Nat} (h : RdAt w p a n cap bs k) (hb : ∀ g, g ≤ p → w'.heap[g]? = w.heap[g]?) : RdAt w' p a n cap bs k := by
  obtain ⟨h1, h2, h3, h4, h5, h6⟩ := h
  refine ⟨(World.cell?_of_block (w := w) (hb p (Nat.le_refl _))).trans h1, (World.cell?_of_block (w := w) (hb p (Nat.le_refl _))).trans h2, (World.frozen?_of_block (w := w) (hb p (Nat.le_refl _))).trans h3, h4, h5, ?_⟩
  rcases h6 with h6 | ⟨b, off, rfl, hlt, hc⟩
  · exact .inl h6
  · exact .inr ⟨b, off, rfl, hlt, fun i hi => ⟨(World.cell?_of_block (w := w) (hb b (by omega))).trans (hc i hi).1, (hc i hi).2⟩⟩
theorem RdAt.lt {w : World} {p : Nat} {a : Option Addr} {n cap : Nat} {bs : List Int} {k : Nat} (h : RdAt w p a n cap bs k) : p < w.heap.size := World.block_lt_of_cell? w _ h.cp
theorem RdAt.below {w w' : World} {p : Nat} {a : Option Addr} {n cap : Nat} {bs : List Int} {k : Nat} (h : RdAt w p a n cap bs k) (hb : Below w.heap.size w w') : RdAt w' p a n cap bs k :=
  h.old (fun g hg => hb.block g (by have := h.lt; omega))
theorem RdAt.step {w : World} {p : Nat} {a : Option Addr} {n cap : Nat} {bs : List Int} {k : Nat} (h : RdAt w p a n cap bs k) (d : Nat) : RdAt ((w.setCell ⟨p, 1, none⟩ (.int .i64 ((k + 1 : Nat) : Int))).drewN d) p a n cap bs (k + 1) := by
  have hp := h.lt
  obtain ⟨h1, h2, h3, h4, h5, h6⟩ := h
  refine ⟨?_, ?_, ?_, h4, h5, ?_⟩
  · simp [h1, go_sem]
  · simp [h2, go_sem]
  · simp [h3, go_sem]
  · rcases h6 with h6 | ⟨b, off, rfl, hlt, hc⟩
    · exact .inl h6
    · refine .inr ⟨b, off, rfl, hlt, fun i hi => ⟨?_, (hc i hi).2⟩⟩
      have hne : b ≠ p := by omega
      simp [(hc i hi).1, hne, go_sem]

def IsBytes (B : Nat) (w : World) (a : Option Addr) (n : Nat) (l : List Int) : Prop :=
  l.length = n ∧ (n = 0 ∨ ∃ b off, a = some ⟨b, off, none⟩ ∧ b < B ∧ ∀ i, (h : i < l.length) → w.cell? ⟨b, off + i, none⟩ = some (.int .u8 l[i]) ∧ 0 ≤ l[i] ∧ l[i] < 256)

set_option maxHeartbeats 800000 in
set_option maxRecDepth 100000 in
theorem l11Open_any (a : Option Addr) (n cap : Nat) (bs : List Int) (w : World) (hcap : n ≤ cap) (hn : n ≤ 1048576) (hz : IsBytes w.heap.size w a n bs) :
    Calls Tryz.prog 44 #[.slice a n cap] w fun e w' => ∃ a' n' cap' bs', e = .returned (.pointer (some ⟨w.heap.size, 0, none⟩)) ∧ RdAt w' w.heap.size a' n' cap' bs' 0 ∧ Below w.heap.size w w' ∧ w'.heap.size = w.heap.size + 1 := by
  obtain ⟨hlen, hcells⟩ := hz
  by_cases h2 : 2000 < n
  · rcases hcells with h0 | ⟨b, off, rfl, hb, hc⟩
    · omega
    go_enter Tryz.func44, Tryz.ntmps44
    go_wp2_with fail
    go_ret
    refine ⟨some ⟨b, off, none⟩, 2000, cap, bs.take 2000, rfl, ⟨by simp [go_sem], by simp [go_sem], by simp [go_sem], by simp; omega, by omega, .inr ⟨b, off, rfl, hb, fun i hi => ?_⟩⟩, (Below.refl _ _).alloc (Nat.le_refl _) _, by simp⟩
    have h3 : i < bs.length := by simp at hi; omega
    have h4 := hc i h3
    refine ⟨?_, by simpa using h4.2⟩
    rw [(((Below.refl w.heap.size w).alloc (Nat.le_refl _) _).cell (p := ⟨b, off + i, none⟩) hb), h4.1]
    simp
  · go_enter Tryz.func44, Tryz.ntmps44
    go_wp2_with fail
    go_ret
    refine ⟨a, n, cap, bs, rfl, ⟨by simp [go_sem], by simp [go_sem], by simp [go_sem], hlen, by omega, ?_⟩, (Below.refl _ _).alloc (Nat.le_refl _) _, by simp⟩
    rcases hcells with h0 | ⟨b, off, rfl, hb, hc⟩
    · exact .inl h0
    · refine .inr ⟨b, off, rfl, hb, fun i hi => ⟨?_, (hc i hi).2⟩⟩
      rw [(((Below.refl w.heap.size w).alloc (Nat.le_refl _) _).cell (p := ⟨b, off + i, none⟩) hb), (hc i hi).1]
end Go.Proofs.YtbpfonmkbbnkcaaGreatDoor

/- A drawn text of a sum: l11Expr. -/
namespace Go.Proofs.YtbpfonmkbbnkcaaGreatDoor
open Go Go.RowKit Go.PlainAid
set_option linter.unusedSimpArgs false
set_option linter.unusedVariables false

theorem row_new (w : World) (p : Nat) (hp : p < w.heap.size) (l : List ByteArray) (t : TypeId) : RowS (w.alloc (.cells (l.map Value.string).toArray t)) p (some ⟨w.heap.size, 0, none⟩) l := by
  refine ⟨w.heap.size, 0, rfl, by omega, fun i hi => ?_⟩
  simp [go_sem, hi]
theorem of_new (w : World) (p : Nat) (a : Option Addr) (n cap : Nat) (bs : List Int) (k : Nat) (l : List ByteArray) (t : TypeId) (m : Nat) (hk : k ≤ 1000000) (hr : RdAt w p a n cap bs k) (hm : l.length = m) (h1 : 1 ≤ m) (h2 : m ≤ 1000) :
    Calls Tryz.prog 49 #[.pointer (some ⟨p, 0, none⟩), .slice (some ⟨w.heap.size, 0, none⟩) m m] (w.alloc (.cells (l.map Value.string).toArray t)) fun e w' => ∃ y, e = .returned (.string y) ∧ y ∈ l ∧ RdAt w' p a n cap bs (k + 1) ∧ Mv p w w' := by
  have hb : Below w.heap.size w (w.alloc (.cells (l.map Value.string).toArray t)) := (Below.refl _ _).alloc (Nat.le_refl _) _
  refine (of_any p a n cap bs k _ m m l _ hk (hr.below hb) hm h1 h2 (row_new w p hr.lt l t)).mono ?_
  rintro e w' ⟨y, hy, rfl, d, rfl⟩
  exact ⟨y, rfl, hy, (hr.below hb).step d, (Mv.of_below hb).trans (Mv.step _ _ _ _)⟩
/-- no byte of a text is a z -/
abbrev NoZ (s : ByteArray) : Prop := ∀ b ∈ s.data.toList, b ≠ 122
theorem NoZ.append {s t : ByteArray} (h : NoZ s) (k : NoZ t) : NoZ (s ++ t) := by
  intro b hb
  rw [ByteArray.data_append, Array.toList_append] at hb
  rcases List.mem_append.1 hb with hb | hb
  · exact h b hb
  · exact k b hb
def exS : Nat → Nat | 0 => 6 | d + 1 => 2 * exS d + 3
def exK : Nat → Nat | 0 => 1 | d + 1 => 2 * exK d + 2

theorem exS_le : ∀ {d : Nat}, d ≤ 3 → exS d ≤ 69 := by
  intro d h
  have : d = 0 ∨ d = 1 ∨ d = 2 ∨ d = 3 := by omega
  rcases this with rfl | rfl | rfl | rfl <;> decide
theorem exK_le : ∀ {d : Nat}, d ≤ 3 → exK d ≤ 22 := by
  intro d h
  have : d = 0 ∨ d = 1 ∨ d = 2 ∨ d = 3 := by omega
  rcases this with rfl | rfl | rfl | rfl <;> decide
set_option maxHeartbeats 800000 in
set_option maxRecDepth 100000 in
theorem l11Expr_any : ∀ (d : Nat), d ≤ 3 → ∀ (p : Nat) (a : Option Addr) (n cap : Nat) (bs : List Int) (k : Nat) (w : World), k + exK d ≤ 100000 → RdAt w p a n cap bs k →
    Calls Tryz.prog 51 #[.pointer (some ⟨p, 0, none⟩), .int .i64 d] w fun e w' => ∃ s k', e = .returned (.string s) ∧ (s.size ≤ exS d ∧ NoZ s) ∧ k' ≤ k + exK d ∧ RdAt w' p a n cap bs k' ∧ Mv p w w' := by
  intro d
  induction d with
  | zero =>
    intro _ p a n cap bs k w hk hr
    simp only [exK] at hk
    have HR : Hid (RdAt w p a n cap bs k) := hr
    have hp := hr.lt
    clear hr
    go_enter Tryz.func51, Tryz.ntmps51
    go_wp2_with fail
    refine (of_new w p a n cap bs k [⟨#[48]⟩, ⟨#[49]⟩, ⟨#[50]⟩, ⟨#[55]⟩, ⟨#[57, 57, 57, 57, 57, 57]⟩, ⟨#[120]⟩, ⟨#[121]⟩, ⟨#[99]⟩, ⟨#[110]⟩, ⟨#[120]⟩, ⟨#[49, 48]⟩] 9 11 (by omega) HR.out rfl (by decide) (by decide)).mono ?_
    rintro e w1 ⟨y, rfl, hy, hr1, hm1⟩
    have HY : Hid (y.size ≤ 6 ∧ NoZ y) := by
      show y.size ≤ 6 ∧ NoZ y
      simp only [List.mem_cons, List.not_mem_nil, or_false] at hy
      rcases hy with rfl | rfl | rfl | rfl | rfl | rfl | rfl | rfl | rfl | rfl | rfl <;> decide
    have HR1 : Hid (RdAt w1 p a n cap bs (k + 1)) := hr1
    have HM1 : Hid (Mv p w w1) := hm1
    clear hy hr1 hm1
    go_wp2_with fail
    go_ret
    exact ⟨y, k + 1, rfl, HY.out, Nat.le_refl _, HR1.out, HM1.out⟩
  | succ d ih =>
    intro hd p a n cap bs k w hk hr
    simp only [exK] at hk
    have hsx : exS (d + 1) = 2 * exS d + 3 := rfl
    have hkx : exK (d + 1) = 2 * exK d + 2 := rfl
    have hex := exS_le (by omega : d ≤ 3)
    have HE : Hid (exS (d + 1) = 2 * exS d + 3 ∧ exK (d + 1) = 2 * exK d + 2) := ⟨hsx, hkx⟩
    clear hsx hkx
    have HR : Hid (RdAt w p a n cap bs k) := hr
    have IH : Hid (d ≤ 3 → ∀ (p : Nat) (a : Option Addr) (n cap : Nat) (bs : List Int) (k : Nat) (w : World), k + exK d ≤ 100000 → RdAt w p a n cap bs k →
      Calls Tryz.prog 51 #[.pointer (some ⟨p, 0, none⟩), .int .i64 d] w fun e w' => ∃ s k', e = .returned (.string s) ∧ (s.size ≤ exS d ∧ NoZ s) ∧ k' ≤ k + exK d ∧ RdAt w' p a n cap bs k' ∧ Mv p w w') := ih
    clear ih
    have hp := hr.lt
    clear hr
    have hd0 : (((d + 1 : Nat) : Int) == 0) = false := by simp; omega
    have hd1 : ((d + 1 : Nat) : Int) - 1 = d := by omega
    have hd2 : IntKind.i64.wrap (d : Int) = d := IntWalk.i64_in _ ⟨by omega, by omega⟩
    obtain ⟨D, hD⟩ : ∃ D : Int, ((d + 1 : Nat) : Int) = D := ⟨_, rfl⟩
    rw [hD] at hd0 hd1 
    rw [hD]
    clear hD
    go_enter Tryz.func51, Tryz.ntmps51
    go_wp2_with fail
    refine (pick_any p a n cap bs k 6 _ (by omega) (by decide) HR.out).mono ?_
    rintro e w1 ⟨v, rfl, v0, v1, dd, hw1⟩
    have v2 := v1 (by decide)
    have HR1 : Hid (RdAt w1 p a n cap bs (k + 1)) := by rw [hw1]; exact HR.out.step dd
    have HM1 : Hid (Mv p w w1) := by rw [hw1]; exact Mv.step _ _ _ _
    clear hw1 v1
    by_cases h0 : v = 0
    · subst h0
      go_wp2_with fail
      refine (IH.out (by omega) p a n cap bs (k + 1) w1 (by omega) HR1.out).mono ?_
      rintro e w2 ⟨s, k2, rfl, ⟨hs2, hz2⟩, hk2, hr2, hm2⟩
      have HZ2 : Hid (NoZ s) := hz2
      clear hz2
      have HR2 : Hid (RdAt w2 p a n cap bs k2) := hr2
      have HM2 : Hid (Mv p w w2) := HM1.out.trans hm2
      clear hr2 hm2
      have y1 : (⟨#[40]⟩ : ByteArray).size + s.size ≤ 9223372036854775807 := by have : (⟨#[40]⟩ : ByteArray).size = 1 := rfl; omega
      go_wp2_with fail
      go_ret
      refine ⟨_, k2, rfl, ⟨?_, ((show NoZ ⟨#[40]⟩ by decide).append HZ2.out).append (show NoZ ⟨#[41]⟩ by decide)⟩, by have := HE.out; omega, HR2.out, HM2.out⟩
      have h40 : (⟨#[40]⟩ : ByteArray).size = 1 := rfl
      have h41 : (⟨#[41]⟩ : ByteArray).size = 1 := rfl
      have h3 := HE.out
      rw [ByteArray.size_append, ByteArray.size_append]
      omega
    · by_cases h1 : v = 1
      · subst h1
        go_wp2_with fail
        refine (of_new w1 p a n cap bs (k + 1) [⟨#[45]⟩, ⟨#[33]⟩] 9 2 (by omega) HR1.out rfl (by decide) (by decide)).mono ?_
        rintro e w2 ⟨y, rfl, hy, hr2, hm2⟩
        have HY : Hid (y.size = 1 ∧ NoZ y) := by
          show y.size = 1 ∧ NoZ y
          simp only [List.mem_cons, List.not_mem_nil, or_false] at hy
          rcases hy with rfl | rfl <;> exact ⟨rfl, by decide⟩
        have HR2 : Hid (RdAt w2 p a n cap bs (k + 1 + 1)) := hr2
        have HM2 : Hid (Mv p w w2) := HM1.out.trans hm2
        clear hy hr2 hm2
        go_wp2_with fail
        refine (IH.out (by omega) p a n cap bs (k + 1 + 1) w2 (by omega) HR2.out).mono ?_
        rintro e w3 ⟨s, k3, rfl, ⟨hs3, hz3⟩, hk3, hr3, hm3⟩
        have HZ3 : Hid (NoZ s) := hz3
        clear hz3
        have HR3 : Hid (RdAt w3 p a n cap bs k3) := hr3
        have HM3 : Hid (Mv p w w3) := HM2.out.trans hm3
        clear hr3 hm3
        have y1 : y.size + s.size ≤ 9223372036854775807 := by have := HY.out.1; omega
        go_wp2_with fail
        go_ret
        refine ⟨_, k3, rfl, ⟨?_, HY.out.2.append HZ3.out⟩, by have := HE.out; omega, HR3.out, HM3.out⟩
        have h3 := HE.out
        have h4 := HY.out.1
        rw [ByteArray.size_append]
        omega
      · have e0 : (v == 0) = false := by simp [h0]
        have e1 : (v == 1) = false := by simp [h1]
        go_wp2_with fail
        refine (IH.out (by omega) p a n cap bs (k + 1) w1 (by omega) HR1.out).mono ?_
        rintro e w2 ⟨s, k2, rfl, ⟨hs2, hz2⟩, hk2, hr2, hm2⟩
        have HZ2 : Hid (NoZ s) := hz2
        clear hz2
        have HR2 : Hid (RdAt w2 p a n cap bs k2) := hr2
        have HM2 : Hid (Mv p w w2) := HM1.out.trans hm2
        clear hr2 hm2
        go_wp2_with fail
        refine (of_new w2 p a n cap bs k2 [⟨#[43]⟩, ⟨#[45]⟩, ⟨#[42]⟩, ⟨#[47]⟩, ⟨#[37]⟩, ⟨#[60]⟩, ⟨#[61, 61]⟩, ⟨#[38]⟩, ⟨#[124]⟩, ⟨#[32, 43, 32]⟩] 9 10 (by omega) HR2.out rfl (by decide) (by decide)).mono ?_
        rintro e w3 ⟨y, rfl, hy, hr3, hm3⟩
        have HY : Hid (y.size ≤ 3 ∧ NoZ y) := by
          show y.size ≤ 3 ∧ NoZ y
          simp only [List.mem_cons, List.not_mem_nil, or_false] at hy
          rcases hy with rfl | rfl | rfl | rfl | rfl | rfl | rfl | rfl | rfl | rfl <;> decide
        have HR3 : Hid (RdAt w3 p a n cap bs (k2 + 1)) := hr3
        have HM3 : Hid (Mv p w w3) := HM2.out.trans hm3
        clear hy hr3 hm3
        have y1 : s.size + y.size ≤ 9223372036854775807 := by have := HY.out.1; omega
        go_wp2_with fail
        refine (IH.out (by omega) p a n cap bs (k2 + 1) w3 (by omega) HR3.out).mono ?_
        rintro e w4 ⟨s', k4, rfl, ⟨hs4, hz4⟩, hk4, hr4, hm4⟩
        have HZ4 : Hid (NoZ s') := hz4
        clear hz4
        have HR4 : Hid (RdAt w4 p a n cap bs k4) := hr4
        have HM4 : Hid (Mv p w w4) := HM3.out.trans hm4
        clear hr4 hm4
        have y2 : s.size + y.size + s'.size ≤ 9223372036854775807 := by have := HY.out.1; omega
        go_wp2_with fail
        go_ret
        refine ⟨_, k4, rfl, ⟨?_, (HZ2.out.append HY.out.2).append HZ4.out⟩, by have := HE.out; omega, HR4.out, HM4.out⟩
        have h3 := HE.out
        have h4 := HY.out.1
        rw [ByteArray.size_append, ByteArray.size_append]
        omega
end Go.Proofs.YtbpfonmkbbnkcaaGreatDoor

/- Drawn nodes: l11Nodes. -/
namespace Go.Proofs.YtbpfonmkbbnkcaaGreatDoor
open Go Go.RowKit Go.PlainAid
set_option linter.unusedSimpArgs false
set_option linter.unusedVariables false

set_option maxRecDepth 100000 in
theorem some1 : (exprM ⟨#[120, 43, 49]⟩).isSome = true := by kernel_rfl
set_option maxRecDepth 100000 in
theorem some2 : (exprM ⟨#[99]⟩).isSome = true := by kernel_rfl
set_option maxRecDepth 100000 in
theorem some3 : (exprM ⟨#[45, 40, 120, 42, 50, 41]⟩).isSome = true := by kernel_rfl
set_option maxRecDepth 100000 in
theorem some4 : (exprM ⟨#[33, 40, 120, 60, 121, 41, 38, 99]⟩).isSome = true := by kernel_rfl

/-- nodes that were read, and can be written -/
def Summy (l : List Nd) : Prop := ∃ s, exprM s = some l
/-- .. and no name of which has a z -/
def Good (l : List Nd) : Prop := ∃ s, exprM s = some l ∧ NoZ s
theorem Good.summy {l : List Nd} (h : Good l) : Summy l := by obtain ⟨s, hs, _⟩ := h; exact ⟨s, hs⟩

set_option maxHeartbeats 800000 in
set_option maxRecDepth 100000 in
theorem l11Nodes_any (p : Nat) (a : Option Addr) (n cap : Nat) (bs : List Int) (k : Nat) (w : World) (hk : k ≤ 1000) (hr : RdAt w p a n cap bs k) :
    Calls Tryz.prog 67 #[.pointer (some ⟨p, 0, none⟩)] w fun e w' => ∃ v l k', e = .returned v ∧ Good l ∧ OwnNd w.heap.size w' v l ∧ k' ≤ k + 30 ∧ RdAt w' p a n cap bs k' ∧ Mv p w w' := by
  have HR : Hid (RdAt w p a n cap bs k) := hr
  have hp := hr.lt
  clear hr
  go_enter Tryz.func67, Tryz.ntmps67
  go_wp2_with fail
  refine (pick_any p a n cap bs k 4 _ (by omega) (by decide) HR.out).mono ?_
  rintro e w1 ⟨v, rfl, v0, v1, dd, hw1⟩
  have v2 := v1 (by decide)
  have HR1 : Hid (RdAt w1 p a n cap bs (k + 1)) := by rw [hw1]; exact HR.out.step dd
  have HM1 : Hid (Mv p w w1) := by rw [hw1]; exact Mv.step _ _ _ _
  clear hw1 v1
  obtain ⟨d, rfl⟩ : ∃ d : Nat, v = d := ⟨v.toNat, by omega⟩
  have hd3 : d ≤ 3 := by omega
  have hex := exS_le hd3
  have hek := exK_le hd3
  go_wp2_with fail
  refine (l11Expr_any d hd3 p a n cap bs (k + 1) w1 (by omega) HR1.out).mono ?_
  rintro e w2 ⟨s, k2, rfl, ⟨hs2, hz2⟩, hk2, hr2, hm2⟩
  have HZ2 : Hid (NoZ s) := hz2
  clear hz2
  have HR2 : Hid (RdAt w2 p a n cap bs k2) := hr2
  have HM2 : Hid (Mv p w w2) := HM1.out.trans hm2
  clear hr2 hm2
  go_wp2_with fail
  refine (ExprGet_any s w2 (by omega)).mono ?_
  rintro e w3 ⟨u, b, rfl, hno, hyes, hb3⟩
  have HR3 : Hid (RdAt w3 p a n cap bs k2) := HR2.out.below hb3
  have HM3 : Hid (Mv p w w3) := HM2.out.trans (Mv.of_below hb3)
  cases hg : exprM s with
  | some l =>
    obtain ⟨rfl, ho⟩ := hyes l hg
    have HO : Hid (OwnNd w.heap.size w3 u l) := ownsRow_mono ho HM2.out.size
    have HG : Hid (Good l) := ⟨s, hg, HZ2.out⟩
    clear hno hyes hb3 hg ho
    go_wp2_with fail
    go_ret
    exact ⟨_, l, k2, rfl, HG.out, HO.out, by omega, HR3.out, HM3.out⟩
  | none =>
    obtain ⟨rfl, rfl⟩ := hno hg
    clear hno hyes hb3 hg
    go_wp2_with fail
    refine (of_new w3 p a n cap bs k2 [⟨#[120, 43, 49]⟩, ⟨#[99]⟩, ⟨#[45, 40, 120, 42, 50, 41]⟩, ⟨#[33, 40, 120, 60, 121, 41, 38, 99]⟩] 9 4 (by omega) HR3.out rfl (by decide) (by decide)).mono ?_
    rintro e w4 ⟨y, rfl, hy, hr4, hm4⟩
    have HY : Hid ((exprM y).isSome = true ∧ y.size ≤ 8 ∧ NoZ y) := by
      show _ ∧ _ ∧ _
      simp only [List.mem_cons, List.not_mem_nil, or_false] at hy
      rcases hy with rfl | rfl | rfl | rfl
      · exact ⟨some1, by decide, by decide⟩
      · exact ⟨some2, by decide, by decide⟩
      · exact ⟨some3, by decide, by decide⟩
      · exact ⟨some4, by decide, by decide⟩
    have HR4 : Hid (RdAt w4 p a n cap bs (k2 + 1)) := hr4
    have HM4 : Hid (Mv p w w4) := HM3.out.trans hm4
    clear hy hr4 hm4
    go_wp2_with fail
    refine (ExprGet_any y w4 (by have := HY.out.2.1; omega)).mono ?_
    rintro e w5 ⟨u, b, rfl, hno, hyes, hb5⟩
    have HR5 : Hid (RdAt w5 p a n cap bs (k2 + 1)) := HR4.out.below hb5
    have HM5 : Hid (Mv p w w5) := HM4.out.trans (Mv.of_below hb5)
    obtain ⟨l, hl⟩ := Option.isSome_iff_exists.1 HY.out.1
    obtain ⟨rfl, ho⟩ := hyes l hl
    have HO : Hid (OwnNd w.heap.size w5 u l) := ownsRow_mono ho HM4.out.size
    have HG : Hid (Good l) := ⟨y, hl, HY.out.2.2⟩
    clear hno hyes hb5 hl ho
    go_wp2_with fail
    go_ret
    exact ⟨_, l, k2 + 1, rfl, HG.out, HO.out, by omega, HR5.out, HM5.out⟩
end Go.Proofs.YtbpfonmkbbnkcaaGreatDoor

/- Drawn values: l11Vals. -/
namespace Go.Proofs.YtbpfonmkbbnkcaaGreatDoor
open Go Go.RowKit Go.PlainAid
set_option linter.unusedSimpArgs false
set_option linter.unusedVariables false

theorem row_newI (w : World) (p : Nat) (hp : p < w.heap.size) (l : List Int) (t : TypeId) : RowI (w.alloc (.cells (l.map (Value.int .i64)).toArray t)) p (some ⟨w.heap.size, 0, none⟩) l := by
  refine ⟨w.heap.size, 0, rfl, by omega, fun i hi => ?_⟩
  simp [go_sem, hi]
theorem one_newI (w : World) (p : Nat) (a : Option Addr) (n cap : Nat) (bs : List Int) (k : Nat) (l : List Int) (t : TypeId) (m : Nat) (hk : k ≤ 1000000) (hr : RdAt w p a n cap bs k) (hm : l.length = m) (h1 : 1 ≤ m) (h2 : m ≤ 1000) :
    Calls Tryz.prog 54 #[.pointer (some ⟨p, 0, none⟩), .slice (some ⟨w.heap.size, 0, none⟩) m m] (w.alloc (.cells (l.map (Value.int .i64)).toArray t)) fun e w' => ∃ y, e = .returned (.int .i64 y) ∧ y ∈ l ∧ RdAt w' p a n cap bs (k + 1) ∧ Mv p w w' := by
  have hb : Below w.heap.size w (w.alloc (.cells (l.map (Value.int .i64)).toArray t)) := (Below.refl _ _).alloc (Nat.le_refl _) _
  refine (one_any p a n cap bs k _ m m l _ hk (hr.below hb) hm h1 h2 (row_newI w p hr.lt l t)).mono ?_
  rintro e w' ⟨y, hy, rfl, d, rfl⟩
  exact ⟨y, rfl, hy, (hr.below hb).step d, (Mv.of_below hb).trans (Mv.step _ _ _ _)⟩
/-- numbers in memory, a row of one's own -/
def OwnI (B : Nat) (w : World) (v : Value) (l : List Int) : Prop := w.ownsRow B 3 1 v l.length (l.map (Value.int .i64))
theorem OwnI.mv {B p : Nat} {w w' : World} {v : Value} {l : List Int} (h : OwnI B w v l) (hp : p < B) (hm : Mv p w w') : OwnI B w' v l :=
  own_of_block h (fun g hg => hm.block g (World.ownsRow.lt h g hg).2 (by have := (World.ownsRow.lt h g hg).1; omega))

theorem Mv.trans' {p : Nat} {w w1 w5 : World} {o : Obj} {g : Nat} (h : Mv p w w1) (hg : (w1.alloc o).grownBy w5 (some g)) (hgB : w.heap.size ≤ g) : Mv p w w5 := by
  have h1 := hg.size
  have h2 := h.size
  refine ⟨hg.os.trans h.os, hg.tape.trans h.tape, hg.output.trans h.output, by simp at h1; omega, fun b hb hne => ?_⟩
  exact ((hg.block b (by simp; omega) (fun e => by simp at e; omega)).trans (Below.heap_alloc _ _ _ (by omega))).trans (h.block b hb hne)

set_option maxHeartbeats 800000 in
set_option maxRecDepth 100000 in
theorem l11Vals_any (p : Nat) (a : Option Addr) (n cap : Nat) (bs : List Int) (k m : Nat) (w : World) (hk : k ≤ 2000) (hm : m ≤ 100) (hr : RdAt w p a n cap bs k) :
    Calls Tryz.prog 53 #[.pointer (some ⟨p, 0, none⟩), .int .i64 m] w fun e w' => ∃ v l, e = .returned v ∧ l.length = m ∧ OwnI w.heap.size w' v l ∧ RdAt w' p a n cap bs (k + m) ∧ Mv p w w' := by
  have HR : Hid (RdAt w p a n cap bs k) := hr
  have hp := hr.lt
  clear hr
  obtain ⟨i0, hi, hz0, hz1, hz2⟩ := info_parts infoInt'
  go_enter Tryz.func53, Tryz.ntmps53
  go_wp2_with fail
  go_loopw [5] (fun u wr => ∃ (l : List Int) (g c : Nat), l.length ≤ m ∧ u = .slice (some ⟨g, 0, none⟩) l.length c ∧ Hid (OwnI w.heap.size wr u l) ∧ Hid (RdAt wr p a n cap bs (k + l.length)) ∧ Hid (Mv p w wr)) (fun u _ => m - (match u with | .slice _ n _ => n | _ => 0))
  case atStart =>
    refine ⟨[], w.heap.size, 0, Nat.zero_le _, rfl, ?_, ?_, ?_⟩
    · exact World.ownsRow_made w #[] 0 (Nat.le_refl _) (Nat.zero_le _) rfl
    · exact HR.out.below ((Below.refl _ _).alloc (Nat.le_refl _) _)
    · exact Mv.of_below ((Below.refl _ _).alloc (Nat.le_refl _) _)
  case round =>
    obtain ⟨l, g, c, hl, rfl, HO, HR1, HM⟩ := hrel
    have hmz := HM.out.size
    obtain ⟨L, hL⟩ : ∃ L, l.length = L := ⟨_, rfl⟩
    have HL : Hid (l.length = L) := hL
    rw [hL] at HO HR1 hl
    rw [hL]
    clear hL
    by_cases hlt : L < m
    · go_wp2_with fail
      refine (one_newI wr p a n cap bs (k + L) [0, 0, 1, 1, 2, 5, 10, -1, -7, 100, 2147483647, -2147483648] 3 12 (by omega) HR1.out rfl (by decide) (by decide)).mono ?_
      rintro e w1 ⟨y, rfl, hy, hr1, hm1⟩
      have HR2 : Hid (RdAt w1 p a n cap bs (k + L + 1)) := hr1
      have HM2 : Hid (Mv p w w1) := HM.out.trans hm1
      have HO2 : Hid (OwnI w.heap.size w1 (.slice (some ⟨g, 0, none⟩) L c) l) := HO.out.mv hp hm1
      have hmz2 := HM2.out.size
      clear hy hr1 hm1
      have hgB : w.heap.size ≤ g := (World.ownsRow.lt HO2.out g rfl).1
      have HN2 : Hid (w1.ownsRow w.heap.size 3 1 (.slice (some ⟨g, 0, none⟩) L c) L (l.map (Value.int .i64))) := by
        have := HO2.out
        unfold OwnI at this
        rw [HL.out] at this
        exact this
      go_wp2_with (at_builtin; refine wpList_append_lies _ rfl (.tmp 11) (.tmp 15) 32 rfl w.heap.size 3 i0 (.int .i64 0) 1 8 Tryz.underlying32 hi hz0 hz1 hz2 rfl (by decide) _ _ _ rfl (World.ownsRow.alloc HN2.out _) ⟨w1.heap.size, 0, none⟩ 1 1 [.int .i64 y] rfl rfl (by exact one_new' _ _ _ _ rfl) (by intro u hu; simp at hu; subst hu; rfl) (by decide) (by unfold maxLen; omega) (by omega) (by simp; omega) _ rfl ?_)
      intro g1 c1 w5 ho1 hg1 hat1 hl1
      have hg1 : (w1.alloc (.cells #[.int .i64 y] 3)).grownBy w5 (some g) := hg1
      have hz5 : w1.heap.size + 1 ≤ w5.heap.size := by simpa using hg1.size
      have hblk : ∀ b, b < w1.heap.size → b ≠ g → w5.heap[b]? = w1.heap[b]? := fun b h1 h2 => (hg1.block b (by simp; omega) (fun e => h2 (by simp at e; omega))).trans (Below.heap_alloc _ _ _ h1)
      have HR5 : Hid (RdAt w5 p a n cap bs (k + (L + 1))) := HR2.out.old (fun b hb => hblk b (by omega) (by omega))
      have HM5 : Hid (Mv p w w5) := HM2.out.trans' hg1 hgB
      have HO5 : Hid (OwnI w.heap.size w5 (.slice (some ⟨g1, 0, none⟩) (L + 1) c1) (l ++ [y])) := by
        show OwnI _ _ _ _
        unfold OwnI
        rw [List.length_append, HL.out, List.map_append]
        exact ho1
      clear ho1 hg1 hat1 hl1 hblk hz5
      go_wp2_with fail
      go_roundw
      case rel => exact ⟨l ++ [y], g1, c1, by rw [List.length_append, HL.out]; simp; omega, by rw [List.length_append, HL.out]; rfl, HO5.out, by rw [List.length_append, HL.out]; exact HR5.out, HM5.out⟩
      case measure => simp; omega
    · go_wp2_with fail
      go_ret
      have hLm : L = m := by omega
      exact ⟨_, l, rfl, HL.out.trans hLm, HO.out, hLm ▸ HR1.out, HM.out⟩
end Go.Proofs.YtbpfonmkbbnkcaaGreatDoor
