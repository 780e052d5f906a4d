/- strconv.Atoi of one to six figures. -/
import Derived.Test.YtcajjngjojegfaaGreatDoorReader3
import Derived.Laws.IdiomStrings
namespace Go.Proofs.YtcajjngjojegfaaGreatDoor
open Go Go.RowKit Go.PlainAid
set_option linter.unusedSimpArgs false
set_option linter.unusedVariables false

theorem figTo_at {x : ByteArray} : ∀ {n k : Nat}, figTo x n = true → k < n → figB (bt x k) = true := by
  intro n
  induction n with
  | zero => intro k _ h; omega
  | succ n ih =>
    intro k h hk
    simp [figTo] at h
    by_cases e : k = n
    · subst e; exact h.2
    · exact ih h.1 (by omega)
/-- the bytes of a text, in a row of their own -/
theorem conv_bytes (x : ByteArray) (w : World) : ∃ c1 w1, (convert 9 22 (.string x)).run Tryz.prog w = .ok (.slice (some ⟨w.heap.size, 0, none⟩) x.size c1) w1 ∧ x.size ≤ c1 ∧ (∀ k, k < x.size → w1.cell? ⟨w.heap.size, k, none⟩ = some (.int .u8 (bt x k))) ∧ Below w.heap.size w w1 := by
  refine ⟨_, _, run_bytes_of_string w 9 22 5 x Tryz.underlying9 Tryz.underlying22 Tryz.underlying5, grownCap_ge _ _ _ _, fun k hk => ?_, ?_⟩
  · have h1 := bytesRow_at x (grownCap w x.size 0 5) k hk
    have hh : ∀ (o : Obj), (w.drew.alloc o).heap[w.heap.size]? = some o := fun o => by
      show (w.heap.push o)[w.heap.size]? = _
      simp
    have h2 : ∀ (C : Array Value) (t : TypeId) (fr : Nat × Nat), (w.drew.alloc (.cells C t fr)).cell? ⟨w.heap.size, k, none⟩ = C[k]? := fun C t fr => by
      unfold World.cell?
      simp only [hh]
      rfl
    rw [h2, h1, ← get_bt x k hk]
    rfl
  · exact ((Below.refl _ _).drew).alloc (Nat.le_refl _) _

set_option maxHeartbeats 800000 in
set_option maxRecDepth 100000 in
theorem iAtoi_any (x : ByteArray) (w : World) (h1 : 1 ≤ x.size) (h6 : x.size ≤ 6) (hf : figTo x x.size = true) :
    Calls Tryz.prog 142 #[.string x] w fun e w' => e = .returned (.tuple #[.int .i64 (numTo x x.size), .nilIface]) ∧ Below w.heap.size w w' := by
  have HF : Hid (figTo x x.size = true) := hf
  have hbx := get_bt x
  have hb0 : 48 ≤ bt x 0 ∧ bt x 0 ≤ 57 := by
    have := figTo_at hf (k := 0) (by omega)
    unfold figB at this; simpa using this
  have e45 : (bt x 0 == 45) = false := by simp; omega
  have e43 : (bt x 0 == 43) = false := by simp; omega
  clear hf
  obtain ⟨c1, w1, hcv, hc1, hcell, hb1⟩ := conv_bytes x w
  have HC : Hid (∀ k, k < x.size → w1.cell? ⟨w.heap.size, k, none⟩ = some (.int .u8 (bt x k))) := hcell
  have HB : Hid (Below w.heap.size w w1) := hb1
  clear hcell hb1
  go_enter Tryz.func142, Tryz.ntmps142
  go_wp2_with fail
  go_loop [6, 49] (fun v i => ∃ k : Nat, k ≤ x.size ∧ i = .int .i64 k ∧ v = .int .i64 (numTo x k)) (fun _ i => x.size - (intOf i).toNat)
  case atStart => exact ⟨0, Nat.zero_le _, rfl, rfl⟩
  case round =>
    obtain ⟨k, hk, rfl, rfl⟩ := hrel
    have hfk := figTo_le x hk HF.out
    obtain ⟨n0, n1⟩ := numTo_le hfk (by omega)
    by_cases hlt : k < x.size
    · have hck := HC.out k hlt
      have hbk : 48 ≤ bt x k ∧ bt x k ≤ 57 := by
        have := figTo_at HF.out hlt
        unfold figB at this; simpa using this
      obtain ⟨hb1, hb2⟩ := hbk
      have HN : Hid (numTo x (k + 1) = numTo x k * 10 + (bt x k - 48)) := rfl
      generalize numTo x k = n at *
      go_wp2_with fail
      go_round
      case rel => exact ⟨k + 1, by omega, by go_num, by rw [HN.out]⟩
      case measure => simp [intOf]; omega
    · have hkx : k = x.size := by omega
      subst hkx
      go_wp2_with fail
      go_ret2
      exact ⟨rfl, HB.out⟩
theorem atoi_any (x : ByteArray) (w : World) (h1 : 1 ≤ x.size) (h6 : x.size ≤ 6) (hf : figTo x x.size = true) :
    Calls Tryz.prog 138 #[.string x] w fun e w' => e = .returned (.tuple #[.int .i64 (numTo x x.size), .nilIface]) ∧ Below w.heap.size w w' := by
  obtain ⟨n, hn⟩ : ∃ n, numTo x x.size = n := ⟨_, rfl⟩
  have HA : Hid (∀ w, Calls Tryz.prog 142 #[.string x] w fun e w' => e = .returned (.tuple #[.int .i64 n, .nilIface]) ∧ Below w.heap.size w w') := fun w => by rw [← hn]; exact iAtoi_any x w h1 h6 hf
  rw [hn]
  clear hn hf
  go_enter Tryz.func138, Tryz.ntmps138
  go_wp2_with (go_at_call 142; refine (HA.out _).mono ?_; rintro e w1 ⟨rfl, hb1⟩)
  go_ret2
  exact ⟨rfl, hb1⟩
end Go.Proofs.YtcajjngjojegfaaGreatDoor
