/- The model's l1Bound and l1Dec. -/
import Derived.Test.YtnkeibahaiibpaaGreatDoorBunY12
namespace Go.Proofs.YtnkeibahaiibpaaGreatDoor
open Go.RowKit Go.PlainAid
set_option linter.unusedSimpArgs false
set_option linter.unusedVariables false

theorem ret_str {a b : ByteArray} (h : a = b) : Ending.returned (.string a) = .returned (.string b) := by rw [h]
def boundM (t : ByteArray) (l need : Int) : ByteArray := if l < need then lpar ++ t ++ rpar else t
theorem l1Bound_any (t : ByteArray) (l need : Int) (w : World) (ht : t.size ≤ 1048576) : Calls Tryz.prog 244 #[.string t, .int .i64 l, .int .i64 need] w fun e w' => e = .returned (.string (boundM t l need)) ∧ w' = w := by
  unfold boundM
  by_cases h : l < need
  · rw [if_pos h]
    go_enter Tryz.func244, Tryz.ntmps244
    go_wp2_with fail
    go_ret
    exact ⟨rfl, rfl⟩
  · rw [if_neg h]
    go_enter Tryz.func244, Tryz.ntmps244
    go_wp2_with fail
    go_ret
    exact ⟨rfl, rfl⟩
theorem bound_size (t : ByteArray) (l need : Int) : (boundM t l need).size ≤ t.size + 2 := by
  unfold boundM
  split
  · have e1 : lpar.size = 1 := rfl
    have e2 : rpar.size = 1 := rfl
    rw [ByteArray.size_append, ByteArray.size_append]; omega
  · omega

/-- a figure's byte -/
def dig (n : Int) : ByteArray := ⟨#[UInt8.ofNat (48 + n).toNat]⟩
/-- decimals of a number of at most six figures -/
def decF : Nat → Int → ByteArray
  | 0, n => dig n
  | f + 1, n => if n < 10 then dig n else decF f (n / 10) ++ dig (n % 10)
def dec6 (n : Int) : ByteArray := decF 6 n

theorem decF_size (f : Nat) : ∀ n, (decF f n).size ≤ f + 1 := by
  induction f with
  | zero => intro n; simp [decF, dig, ByteArray.size]
  | succ f ih =>
    intro n
    unfold decF
    split
    · simp [dig, ByteArray.size]
    · have := ih (n / 10)
      have e : (dig (n % 10)).size = 1 := rfl
      rw [ByteArray.size_append, e]; omega

/-- a figure made of a number -/
theorem conv_dig (n : Int) (h0 : 0 ≤ n) (h1 : n < 10) (W : World) (b : Nat) (hc : W.cell? ⟨b, 0, none⟩ = some (.int .u8 (48 + n))) : (convert 145 9 (.slice (some ⟨b, 0, none⟩) 1 1)).run Tryz.prog W = .ok (.string (dig n)) W := by
  refine run_convert_bytes_back (P := Tryz.prog) W 145 9 5 ⟨b, 0, none⟩ 1 [UInt8.ofNat (48 + n).toNat] Tryz.underlying145 Tryz.underlying5 Tryz.underlying9 ?_
  intro j hj
  match j, hj with
  | 0, _ =>
    have e : ((UInt8.ofNat (48 + n).toNat).toNat : Int) = 48 + n := by
      rw [UInt8.toNat_ofNat']; omega
    simp only [List.getElem_cons_zero, e]
    simpa [Addr.add] using hc

theorem bel_after {w w' : World} (h : Below w.drew.heap.size w.drew w') (o : Obj) : Below w.heap.size w (w'.alloc o) := (undrew h).alloc h.size o
theorem bel_before {w w' : World} {o : Obj} (h : Below (w.alloc o).drew.heap.size (w.alloc o).drew w') : Below w.heap.size w w' :=
  ((Below.refl _ w).alloc (Nat.le_refl _) o).trans ((undrew h).mono (by simp))

set_option maxHeartbeats 800000 in
set_option maxRecDepth 100000 in
theorem l1Dec_any (f : Nat) : f ≤ 6 → ∀ (n : Int) (w : World), 0 ≤ n → n < 10 ^ (f + 1) → n ≤ 999999 → Calls Tryz.prog 243 #[.int .i64 n] w fun e w' => e = .returned (.string (decF f n)) ∧ Below w.heap.size w w' := by
  induction f with
  | zero =>
    intro _ n w h0 h1 h2
    have h1 : n < 10 := by simpa using h1
    have hcv := conv_dig n h0 h1
    go_enter Tryz.func243, Tryz.ntmps243
    go_wp2_with fail
    go_ret
    exact ⟨rfl, (Below.refl _ _).alloc (Nat.le_refl _) _⟩
  | succ f ih =>
    intro hf6 n w h0 h1 h2
    by_cases h10 : n < 10
    · have hcv := conv_dig n h0 h10
      have HN : Hid (decF (f + 1) n = dig n) := by
        show decF (f + 1) n = dig n
        rw [decF, if_pos h10]
      clear ih h1
      go_enter Tryz.func243, Tryz.ntmps243
      go_wp2_with fail
      go_ret
      exact ⟨ret_str HN.out.symm, (Below.refl _ _).alloc (Nat.le_refl _) _⟩
    · obtain ⟨q, hq⟩ : ∃ q, n / 10 = q := ⟨_, rfl⟩
      obtain ⟨r, hr⟩ : ∃ r, n % 10 = r := ⟨_, rfl⟩
      have t1 : n.tdiv 10 = q := by rw [Int.tdiv_eq_ediv_of_nonneg h0]; exact hq
      have t2 : n.tmod 10 = r := by rw [Int.tmod_eq_emod_of_nonneg h0]; exact hr
      have hcv := conv_dig r (by omega) (by omega)
      have HN : Hid (decF (f + 1) n = decF f q ++ dig r) := by
        show decF (f + 1) n = _
        rw [decF, if_neg h10, hq, hr]
      have hs := decF_size f q
      have hp : n / 10 < 10 ^ (f + 1) := by
        rw [Int.pow_succ] at h1
        exact Int.ediv_lt_of_lt_mul (by decide) h1
      have HI : Hid (∀ W : World, Calls Tryz.prog 243 #[.int .i64 q] W fun e w' => e = .returned (.string (decF f q)) ∧ Below W.heap.size W w') := fun W => ih (by omega) q W (by omega) (by rw [← hq]; exact hp) (by omega)
      have hz8 : (decF f q).size ≤ 8 := by omega
      have hd1 : (dig r).size = 1 := rfl
      have hz9 : (decF f q).size + (dig r).size ≤ 9223372036854775807 := by omega
      have hm1 : 0 ≤ r := by omega
      have hm2 : r < 10 := by omega
      have hq1 : 0 ≤ q := by omega
      have hq2 : q ≤ 99999 := by omega
      have p1 : IntKind.i64.wrap q = q := IntWalk.i64_in _ ⟨by omega, by omega⟩
      have p2 : IntKind.i64.wrap (48 + r) = 48 + r := IntWalk.i64_in _ ⟨by omega, by omega⟩
      have p3 : IntKind.u8.wrap (48 + r) = 48 + r := IntWalk.u8_in _ ⟨by omega, by omega⟩
      have p4 : IntKind.i64.wrap r = r := IntWalk.i64_in _ ⟨by omega, by omega⟩
      clear ih h1 hp hq hr
      go_enter Tryz.func243, Tryz.ntmps243
      go_wp2_with fail
      go_region_with (go_at_call 243; refine (HI.out _).mono ?_; rintro e w' ⟨rfl, hb⟩; obtain ⟨hc', hf'⟩ := bcell hb)
      all_goals
        go_wp2_with fail
        go_ret
        refine ⟨ret_str HN.out.symm, ?_⟩
        first
          | exact bel_after hb _
          | exact bel_before hb
end Go.Proofs.YtnkeibahaiibpaaGreatDoor
