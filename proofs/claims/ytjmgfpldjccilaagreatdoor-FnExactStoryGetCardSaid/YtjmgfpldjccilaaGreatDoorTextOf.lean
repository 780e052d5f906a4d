/- textOf: lines, a newline behind each. -/
import Derived.Test.YtjmgfpldjccilaaGreatDoorBuilderM
namespace Go.Proofs.YtjmgfpldjccilaaGreatDoor
open Go Go.RowKit Go.PlainAid
set_option linter.unusedSimpArgs false
set_option linter.unusedVariables false

def linesT (l : List (List UInt8)) : List UInt8 := l.flatMap (fun x => x ++ [10])
theorem linesT_snoc (l : List (List UInt8)) (x : List UInt8) : linesT (l ++ [x]) = linesT l ++ x ++ [10] := by simp [linesT]
theorem linesT_len {l : List (List UInt8)} (h : ∀ x ∈ l, x.length ≤ 80) : (linesT l).length ≤ 81 * l.length := by
  induction l with
  | nil => simp [linesT]
  | cons x l ih =>
    have h1 := h x (List.mem_cons_self ..)
    have h2 := ih (fun y hy => h y (List.mem_cons_of_mem _ hy))
    have e : linesT (x :: l) = x ++ [10] ++ linesT l := by simp [linesT]
    rw [e, List.length_append, List.length_append, List.length_cons]
    simp
    omega

set_option maxHeartbeats 1600000 in
set_option maxRecDepth 100000 in
theorem textOf_any (a : Option Addr) (n c : Nat) (l : List (List UInt8)) (w : World) (hn : n ≤ 1000) (hs : ∀ x ∈ l, x.length ≤ 80) (hz : IsStrs w.heap.size w a n (l.map bt8)) :
    Calls Tryz.prog 37 #[.slice a n c] w fun e w' => e = .returned (.string (bt8 (linesT l))) ∧ Below w.heap.size w w' := by
  have hlen : l.length = n := by have := hz.1; simpa using this
  have HZ := hidOf hz
  have HS := hidOf hs
  have HB0 : Hid (Below w.heap.size w (w.alloc (.cells #[.pointer none, .slice none 0 0] 80))) := (Below.refl _ _).alloc (Nat.le_refl _) _
  have HI0 := hidOf (Lib.fresh_isBuilder 80 5 w)
  clear hz hs
  go_enter Tryz.func37, Tryz.ntmps37
  go_wp2_with fail
  go_loopw [8] (fun i wr => ∃ k : Nat, k ≤ n ∧ i = .int .i64 k ∧ Hid (IsBd w.heap.size w.heap.size (linesT (l.take k)) wr) ∧ Below w.heap.size w wr) (fun i _ => n - (intOf i).toNat)
  case atStart => exact ⟨0, Nat.zero_le _, rfl, HI0.out, HB0.out⟩
  case round =>
    obtain ⟨k, hk, rfl, HK, hbel⟩ := hrel
    by_cases hlt : k < n
    · rcases (HZ.out.below hbel).2 with h0 | ⟨b, off, rfl, hb, hc⟩
      · omega
      have c0 := hc k (by simp; omega)
      have hbr : b < wr.heap.size := by have := hbel.size; omega
      have ht : linesT (l.take (k + 1)) = linesT (l.take k) ++ (l[k]'(by omega)) ++ [10] := by rw [List.take_succ_eq_append_getElem (by omega), linesT_snoc]
      have hx80 := HS.out (l[k]'(by omega)) (List.getElem_mem _)
      have hlen' : (linesT (l.take k)).length ≤ 81 * k := by
        have := linesT_len (l := l.take k) (fun y hy => HS.out y (List.mem_of_mem_take hy))
        rw [List.length_take] at this; omega
      obtain ⟨x, hx⟩ : ∃ x, l[k]'(by omega) = x := ⟨_, rfl⟩
      rw [List.getElem_map, hx] at c0
      rw [hx] at ht hx80
      have HT := hidOf ht
      have HW := hidOf (WriteString_any w.heap.size w.heap.size (linesT (l.take k)) x wr HK.out (by omega) hbel.size)
      clear hc hx ht
      go_wp2_with fail
      refine HW.out.mono ?_
      rintro e w1 ⟨rfl, hu1, hb1⟩
      have HB1 := hidOf (hbel.trans hb1)
      have HW1 := hidOf (WriteByte_any w.heap.size w.heap.size (linesT (l.take k) ++ x) 10 w1 (.inr hu1) (by rw [List.length_append]; omega) HB1.out.size)
      clear hu1 hb1
      go_wp2_with fail
      refine HW1.out.mono ?_
      rintro e w2 ⟨rfl, hu2, hb2⟩
      have HB2 := hidOf (HB1.out.trans hb2)
      have HU2 := hidOf hu2
      clear hu2 hb2
      go_wp2_with fail
      go_roundw
      case rel => exact ⟨k + 1, by omega, by go_num, by show IsBd _ _ _ _; rw [HT.out]; exact .inr HU2.out, HB2.out⟩
      case measure => simp [intOf]; omega
    · have : k = n := by omega
      subst this
      rw [List.take_of_length_le (by omega)] at HK
      have HST := hidOf (Tryz.Builder_String_any w.heap.size w.heap.size (linesT l) wr HK.out hbel.size)
      go_wp2_with fail
      refine HST.out.mono ?_
      rintro e w1 ⟨rfl, hb1⟩
      have HB1 := hidOf (hbel.trans hb1)
      clear hb1
      go_wp2_with fail
      go_ret
      exact ⟨rfl, HB1.out⟩
end Go.Proofs.YtjmgfpldjccilaaGreatDoor
