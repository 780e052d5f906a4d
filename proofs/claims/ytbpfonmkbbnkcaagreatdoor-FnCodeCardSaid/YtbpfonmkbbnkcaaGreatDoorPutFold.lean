/- An op put behind the program's code, or what it comes to: putFolded. -/
import Derived.Test.YtbpfonmkbbnkcaaGreatDoorConcatOp
import Derived.Test.YtbpfonmkbbnkcaaGreatDoorRunImpl
import Derived.Test.YtbpfonmkbbnkcaaGreatDoorCodeSpec
namespace Go.Proofs.YtbpfonmkbbnkcaaGreatDoor
open Go Go.RowKit Go.PlainAid
set_option linter.unusedSimpArgs false
set_option linter.unusedVariables false

theorem val_one {k y : Int} (hk : k = 3 ∨ k = 4) (hy : In32 y) : codeVal [] [(1, y), (k, 0)] = one k y := by
  have h32 : -2147483648 ≤ y ∧ y ≤ 2147483647 := hy
  have e : deepOf ([] : List Int).length [(1, y), (k, 0)] = 1 := by
    rcases hk with rfl | rfl <;> (simp [deepOf, deepTo, stepOp, okB, tk, h32.1, h32.2]; decide)
  unfold codeVal
  rw [e, if_neg (by decide)]
  rcases hk with rfl | rfl <;> simp [runTo, runOp, wr32_in hy]
theorem val_two {k x y : Int} (hk : 5 ≤ k ∧ k ≤ 13) (hx : In32 x) (hy : In32 y) : codeVal [] [(1, x), (1, y), (k, 0)] = two k x y := by
  have h1 : -2147483648 ≤ x ∧ x ≤ 2147483647 := hx
  have h2 : -2147483648 ≤ y ∧ y ≤ 2147483647 := hy
  have e : deepOf ([] : List Int).length [(1, x), (1, y), (k, 0)] = 2 := by
    rcases pair_cases hk with rfl | rfl | rfl | rfl | rfl | rfl | rfl | rfl | rfl <;> (simp [deepOf, deepTo, stepOp, okB, tk, h1.1, h1.2, h2.1, h2.2]; decide)
  unfold codeVal
  rw [e, if_neg (by decide)]
  rcases pair_cases hk with rfl | rfl | rfl | rfl | rfl | rfl | rfl | rfl | rfl <;> simp [runTo, runOp, wr32_in hx, wr32_in hy]
theorem StkO.keep {p : Nat} {w w' : World} {st : List (Int × Int)} (h : StkO p w st) (hb : Below w.heap.size w w') : StkO p w' st := by
  have hlt := h.lt
  obtain ⟨v, hc, hf, hown⟩ := h
  exact ⟨v, (hb.cell hlt).trans hc, (hb.frozen hlt).trans hf, own_same hown hb⟩

set_option maxHeartbeats 800000 in
set_option maxRecDepth 100000 in
theorem putFolded_plain (p : Nat) (k n : Int) (st : List (Int × Int)) (w : World) (hs : StkO p w st) (hl : st.length ≤ 100) (hk : k = 1 ∨ k = 2) :
    Calls Tryz.prog 57 #[.pointer (some ⟨p, 0, none⟩), .agg #[.int .i64 k, .int .i64 n]] w fun e w' => e = .returned (.tuple #[]) ∧ StkO p w' ((k, n) :: st) ∧ Below p w w' := by
  have hlt := hs.lt
  have HS : Hid (StkO p w st) := hs
  clear hs
  have HB0 : Hid (Below w.heap.size w (w.alloc (.cells #[.int .i64 k, .int .i64 n] 82))) := (Below.refl _ _).alloc (Nat.le_refl _) _
  have ht : tk k = 0 := by unfold tk; rw [if_pos hk]
  have HT := hidOf (opTakes_any k n 16 (w.alloc (.cells #[.int .i64 k, .int .i64 n] 82)))
  rw [ht] at HT
  clear ht
  go_enter Tryz.func57, Tryz.ntmps57
  go_wp2_with fail
  refine HT.out.mono ?_
  rintro e w1 ⟨rfl, hb1⟩
  have HB1 : Hid (Below w.heap.size w w1) := HB0.out.trans (hb1.mono HB0.out.size)
  have HS1 : Hid (StkO p w1 st) := HS.out.keep HB1.out
  have c0 := hb1.cell (p := ⟨w.heap.size, 0, none⟩) (by simp)
  have c1 := hb1.cell (p := ⟨w.heap.size, 1, none⟩) (by simp)
  simp at c0 c1
  obtain ⟨v, hc, hf, hown⟩ := HS1.out
  obtain ⟨a, cap, rfl, hcap⟩ := hown.form
  have HP := hidOf (pushO_any p k n st w1 HS1.out (by omega))
  generalize st.length = m at *
  clear hown hf hb1 HT
  go_wp2_with (go_at_call 81; refine HP.out.mono ?_; rintro e w2 ⟨rfl, hs2, hb2⟩; have HS2 : Hid (StkO p w2 ((k, n) :: st)) := hs2; have HB2 : Hid (Below p w w2) := (HB1.out.mono (by omega)).trans hb2; clear hs2 hb2)
  go_returns
  exact ⟨rfl, HS2.out, HB2.out⟩
end Go.Proofs.YtbpfonmkbbnkcaaGreatDoor
