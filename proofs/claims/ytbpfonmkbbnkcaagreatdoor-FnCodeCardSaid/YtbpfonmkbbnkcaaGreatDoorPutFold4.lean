/- putFolded, whole: what the model's l2One makes. -/
import Derived.Test.YtbpfonmkbbnkcaaGreatDoorPutFold3
namespace Go.Proofs.YtbpfonmkbbnkcaaGreatDoor
open Go Go.RowKit Go.PlainAid
set_option linter.unusedSimpArgs false
set_option linter.unusedVariables false

theorem putFolded_any (p : Nat) (k n : Int) (st : List (Int × Int)) (w : World) (hs : StkO p w st) (hl : st.length ≤ 100) (h32 : Nums st)
    (hk : (k = 1 ∨ k = 2) ∨ ((k = 3 ∨ k = 4) ∧ 1 ≤ st.length ∧ n = 0) ∨ ((5 ≤ k ∧ k ≤ 13) ∧ 2 ≤ st.length ∧ n = 0)) :
    Calls Tryz.prog 57 #[.pointer (some ⟨p, 0, none⟩), .agg #[.int .i64 k, .int .i64 n]] w fun e w' => e = .returned (.tuple #[]) ∧ StkO p w' (foldOp (k, n) st) ∧ Below p w w' := by
  rcases hk with hk | ⟨hk, h1, rfl⟩ | ⟨hk, h2, rfl⟩
  · have e : foldOp (k, n) st = (k, n) :: st := by
      unfold foldOp
      rw [if_neg (by simp; omega), if_neg (by simp; omega)]
    rw [e]
    exact putFolded_plain p k n st w hs hl hk
  · match st, h1, hs, hl, h32 with
    | z :: r, _, hs, hl, h32 =>
      have ht : tk k = ((1 : Nat) : Int) := by unfold tk; rw [if_neg (by omega), if_pos hk]; rfl
      simp at hl
      have ef : foldOp (k, 0) (z :: r) = if z.1 = 1 then (1, one k z.2) :: r else (k, 0) :: z :: r := by
        unfold foldOp
        rw [if_pos (by simpa using hk)]
        rfl
      by_cases hz : z.1 = 1
      · rw [ef, if_pos hz]
        have hz2 : z = (1, z.2) := by obtain ⟨a, b⟩ := z; simp at hz; subst hz; rfl
        have hv : codeVal [] ([z] ++ [(k, 0)]) = one k z.2 := by
          rw [hz2]; exact val_one hk (h32 z (by simp) hz)
        have := putFolded_fold p r.length 1 k 0 [z] r w (.inl rfl) (by simpa using hs) rfl rfl (by omega) ht (by simp [notNum, hz])
        rw [hv] at this
        exact this
      · rw [ef, if_neg hz]
        have := putFolded_keep p r.length 1 k 0 [z] r w (.inl rfl) (by simpa using hs) rfl rfl (by omega) ht (by simp [notNum, hz])
        simpa using this
  · match st, h2, hs, hl, h32 with
    | y :: x :: r, _, hs, hl, h32 =>
      have ht : tk k = ((2 : Nat) : Int) := by unfold tk; rw [if_neg (by omega), if_neg (by omega)]; rfl
      simp at hl
      have ef : foldOp (k, 0) (y :: x :: r) = if y.1 = 1 ∧ x.1 = 1 then (1, two k x.2 y.2) :: r else (k, 0) :: y :: x :: r := by
        unfold foldOp
        rw [if_neg (by simp; omega), if_pos (by simp; omega)]
        rfl
      by_cases hz : y.1 = 1 ∧ x.1 = 1
      · rw [ef, if_pos hz]
        have hy2 : y = (1, y.2) := by obtain ⟨a, b⟩ := y; simp at hz; rw [hz.1]
        have hx2 : x = (1, x.2) := by obtain ⟨a, b⟩ := x; simp at hz; rw [hz.2]
        have hv : codeVal [] ([x, y] ++ [(k, 0)]) = two k x.2 y.2 := by
          rw [hy2, hx2]; exact val_two hk (h32 x (by simp) hz.2) (h32 y (by simp) hz.1)
        have := putFolded_fold p r.length 2 k 0 [x, y] r w (.inr rfl) (by simpa using hs) rfl rfl (by omega) ht (by simp [notNum, hz.1, hz.2])
        rw [hv] at this
        exact this
      · rw [ef, if_neg hz]
        have hnn : notNum [x, y] = true := by
          simp [notNum]
          by_cases hx : x.1 = 1
          · exact .inr (fun h => hz ⟨h, hx⟩)
          · exact .inl hx
        have := putFolded_keep p r.length 2 k 0 [x, y] r w (.inr rfl) (by simpa using hs) rfl rfl (by omega) ht hnn
        simpa using this
end Go.Proofs.YtbpfonmkbbnkcaaGreatDoor
