/- What code comes to, op by op: plain. -/
import Derived.Test.YtmdaiejflolpmaaVals
namespace Go.Proofs.Ytmdaiejflolpmaa

def runOp (vs : List Int) (op : Int × Int) (st : List Int) : List Int :=
  if op.1 = 1 then wr32 op.2 :: st else if op.1 = 2 then wr32 (vs.getD op.2.toNat 0) :: st
  else if op.1 = 3 ∨ op.1 = 4 then one op.1 (st.headD 0) :: st.tail else two op.1 (st.tail.headD 0) (st.headD 0) :: st.tail.tail
/-- the stack behind the first k ops, its top first -/
def runTo (vs : List Int) (zs : List (Int × Int)) : Nat → List Int
  | 0 => []
  | k + 1 => runOp vs (zs.getD k (0, 0)) (runTo vs zs k)
/-- what code comes to -/
def codeVal (vs : List Int) (zs : List (Int × Int)) : Int := if deepOf vs.length zs < 0 then 0 else (runTo vs zs zs.length).headD 0

theorem deepOf_ok {slots : Int} {zs : List (Int × Int)} (h : ¬ deepOf slots zs < 0) : (0 ≤ slots ∧ slots ≤ 16 ∧ zs.length ≤ 24) ∧ ∃ m, deepTo slots zs zs.length = some (1, m) := by
  unfold deepOf at h
  split at h
  · rename_i g
    refine ⟨g, ?_⟩
    cases hd : deepTo slots zs zs.length with
    | none => simp [hd] at h
    | some s =>
      obtain ⟨d, m⟩ := s
      rw [hd] at h
      by_cases h1 : d = 1
      · subst h1; exact ⟨m, rfl⟩
      · exfalso; apply h
        split
        · rename_i hh; simp at hh; omega
        · omega
  · omega
theorem deepTo_some {slots : Int} {zs : List (Int × Int)} {n k : Nat} {s : Int × Int} (h : deepTo slots zs n = some s) (hk : k ≤ n) : ∃ d m, deepTo slots zs k = some (d, m) := by
  cases e : deepTo slots zs k with
  | none => rw [deepTo_none hk e] at h; cases h
  | some s => exact ⟨s.1, s.2, rfl⟩
theorem step_of {slots : Int} {zs : List (Int × Int)} {n k : Nat} {s : Int × Int} {d m : Int} (h : deepTo slots zs n = some s) (hk : k < n) (hd : deepTo slots zs k = some (d, m)) :
    okB (zs.getD k (0, 0)).1 (zs.getD k (0, 0)).2 slots = true ∧ tk (zs.getD k (0, 0)).1 ≤ d ∧ ∃ m', deepTo slots zs (k + 1) = some (d + (1 - tk (zs.getD k (0, 0)).1), m') := by
  obtain ⟨d', m', h1⟩ := deepTo_some h (show k + 1 ≤ n by omega)
  have h2 := h1
  simp only [deepTo, hd, Option.bind_some] at h2
  unfold stepOp at h2
  split at h2
  · rename_i hh
    simp only [Option.some.injEq, Prod.mk.injEq] at h2
    exact ⟨hh.1, hh.2, m', by rw [h1, ← h2.1]⟩
  · cases h2

theorem runOp_len (vs : List Int) (op : Int × Int) (st : List Int) (h : tk op.1 ≤ st.length) (h32 : ∀ x ∈ st, In32 x) : ((runOp vs op st).length : Int) = st.length + (1 - tk op.1) ∧ ∀ x ∈ runOp vs op st, In32 x := by
  have hhd : ∀ l : List Int, (∀ x ∈ l, In32 x) → In32 (l.headD 0) := fun l hl => by
    cases l with
    | nil => simp [In32]
    | cons a r => exact hl a (by simp)
  have htl : ∀ x ∈ st.tail, In32 x := fun x hx => h32 x (List.mem_of_mem_tail hx)
  have htl2 : ∀ x ∈ st.tail.tail, In32 x := fun x hx => htl x (List.mem_of_mem_tail hx)
  unfold tk at *
  unfold runOp
  by_cases h1 : op.1 = 1
  · simp only [h1, if_true, true_or] at *
    refine ⟨by simp, fun x hx => ?_⟩
    rcases List.mem_cons.1 hx with rfl | hx
    · exact in32_wr _
    · exact h32 x hx
  by_cases h2 : op.1 = 2
  · simp only [h2, if_true, or_true] at *
    refine ⟨by simp, fun x hx => ?_⟩
    rcases List.mem_cons.1 hx with rfl | hx
    · exact in32_wr _
    · exact h32 x hx
  have h12 : ¬ (op.1 = 1 ∨ op.1 = 2) := by omega
  simp only [if_neg h12, if_neg h1, if_neg h2] at *
  by_cases h3 : op.1 = 3 ∨ op.1 = 4
  · simp only [if_pos h3] at *
    refine ⟨by simp; omega, fun x hx => ?_⟩
    rcases List.mem_cons.1 hx with rfl | hx
    · exact in32_one _ _
    · exact htl x hx
  · simp only [if_neg h3] at *
    refine ⟨by simp; omega, fun x hx => ?_⟩
    rcases List.mem_cons.1 hx with rfl | hx
    · exact in32_two (hhd _ htl)
    · exact htl2 x hx

theorem run_len {slots : Int} {vs : List Int} {zs : List (Int × Int)} {n : Nat} {s : Int × Int} (hn : deepTo slots zs n = some s) (k : Nat) : ∀ {d m : Int}, k ≤ n → deepTo slots zs k = some (d, m) → ((runTo vs zs k).length : Int) = d ∧ ∀ x ∈ runTo vs zs k, In32 x := by
  induction k with
  | zero => intro d m _ h; simp [deepTo] at h; simp [runTo]; omega
  | succ k ih =>
    intro d m hk h
    obtain ⟨d0, m0, h0⟩ := deepTo_some hn (show k ≤ n by omega)
    obtain ⟨ih1, ih2⟩ := ih (by omega) h0
    obtain ⟨o1, o2, m', o3⟩ := step_of hn (show k < n by omega) h0
    rw [o3] at h
    simp only [Option.some.injEq, Prod.mk.injEq] at h
    have := runOp_len vs (zs.getD k (0, 0)) (runTo vs zs k) (by omega) ih2
    exact ⟨by simp only [runTo]; omega, this.2⟩
theorem run_le {slots : Int} {vs : List Int} {zs : List (Int × Int)} {n : Nat} {s : Int × Int} (hn : deepTo slots zs n = some s) {k : Nat} (hk : k ≤ n) : (runTo vs zs k).length ≤ k := by
  obtain ⟨d0, m0, h0⟩ := deepTo_some hn hk
  have h1 := (run_len (vs := vs) hn k hk h0).1
  have h2 := deepTo_range h0
  omega
theorem okB_cases {x y s : Int} (h : okB x y s = true) : (x = 1 ∧ In32 y) ∨ (x = 2 ∧ 0 ≤ y ∧ y < s) ∨ (x = 3 ∨ x = 4) ∨ (5 ≤ x ∧ x ≤ 13) := by
  unfold okB at h
  split at h
  · left; exact ⟨by assumption, by simpa [In32] using h⟩
  split at h
  · right; left; exact ⟨by assumption, by simpa using h⟩
  split at h
  · right; right; left; assumption
  · right; right; right; simp at h; exact h.1
end Go.Proofs.Ytmdaiejflolpmaa
