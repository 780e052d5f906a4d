/- append from whatever source to a row of one's own; what one name and one value more change. -/
import Derived.Test.YtcajjngjojegfaaGreatDoorDrawRun
import Derived.Test.YtcajjngjojegfaaGreatDoorBunH
import Derived.Deep.Upon
namespace Go.Proofs.YtcajjngjojegfaaGreatDoor
open Go Go.RowKit Go.PlainAid Go.Deep
set_option linter.unusedSimpArgs false
set_option linter.unusedVariables false

theorem wpList_append_from {P : Program} {w : World} {ops : Array Oper} {rest : List Oper} {o : Oper} {a : Act} {Q : Exit → Act → World → Prop} (hgd : o.guard = none) (s x : Operand) (t : TypeId)
    (ho : o.op = .call { callee := .builtin .append, args := #[s, x], argTypes := #[t, t] })
    (base : Nat) (e : TypeId) (i : TypeInfo) (z : Value) (size bytes : Nat) (ht : P.underlying t = some (.slice e)) (hi : P.info? e = some i) (hz : i.zero = some z)
    (hsize : i.size = size) (hby : i.bytes = bytes) (hzs : z.cells.size = size) (hsz : 0 < size)
    (v : Value) (n : Nat) (xs : List Value) (hs : a.eval s = v) (hown : w.ownsRow base e size v n xs)
    (ax : Option Addr) (m c : Nat) (news : List Value) (hx : a.eval x = .slice ax m c) (hl : news.length = m * size) (hsrc : m = 0 ∧ ax = none ∨ ∃ ad, ax = some ad ∧ ∀ j u, news[j]? = some u → w.cell? (ad.add j) = some u) (h1 : ∀ u ∈ news, u.oneCell' = true)
    (h63 : n + m ≤ maxLen) (hbytes : (n + m) * bytes ≤ 140737488355328) (hbase : base ≤ w.heap.size)
    (h : ∀ v' w', w'.ownsRow base e size v' (n + m) (xs ++ news) → Below base w w' → wpList P ops Q rest (a.put o.dst v') w') : wpList P ops Q (o :: rest) a w := by
  rcases hsrc with ⟨rfl, rfl⟩ | ⟨ad, rfl, hnews⟩
  · have hn0 : news = [] := List.eq_nil_of_length_eq_zero (by simpa using hl)
    subst hn0
    obtain ⟨b0, cp, hv, hle⟩ : ∃ b0 cp, v = .slice b0 n cp ∧ n ≤ cp := by
      rcases hown.2 with ⟨h1, h2⟩ | ⟨g, cp, cur, h1, _, _, h4, _⟩
      · exact ⟨none, 0, by rw [h1, h2], by omega⟩
      · exact ⟨_, cp, h1, h4⟩
    refine wpList_plain hgd fun K hK' => ?_
    have hrun := run_append_nothing (P := P) w t t o.type e i ht hi b0 n cp hle (.slice none 0 c) (by rw [hsize]; exact Src.ofNil w ht c)
    rw [← hv] at hrun
    unfold Oper.wp
    simp [execOp, ho, resolve, invoke, builtin, hs, hx, hrun, Result.andThen]
    exact hK' _ _ (h v w (by simpa using hown) (Below.refl _ _))
  · refine wpList_append_own w hgd s x t ho base e i z size bytes ht hi hz hsize hby hzs hsz v n xs hs hown ad m c news hx hl hnews h1 h63 hbytes hbase ?_
    intro v' w' h2 h3 _
    exact h v' w' h2 ((Below.refl base w).grown h3 hbase (fun q hq => (hown.lt q hq).1))

theorem findM_more {x z : ByteArray} (hz : x ≠ z) : ∀ l : List ByteArray, findM (l ++ [z]) x = findM l x := by
  intro l
  by_cases hx : ∃ k, ∃ h : k < l.length, l[k] = x ∧ ∀ j, (hj : j < k) → l[j] ≠ x
  · obtain ⟨k, hk, h1, h2⟩ := hx
    rw [findM_at hk h1 h2]
    refine findM_at (by simp; omega) (by rw [List.getElem_append_left hk]; exact h1) (fun j hj => ?_)
    rw [List.getElem_append_left (by omega)]
    exact h2 j hj
  · have hno : ∀ n k, k < n → (hk : k < l.length) → l[k] ≠ x := by
      intro n
      induction n with
      | zero => intro k h; omega
      | succ n ih =>
        intro k hkn hk hkx
        by_cases hall : ∀ j, (hj : j < k) → l[j] ≠ x
        · exact hx ⟨k, hk, hkx, hall⟩
        · simp only [Classical.not_forall, Classical.not_not] at hall
          obtain ⟨j, hj, hjx⟩ := hall
          exact ih j (by omega) (by omega) hjx
    rw [findM_none (fun j hj => hno (j + 1) j (by omega) hj)]
    refine findM_none (fun j hj => ?_)
    by_cases hjl : j < l.length
    · rw [List.getElem_append_left hjl]; exact hno (j + 1) j (by omega) hjl
    · have : j = l.length := by simp at hj; omega
      subst this
      simp
      exact fun e => hz e.symm
theorem ofM_more {names : List ByteArray} {vals : List Int} {x z : ByteArray} (y : Int) (hl : vals.length = names.length) (hz : x ≠ z) : ofM (names ++ [z]) (vals ++ [y]) x = ofM names vals x := by
  have hf := findM_lt names x
  unfold ofM
  rw [findM_more hz]
  by_cases h0 : findM names x < 0
  · rw [if_pos (.inl h0), if_pos (.inl h0)]
  · rw [if_neg (by simp; omega), if_neg (by omega)]
    congr 1
    rw [List.getD_eq_getElem?_getD, List.getD_eq_getElem?_getD, List.getElem?_append_left (by omega)]
theorem runNds_congr {f g : ByteArray → Int} {l : List Nd} (h : ∀ x ∈ l, f x.2.2 = g x.2.2) : ∀ k, k ≤ l.length → runNds f l k = runNds g l k := by
  intro k
  induction k with
  | zero => intro _; rfl
  | succ k ih =>
    intro hk
    simp only [runNds]
    rw [ih (by omega)]
    have hx : f (l.getD k (0, 0, noName)).2.2 = g (l.getD k (0, 0, noName)).2.2 := by
      rw [List.getD_eq_getElem?_getD, List.getElem?_eq_getElem (by omega)]
      exact h _ (List.getElem_mem _)
    unfold runNd
    rw [hx]
theorem valM_congr {f g : ByteArray → Int} {l : List Nd} (h : ∀ x ∈ l, f x.2.2 = g x.2.2) : valM f l = valM g l := by
  unfold valM
  cases hs : sumM l with
  | none => rfl
  | some t =>
    have h1 := runNds_sum (f := f) hs
    have h2 := runNds_sum (f := g) hs
    rw [runNds_congr h _ (Nat.le_refl _), h2] at h1
    simp only
    exact (List.cons.inj h1).1.symm
theorem noZ_ne {x : ByteArray} (h : NoZ x) : x ≠ zzz := by
  intro e
  subst e
  exact h 122 (by decide) rfl
theorem valM_more {names : List ByteArray} {vals : List Int} {l : List Nd} (hf : NdFit l) (hl : vals.length = names.length) : valM (ofM (names ++ [zzz]) (vals ++ [7])) l = valM (ofM names vals) l :=
  valM_congr fun x hx => ofM_more 7 hl (noZ_ne (hf.2 x hx).2.2)
theorem valM_in {f : ByteArray → Int} (hf : ∀ x, In32 (f x)) (l : List Nd) : In32 (valM f l) := by
  unfold valM
  split
  · unfold In32; omega
  · exact valT_in hf _
end Go.Proofs.YtcajjngjojegfaaGreatDoor
