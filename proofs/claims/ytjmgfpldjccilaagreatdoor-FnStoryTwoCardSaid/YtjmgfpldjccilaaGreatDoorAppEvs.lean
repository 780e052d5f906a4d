/- Events appended to a row of one's own. -/
import Derived.Test.YtjmgfpldjccilaaGreatDoorStoryGetM
namespace Go.Proofs.YtjmgfpldjccilaaGreatDoor
open Go Go.RowKit Go.PlainAid Go.Deep
set_option linter.unusedSimpArgs false
set_option linter.unusedVariables false

/-- an operation whose guard is met -/
theorem wpList_guarded {P : Program} {w : World} {ops : Array Oper} {rest : List Oper} {o : Oper} {a : Act} {Q : Exit → Act → World → Prop} {j : Nat} {b : Bool} (hg : o.guard = some (j, b)) (hy : yielded ops a.tmps j = some b)
    (h : ∀ K : Act → World → Prop, (∀ a w, wpList P ops Q rest a w → K a w) → o.wp P a w K Q) : wpList P ops Q (o :: rest) a w :=
  wpList_step fun K hK => by
    have e : Region.wanted o (yielded ops a.tmps) = true := by simp [Region.wanted, hg, hy]
    rw [if_pos e]; exact h K hK
/-- an append whose run is known -/
theorem wp_append_run {P : Program} {w : World} {o : Oper} {a : Act} {K : Act → World → Prop} {Q : Exit → Act → World → Prop} (s x : Operand) (t ty : TypeId) (hty : o.type = ty) (ho : o.op = .call { callee := .builtin .append, args := #[s, x], argTypes := #[t, t] }) {v xv v' : Value} {w' : World} (hs : a.eval s = v) (hx : a.eval x = xv)
    (hr : (Builtin.append_ #[t, t] ty #[v, xv]).run P w = .ok v' w') (h : K (a.put o.dst v') w') : o.wp P a w K Q := by
  subst hty
  unfold Oper.wp execOp
  simp only [ho, resolve, invoke, builtin, Sem.run_bind, Sem.run_pure, Result.andThen_ok, List.map_toArray, List.map_cons, List.map_nil, hs, hx, hr]
  exact h
theorem append_nil (w : World) (a : Option Addr) (n c : Nat) (hc : n ≤ c) :
    (Builtin.append_ #[32, 32] 32 #[.slice a n c, .slice none 0 0]).run Tryz.prog w = .ok (.slice a n c) w := by
  obtain ⟨i0, hi, hz0, hz1, hz2⟩ := info_parts infoEvS
  have ht := Tryz.underlying32
  simp [Builtin.append_, underlying, typeInfo, sizeOf, program, Builtin.lenOf, unsupported, Sem.run, ht, hi, hz1, hz2, hc]
  cases a <;> simp [Builtin.firstCells, storeCells, Sem.run]
theorem own_cap {w : World} {B : Nat} {e : TypeId} {k n : Nat} {v : Value} {xs : List Value} (h : w.ownsRow B e k v n xs) : ∃ a c, v = .slice a n c ∧ n ≤ c := by
  rcases h.2 with ⟨h1, h2⟩ | ⟨g, cap, cur, h1, _, _, h4, _⟩
  · exact ⟨none, 0, by rw [h1, h2], by omega⟩
  · exact ⟨_, cap, h1, h4⟩
theorem own_evs_cells {M B : Nat} {w : World} {v : Value} {l : List Ev} {cs : List (List Value)} (h : OwnEv M B w v l cs) : ∀ u ∈ cs.flatten, u.oneCell' = true := by
  intro u hu
  obtain ⟨c, hc, huc⟩ := List.mem_flatten.1 hu
  obtain ⟨i, hi, e⟩ := List.getElem_of_mem hc
  obtain ⟨h1, Mi, Bi, h2, h3, ⟨a, k, e2, _⟩, _⟩ := h.each i (by rw [← h.len]; exact hi)
  rw [List.getD_eq_getElem?_getD, List.getElem?_eq_getElem hi, Option.getD_some, e] at e2
  rw [e2] at huc
  simp at huc
  rcases huc with rfl | rfl | rfl | rfl <;> rfl
/-- all of a row of events, appended to another row -/
theorem append_evs {M M' B' : Nat} {w : World} {u : Value} {n : Nat} {xs : List Value} (hown : w.ownsRow M 26 4 u n xs) (hM : M ≤ w.heap.size) {a : Option Addr} {c : Nat} {D : List Ev} {cs : List (List Value)} (hD : OwnEv M' B' w (.slice a D.length c) D cs) (hn : n + D.length ≤ 1000) :
    ∃ v' w', (Builtin.append_ #[32, 32] 32 #[u, .slice a D.length c]).run Tryz.prog w = .ok v' w' ∧ w'.ownsRow M 26 4 v' (n + D.length) (xs ++ cs.flatten) ∧ w.grownBy w' u.ownBlock := by
  obtain ⟨i0, hi, hz0, hz1, hz2⟩ := info_parts infoEvS
  have hrow := hD.row
  rcases hrow.2 with ⟨h1, h2⟩ | ⟨g, cap, cur, h1, _⟩
  · obtain ⟨ua, uc, rfl, huc⟩ := own_cap hown
    have hl : D.length = 0 := h2
    have hcs : cs.flatten = [] := List.length_eq_zero_iff.1 (by rw [hrow.1, hl])
    rw [h1, hl, hcs]
    exact ⟨_, w, append_nil w ua n uc huc, by simpa using hown, ⟨rfl, rfl, rfl, Nat.le_refl _, fun _ _ _ => rfl⟩⟩
  · have ha : a = some ⟨g, 0, none⟩ := by injection h1
    subst ha
    obtain ⟨v', w', hr, h2, h3, _⟩ := run_append_own (P := Tryz.prog) (w := w) M 32 32 26 i0 (.agg #[.int .i64 0, .int .i64 0, .int .i64 0, .slice none 0 0]) 4 48 Tryz.underlying32 hi hz0 hz1 hz2 rfl (by decide) u n xs hown ⟨g, 0, none⟩ D.length c cs.flatten hrow.1 (fun j x hx => by
      have hj : j < D.length * 4 := by rw [← hrow.1]; exact (List.getElem?_eq_some_iff.1 hx).1
      have hc := World.ownsRow.cellAt (by rw [h1] at hrow; exact hrow) j hj
      have e : (⟨g, 0, none⟩ : Addr).add j = ⟨g, j, none⟩ := by simp [Addr.add]; intro h; exact h.symm
      rw [e, hc, hx]) (own_evs_cells hD) (by unfold maxLen; omega) (by omega) hM
    exact ⟨v', w', hr, h2, h3⟩
/-- two lists of events, their cells in one row -/
theorem two_evs {M : Nat} {W : World} {v : Value} {A B : List Ev} {cA cB : List (List Value)} (hown : W.ownsRow M 26 4 v (A.length + B.length) (cA.flatten ++ cB.flatten)) (hA : cA.length = A.length) (hB : cB.length = B.length)
    (eA : ∀ i, (h : i < A.length) → (cA.getD i []).length = 4 ∧ QEv W.heap.size W (cA.getD i []) A[i]) (eB : ∀ i, (h : i < B.length) → (cB.getD i []).length = 4 ∧ QEv W.heap.size W (cB.getD i []) B[i]) :
    ∃ a c, v = .slice a (A ++ B).length c ∧ IsEvs W.heap.size W a (A ++ B).length (A ++ B) := by
  have h : OwnR 26 4 (fun _ _ w c x => QEv w.heap.size w c x) M W.heap.size W v (A ++ B) (cA ++ cB) := by
    refine ⟨by simp [hA, hB], by rw [List.length_append, List.flatten_append]; exact hown, fun q hq => (World.ownsRow.lt hown q hq).2, Nat.le_refl _, fun i hi => ?_⟩
    have key : ((cA ++ cB).getD i []).length = 4 ∧ QEv W.heap.size W ((cA ++ cB).getD i []) (A ++ B)[i] := by
      by_cases hil : i < A.length
      · have e1 : (cA ++ cB).getD i [] = cA.getD i [] := by simp [List.getD_eq_getElem?_getD, List.getElem?_append_left (show i < cA.length by omega)]
        have e2 : (A ++ B)[i] = A[i] := by rw [List.getElem_append_left hil]
        rw [e1, e2]; exact eA i hil
      · have hib : i - A.length < B.length := by rw [List.length_append] at hi; omega
        have e1 : (cA ++ cB).getD i [] = cB.getD (i - A.length) [] := by simp [List.getD_eq_getElem?_getD, List.getElem?_append_right (show cA.length ≤ i by omega), hA]
        have e2 : (A ++ B)[i] = B[i - A.length] := by rw [List.getElem_append_right (by omega)]
        rw [e1, e2]; exact eB _ hib
    by_cases hM : M ≤ W.heap.size
    · exact ⟨key.1, W.heap.size, 0, hM, Nat.zero_le _, key.2, fun q hq => .inl (World.ownsRow.lt hown q hq).2⟩
    · refine ⟨key.1, M, 0, Nat.le_refl _, Nat.zero_le _, key.2, fun q hq => .inl (by have := (World.ownsRow.lt hown q hq).2; omega)⟩
  exact OwnR.arr h (fun _ _ _ _ _ h4 => h4)
theorem OwnEv.cells {M B : Nat} {w : World} {v : Value} {l : List Ev} {cs : List (List Value)} (h : OwnEv M B w v l cs) : ∀ i, (hi : i < l.length) → (cs.getD i []).length = 4 ∧ QEv B w (cs.getD i []) l[i] := fun i hi => by
  obtain ⟨h1, Mi, Bi, h2, h3, h4, _⟩ := h.each i hi
  exact ⟨h1, h4.is h3⟩
end Go.Proofs.YtjmgfpldjccilaaGreatDoor
