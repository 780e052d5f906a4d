/- ClockDue of the program. -/
import Derived.Test.YtlpdilmdhfemdaaSpecDue
import Derived.Test.YtlpdilmdhfemdaaNextP
namespace Go.Proofs.Ytlpdilmdhfemdaa
open Go Go.RowKit Go.PlainAid Go.Shelf
set_option linter.unusedSimpArgs false
set_option linter.unusedVariables false
attribute [local go_sem] Oper.semAt_some

theorem isSpan_any (p q : Int) (w : World) : Calls Try.prog 29 #[.int .i64 p, .int .i64 q] w fun e w' => e = .returned (.bool (spanB p q)) ∧ w' = w := by
  obtain ⟨D, hD⟩ : ∃ D, spanB p q = D := ⟨_, rfl⟩
  have HD := hidOf hD
  rw [hD]
  clear hD
  by_cases h1 : 0 ≤ p ∧ p ≤ 9999
  · by_cases h2 : 0 ≤ q ∧ q ≤ 9999
    · have w1 : IntKind.i64.wrap (q - p) = q - p := by rw [IntKind.wrap_i64]; omega
      by_cases h3 : p ≤ q
      · go_enter Try.func29, Try.ntmps29
        go_wp2_with (go_at_call 36; refine (isTime_any _ _).mono ?_; rintro e w' ⟨rfl, rfl⟩; first | rw [decide_eq_true h1] | rw [decide_eq_true h2])
        go_ret
        exact ⟨ret_bool (by rw [← HD.out]; simp [spanB, h1, h2, h3]), rfl⟩
      · go_enter Try.func29, Try.ntmps29
        go_wp2_with (go_at_call 36; refine (isTime_any _ _).mono ?_; rintro e w' ⟨rfl, rfl⟩; first | rw [decide_eq_true h1] | rw [decide_eq_true h2])
        go_ret
        refine ⟨ret_bool ?_, rfl⟩
        rw [← HD.out]; unfold spanB; rw [decide_eq_false (show ¬ (p ≤ q ∧ q ≤ 9999) by omega)]; simp
    · go_enter Try.func29, Try.ntmps29
      go_wp2_with (go_at_call 36; refine (isTime_any _ _).mono ?_; rintro e w' ⟨rfl, rfl⟩; first | rw [decide_eq_true h1] | rw [decide_eq_false h2])
      go_ret
      refine ⟨ret_bool ?_, rfl⟩
      rw [← HD.out]; unfold spanB; rw [decide_eq_true h1, decide_eq_false (show ¬ (p ≤ q ∧ q ≤ 9999) by omega)]; simp
  · go_enter Try.func29, Try.ntmps29
    go_wp2_with (go_at_call 36; refine (isTime_any _ _).mono ?_; rintro e w' ⟨rfl, rfl⟩; rw [decide_eq_false h1])
    go_ret
    refine ⟨ret_bool ?_, rfl⟩
    rw [← HD.out]; unfold spanB; rw [decide_eq_false h1]; simp
def outO (v : Value) : Obj := .cells #[v] 26 (0, 0)
def intO (x : Int) : Obj := .cells #[.int .i64 x] 3 (0, 0)

/-- an append leaves what lies below the row's blocks -/
theorem grown_lower {h : Nat} {W w1 : World} {v : Value} {L : List Fr} {o : Obj} (hr : OwnF h W v L) (hs : h ≤ W.heap.size) (hg : (W.alloc o).grownBy w1 v.ownBlock) : W.heap.size + 1 ≤ w1.heap.size ∧ ∀ j, j < W.heap.size → j < h → w1.heap[j]? = W.heap[j]? := by
  refine ⟨by have := hg.size; simpa using this, fun j h1 h2 => ?_⟩
  rw [hg.block j (by simp; omega) (fun e => by have := (World.ownsRow.lt hr j e.symm).1; omega)]
  exact Below.heap_alloc _ _ _ h1
set_option maxRecDepth 100000 in
set_option maxHeartbeats 4000000 in
theorem implClockDue_any (B : Nat) (a : Option Addr) (n c : Nat) (l : List Bt) (p q : Int) (w : World) (hB : B ≤ w.heap.size) (hn : n ≤ 1048576) (hz : IsBts B w a n l) :
    Calls Try.prog 10 #[.slice a n c, .int .i64 p, .int .i64 q] w fun e w' => ∃ v, e = .returned v ∧ OwnF w.heap.size w' v (clockM l p q) ∧ Below w.heap.size w w' := by
  obtain ⟨i0, hi, hz0, hz1, hz2⟩ := info_parts infoFr
  have HZ := hidOf hz
  have hlen := hz.1
  refine (callsIn_wide (n := 7)).1 ?_
  have HOK : Hid (∀ W, Below w.heap.size w W → Calls Try.prog 13 #[.slice a n c] W fun e w' => e = .returned (.bool (btsB l)) ∧ Below W.heap.size W w') := fun W hb => implClockOk_any B a n c l W (Nat.le_trans hB hb.size) hn (hz.belowBt (hb.mono hB))
  clear hz
  have HT := hidOf (isSpan_any p q)
  obtain ⟨R, hR⟩ : ∃ R, clockM l p q = R := ⟨_, rfl⟩
  have HR : Hid ((btsB l = true → spanB p q = true → dueM l p (q - p).toNat = R) ∧ ((btsB l && spanB p q) = false → R = [])) := by
    refine ⟨fun h1 h2 => ?_, fun h => ?_⟩
    · rw [← hR]; unfold clockM; rw [h1, h2]; rfl
    · rw [← hR]; unfold clockM; rw [h]; rfl
  rw [hR]
  clear hR
  cases hok : btsB l with
  | false =>
    rw [hok] at HOK HR
    have hR := HR.out.2 rfl
    subst hR
    refine callsIn_of_wp_marks Try.func10 rfl trivial ?_ rfl
    simp only [Try.ntmps10, List.size_toArray, List.length_cons, List.length_nil, Nat.reduceAdd, Nat.reduceSub, Array.replicate_succ, Array.replicate_zero, List.push_toArray, List.append_toArray, List.nil_append, List.cons_append]
    gi_wp2_with fail
    refine ⟨trivial, (callsIn_wide.2 (HOK.out _ (by go_grown))).mono ?_⟩
    rintro e w1 ⟨rfl, hb1⟩
    have HB1 := hidOf (below_boxed hb1)
    clear hb1
    gi_wp2_with fail
    refine ⟨trivial, ?_⟩
    gi_wp2_with fail
    refine ⟨_, by simp [results, Try.results10, go_sem]; try rfl, _, rfl, OwnF.nil _ _, HB1.out⟩
  | true =>
    rw [hok] at HOK
    have hall : l.all btB = true ∧ l.length ≤ 3 := by simpa [btsB] using hok
    have hlall : ∀ x ∈ l, btB x = true := fun x hx => List.all_eq_true.1 hall.1 x hx
    cases hsp : spanB p q with
    | false =>
      rw [hok, hsp] at HR
      rw [hsp] at HT
      have hR := HR.out.2 rfl
      subst hR
      refine callsIn_of_wp_marks Try.func10 rfl trivial ?_ rfl
      simp only [Try.ntmps10, List.size_toArray, List.length_cons, List.length_nil, Nat.reduceAdd, Nat.reduceSub, Array.replicate_succ, Array.replicate_zero, List.push_toArray, List.append_toArray, List.nil_append, List.cons_append]
      gi_wp2_with fail
      refine ⟨trivial, (callsIn_wide.2 (HOK.out _ (by go_grown))).mono ?_⟩
      rintro e w1 ⟨rfl, hb1⟩
      have q0 := (hb1.cell (p := ⟨w.heap.size, 0, none⟩) (by simp)).trans (show _ = some (Value.int .i64 q) by simp)
      have HB1 := hidOf (below_boxed hb1)
      clear hb1
      gi_wp2_with fail
      refine ⟨trivial, (callsIn_wide.2 (HT.out _)).mono ?_⟩
      rintro e w2 ⟨rfl, rfl⟩
      gi_wp2_with fail
      refine ⟨_, by simp [results, Try.results10, go_sem]; try rfl, _, rfl, OwnF.nil _ _, HB1.out⟩
    | true =>
      rw [hsp] at HT
      have hsq : (0 ≤ p ∧ p ≤ 9999) ∧ (p ≤ q ∧ q ≤ 9999) ∧ q - p ≤ 40 := by simpa [spanB, and_assoc] using hsp
      have HC := hidOf (coming_any a n c p)
      have HLL := hidOf hlall
      have HTT := hidOf hsq.1
      have HD : Hid (dueM l p (q - p).toNat = R) := HR.out.1 hok hsp
      have HRL : Hid (R.length ≤ 120) := by
        show _ ≤ _
        have h1 := dueM_len l (q - p).toNat p
        rw [HD.out] at h1
        have h2 : (q - p).toNat * l.length ≤ 40 * 3 := Nat.mul_le_mul (by omega) hall.2
        omega
      have HF : Hid (l ≠ [] → (∀ k, (h : k < R.length) → fireP (stP (l.map (pulM p)) k) = R[k] ∧ R[k].1 < q) ∧ q ≤ (fireP (stP (l.map (pulM p)) R.length)).1) := fun hne => by
        have h1 := fol_due hlall hne (q - p).toNat p hsq.1.1 (by omega)
        rw [show p + ((q - p).toNat : Int) = q by omega, HD.out] at h1
        exact h1.at
      have HE : Hid (l = [] → R = []) := fun e => by
        have h1 := dueM_len l (q - p).toNat p
        rw [HD.out, e] at h1
        simp at h1
        exact h1
      clear HR hok hsp hall hlall hsq
      refine callsIn_of_wp_marks Try.func10 rfl trivial ?_ rfl
      simp only [Try.ntmps10, List.size_toArray, List.length_cons, List.length_nil, Nat.reduceAdd, Nat.reduceSub, Array.replicate_succ, Array.replicate_zero, List.push_toArray, List.append_toArray, List.nil_append, List.cons_append]
      gi_wp2_with fail
      refine ⟨trivial, (callsIn_wide.2 (HOK.out _ (by go_grown))).mono ?_⟩
      rintro e w1 ⟨rfl, hb1⟩
      have o0 : w1.heap[w.heap.size]? = some (intO q) := (hb1.block _ (by simp)).trans (World.alloc_heap_new w _)
      have q0 : w1.cell? ⟨w.heap.size, 0, none⟩ = some (.int .i64 q) := (obj_cell o0 0).1
      have hsw : w.heap.size + 1 ≤ w1.heap.size := (Array.getElem?_eq_some_iff.1 o0).1
      have HB1 := hidOf (below_boxed hb1)
      have O0 := hidOf o0
      clear hb1 o0
      gi_wp2_with fail
      refine ⟨trivial, (callsIn_wide.2 (HT.out _)).mono ?_⟩
      rintro e w2 ⟨rfl, rfl⟩
      gi_wp2_with fail
      refine ⟨trivial, (callsIn_wide.2 (HC.out _)).mono ?_⟩
      rintro e w3 ⟨rfl, rfl⟩
      gi_wp2_with fail
      obtain ⟨s0, hs0⟩ : ∃ s0, w2.heap.size = s0 := ⟨_, rfl⟩
      obtain ⟨WR, hWR⟩ : ∃ W, ((w2.alloc (.cells #[.slice none 0 0] 26)).alloc (.cells #[.slice a n c] 23)).alloc (.cells #[.int .i64 p] 3) = W := ⟨_, rfl⟩
      have hR0 : WR.heap.size = s0 + 3 := by rw [← hWR, ← hs0]; simp
      have hBR : Below w2.heap.size w2 WR := by rw [← hWR]; exact (((Below.refl _ _).alloc (Nat.le_refl _) _).alloc (by simp) _).alloc (by simp; omega) _
      have oo : WR.heap[s0]? = some (outO (.slice none 0 0)) := by
        rw [← hWR, ← hs0]
        exact (Below.heap_alloc _ _ _ (by simp; omega)).trans ((Below.heap_alloc _ _ _ (by simp)).trans (World.alloc_heap_new w2 _))
      have p1 := World.alloc_heap_new (w2.alloc (.cells #[.slice none 0 0] 26)) (.cells #[.slice a n c] 23)
      have p2 := World.alloc_heap_new ((w2.alloc (.cells #[.slice none 0 0] 26)).alloc (.cells #[.slice a n c] 23)) (.cells #[.int .i64 p] 3)
      simp only [World.size_alloc] at p1 p2
      have c1 : WR.cell? ⟨s0 + 1, 0, none⟩ = some (.slice a n c) := by
        rw [← hWR, ← hs0]
        exact (obj_cell ((Below.heap_alloc _ _ _ (by simp)).trans p1) 0).1
      have c2 : WR.cell? ⟨s0 + 1 + 1, 0, none⟩ = some (.int .i64 p) := by
        rw [← hWR, ← hs0]
        exact (obj_cell p2 0).1
      clear p1 p2
      rw [hWR, hs0]
      have HBW : Hid (Below w.heap.size w WR) := HB1.out.trans (hBR.mono HB1.out.size)
      have OR0 : Hid (WR.heap[w.heap.size]? = some (intO q)) := (hBR.block _ (by omega)).trans O0.out
      have OO := hidOf oo
      have hws : w.heap.size + 1 ≤ s0 := by omega
      have hS := comingStream 6 B a n c l p (s0 + 1) (s0 + 1 + 1) WR (by have := HB1.out.size; omega) hn (HZ.out.belowBt (HBW.out.mono hB)) HLL.out HTT.out (by omega) (by omega) c1 c2
      clear hWR c1 c2 hBR hs0 hsw q0 oo
      have hRN := HRL.out
      refine wpIn_range_st rfl (by omega) (gf := 41) (lb := #[.pointer (some ⟨s0 + 1, 0, none⟩), .pointer (some ⟨s0 + 1 + 1, 0, none⟩)]) rfl trivial (enters_of Try.func41 (by kernel_rfl) rfl) hS (Below.refl _ _) (fun _ => rfl)
        (fun h k W => k ≤ R.length ∧ WR.heap.size ≤ h ∧ h ≤ W.heap.size ∧ Below w.heap.size w W ∧ W.heap[w.heap.size]? = some (intO q) ∧ ∃ v, W.heap[s0]? = some (outO v) ∧ OwnF h W v (R.take k))
        (fun cc h k W => cc = .exit 0 ∧ WR.heap.size ≤ h ∧ h ≤ W.heap.size ∧ Below w.heap.size w W ∧ ∃ v, W.heap[s0]? = some (outO v) ∧ OwnF h W v R)
        (fun h k a' W => k ≤ R.length ∧ WR.heap.size ≤ h ∧ h ≤ W.heap.size ∧ Below w.heap.size w W ∧ W.heap[w.heap.size]? = some (intO q) ∧ (∃ v, W.heap[s0]? = some (outO v) ∧ OwnF h W v (R.take k)) ∧
          ∃ Bx, h ≤ Bx ∧ W.heap[Bx]? = some (fireO (fireP (stP (l.map (pulM p)) k)).1 (fireP (stP (l.map (pulM p)) k)).2) ∧
            a' = { tmps := #[.slice a n c, .int .i64 p, .int .i64 q, undef, undef, .pointer (some ⟨w.heap.size, 0, none⟩), .slice none 0 0, .pointer (some ⟨s0, 0, none⟩), .pointer (some ⟨Bx, 0, none⟩), .slice a n c, .bool true, .bool false, .bool false, .int .i64 p, .int .i64 q, .bool true, .bool false, .bool false, .slice a n c, .int .i64 p,
              .func (Fn.func 41) #[] #[.pointer (some ⟨s0 + 1, 0, none⟩), .pointer (some ⟨s0 + 1 + 1, 0, none⟩)], .agg #[.int .i64 (fireP (stP (l.map (pulM p)) k)).1, .int .i64 (fireP (stP (l.map (pulM p)) k)).2], undef, undef, undef, undef, undef, undef, undef, undef, undef], defers := [] })
        R.length (by omega)
        (fun h k A B' hi ht => by
          obtain ⟨h0, h1, h2, h3, h4, v, h5, h6⟩ := hi
          exact ⟨h0, h1, Nat.le_trans h2 ht.size, h3.trans ((ht.below (by omega)).mono (by omega)), (ht.block _ (by omega) (.inl (by omega))).trans h4, v, (ht.block _ (by omega) (.inl (by omega))).trans h5, own_of_block h6 (fun g hg => ht.block g (World.ownsRow.lt h6 g hg).2 (.inr (World.ownsRow.lt h6 g hg).1))⟩)
        (fun cc h k A B' hi ht => by
          obtain ⟨h0, h1, h2, h3, v, h5, h6⟩ := hi
          exact ⟨h0, h1, Nat.le_trans h2 ht.size, h3.trans ((ht.below (by omega)).mono (by omega)), v, (ht.block _ (by omega) (.inl (by omega))).trans h5, own_of_block h6 (fun g hg => ht.block g (World.ownsRow.lt h6 g hg).2 (.inr (World.ownsRow.lt h6 g hg).1))⟩)
        (fun h k a' A B' hi ht => by
          obtain ⟨h0, h1, h2, h3, h4, ⟨v, h5, h6⟩, Bx, h7, h8, h9⟩ := hi
          exact ⟨h0, h1, Nat.le_trans h2 ht.size, h3.trans ((ht.below (by omega)).mono (by omega)), (ht.block _ (by omega) (.inl (by omega))).trans h4, ⟨v, (ht.block _ (by omega) (.inl (by omega))).trans h5, own_of_block h6 (fun g hg => ht.block g (World.ownsRow.lt h6 g hg).2 (.inr (World.ownsRow.lt h6 g hg).1))⟩, Bx, h7, (ht.block _ (Array.getElem?_eq_some_iff.1 h8).1 (.inr h7)).trans h8, h9⟩)
        (fun h k A hi => hi.2.2.1) (fun h k a' A hi => hi.2.2.1)
        (fun B' hb hs => ⟨Nat.zero_le _, by omega, Nat.le_refl _, HBW.out.trans (hb.mono HBW.out.size), (hb.block _ (by omega)).trans OR0.out, _, (hb.block _ (by omega)).trans OO.out, OwnF.nil _ _⟩)
        ?assign ?body ?done ?stop
      case assign =>
        rintro l' h k W K ⟨h0, h2, h3, h4, h5, v, h6, h7⟩ hK
        have hen : encF (l.map (pulM p)) k = #[.agg #[.int .i64 (fireP (stP (l.map (pulM p)) k)).1, .int .i64 (fireP (stP (l.map (pulM p)) k)).2]] := rfl
        rw [hen]
        have H7 := hidOf h7
        clear h7 hen
        gi_wp2
        refine hK _ _ ((Stay.refl _ _ _).alloc h3 _) ⟨h0, h2, by simp; omega, h4.alloc (by have := h4.size; omega) _, (Below.heap_alloc _ _ _ (by omega)).trans h5, ⟨v, (Below.heap_alloc _ _ _ (by omega)).trans h6, World.ownsRow.alloc H7.out _⟩, W.heap.size, h3, World.alloc_heap_new W _, rfl⟩
      case body =>
        rintro l' h k a' W hnE ⟨h0, h2, h3, h4, h5, ⟨v, h6, h7⟩, Bx, h8, h9, rfl⟩
        obtain ⟨hFA, hFB⟩ := HF.out hnE
        obtain ⟨⟨x0, x1⟩, hx⟩ : ∃ x, fireP (stP (l.map (pulM p)) k) = x := ⟨_, rfl⟩
        rw [hx] at h9 ⊢
        have e0 : W.cell? ⟨Bx, 0, none⟩ = some (.int .i64 x0) := (obj_cell h9 0).1
        have e1 : W.cell? ⟨Bx, 1, none⟩ = some (.int .i64 x1) := (obj_cell h9 1).1
        have q0 : W.cell? ⟨w.heap.size, 0, none⟩ = some (.int .i64 q) := (obj_cell h5 0).1
        have v0 : W.cell? ⟨s0, 0, none⟩ = some v := (obj_cell h6 0).1
        have H4 := hidOf h4
        have H5 := hidOf h5
        have H6 := hidOf h6
        have H7 := hidOf h7
        by_cases hlt : x0 < q
        · have hk : k < R.length := by
            rcases Nat.lt_or_ge k R.length with h | h
            · exact h
            · obtain rfl : k = R.length := by omega
              rw [hx] at hFB
              dsimp only at hFB
              omega
          have hrk : R[k] = (x0, x1) := by rw [← (hFA k hk).1, hx]
          have HTK : Hid (R.take (k + 1) = R.take k ++ [(x0, x1)]) := by
            show _ = _
            rw [List.take_succ_eq_append_getElem hk, hrk]
          have hlk : (R.take k).length = k := by simp; omega
          clear h4 h5 h6 h7 h9 hx hFA hFB hrk
          obtain ⟨L, hL⟩ : ∃ L, R.take k = L := ⟨_, rfl⟩
          rw [hL] at H7 HTK hlk
          clear hL
          have hll : L.length ≤ 200 := by omega
          gi_wp2_with (gi_at_builtin; refine wpListIn_append_own _ rfl _ _ 26 rfl h 32 i0 (.agg #[.int .i64 0, .int .i64 0]) 2 16 Try.underlying26 hi hz0 hz1 hz2 rfl (by decide) _ L.length (fireCells L) rfl (World.ownsRow.alloc H7.out _) ⟨W.heap.size, 0, none⟩ 1 1 [.int .i64 x0, .int .i64 x1] rfl rfl (by exact two_new _ _ _ _) (by intro u hu; simp at hu; rcases hu with rfl | rfl <;> rfl) (by unfold maxLen; omega) (by omega) (by simp; omega) ?_; intro v' w1 hown' hgrow _; obtain ⟨g', cap', rfl⟩ := ownsRow_succ hown'; obtain ⟨hk1, hk2⟩ := grown_lower H7.out h3 hgrow; have hc1 := (World.cell?_of_block (hk2 s0 (by omega) (by omega))).trans v0; have hf1 := (World.frozen?_of_block (hk2 s0 (by omega) (by omega))).trans (obj_cell H6.out 0).2)
          have hO : OwnF h (w1.setCell ⟨s0, 0, none⟩ (.slice (some ⟨g', 0, none⟩) (k + 1) cap')) (.slice (some ⟨g', 0, none⟩) (k + 1) cap') (L ++ [(x0, x1)]) := by
            have h12 : OwnF h w1 (.slice (some ⟨g', 0, none⟩) (k + 1) cap') (L ++ [(x0, x1)]) := by
              show World.ownsRow _ _ _ _ _ _ _
              rw [List.length_append, fireCells_app]
              rw [← hlk]
              exact hown'
            exact own_of_block h12 (fun g hg => Below.heap_setCell _ _ _ _ (by have := (World.ownsRow.lt h12 g hg).1; show g ≠ s0; omega))
          have hoo : (w1.setCell ⟨s0, 0, none⟩ (.slice (some ⟨g', 0, none⟩) (k + 1) cap')).heap[s0]? = some (outO (.slice (some ⟨g', 0, none⟩) (k + 1) cap')) := by
            have h13 : w1.heap[s0]? = some (outO v) := (hk2 s0 (by omega) (by omega)).trans H6.out
            obtain ⟨hlt2, hk3⟩ := Array.getElem?_eq_some_iff.1 h13
            show (w1.heap.modify s0 _)[s0]? = _
            rw [Array.getElem?_eq_getElem (by rw [Array.size_modify]; exact hlt2), Array.getElem_modify_self, hk3]
            rfl
          refine ⟨⟨by simp [World.setCell]; omega, fun j hj1 hj2 => (Below.heap_setCell _ _ _ _ (by show j ≠ s0; omega)).trans (hk2 j (by omega) hj2)⟩, by omega, by omega, h2, by simp [World.setCell]; omega, ?_, (Below.heap_setCell _ _ _ _ (by show w.heap.size ≠ s0; omega)).trans ((hk2 _ (by omega) (by omega)).trans H5.out), _, hoo, by rw [HTK.out]; exact hO⟩
          exact Below.setCell (p := ⟨s0, 0, none⟩) ((H4.out.alloc (by have := H4.out.size; omega) _).grown hgrow (by have := H4.out.size; simp; omega) (fun g hg => by have := (World.ownsRow.lt H7.out g hg).1; omega)) (by show w.heap.size ≤ s0; omega) _
        · have hk : k = R.length := by
            rcases Nat.lt_or_ge k R.length with h | h
            · have h10 := hFA k h
              rw [hx] at h10
              have h11 := h10.2
              rw [← h10.1] at h11
              exact absurd h11 hlt
            · omega
          have H7' : Hid (OwnF h W v R) := by
            have := H7.out
            rw [List.take_of_length_le (by omega)] at this
            exact this
          have hge : q ≤ x0 := by omega
          clear h4 h5 h6 h7 h9 hx hFA hFB
          gi_wp2_with fail
          exact ⟨Stay.refl _ _ _, rfl, by omega, h3, H4.out, v, H6.out, H7'.out⟩
      case done =>
        rintro D h W hD1 hD2 hE ⟨_, h2, h3, h4, h5, v, h6, h7⟩ hK
        have v0 : W.cell? ⟨s0, 0, none⟩ = some v := (obj_cell h6 0).1
        have H4 := hidOf h4
        have H7 := hidOf h7
        have HKD := hidOf hK
        clear h5 h6 h4 hK h7
        gi_wp2
        refine ⟨by simp, .inl ⟨_, _, rfl, run_takeDeferred HKD.out, ?_⟩⟩
        refine ⟨_, by simp [results, Try.results10, go_sem]; try rfl, v, rfl, ?_, below_obj _ H4.out (by omega)⟩
        have := HE.out hE
        subst this
        have h14 : OwnF h W v [] := H7.out
        have h15 := h14.2
        exact ⟨rfl, h15.imp id (fun ⟨g, cap, cur, e1, e2, e3, e4⟩ => ⟨g, cap, cur, e1, by omega, (World.putObj_heap_other (by omega)).trans e3, e4⟩)⟩
      case stop =>
        rintro D h k cc W hD1 hD2 ⟨rfl, h2, h3, h4, v, h6, h7⟩ hK
        have v0 : W.cell? ⟨s0, 0, none⟩ = some v := (obj_cell h6 0).1
        have H4 := hidOf h4
        have H7 := hidOf h7
        have HKD := hidOf hK
        clear h6 h4 hK h7
        gi_wp2
        refine ⟨by simp, .inl ⟨_, _, rfl, run_takeDeferred HKD.out, ?_⟩⟩
        refine ⟨_, by simp [results, Try.results10, go_sem]; try rfl, v, rfl, ?_, below_obj _ H4.out (by omega)⟩
        exact ⟨H7.out.1, H7.out.2.imp id (fun ⟨g, cap, cur, e1, e2, e3, e4⟩ => ⟨g, cap, cur, e1, by omega, (World.putObj_heap_other (by omega)).trans e3, e4⟩)⟩
end Go.Proofs.Ytlpdilmdhfemdaa
