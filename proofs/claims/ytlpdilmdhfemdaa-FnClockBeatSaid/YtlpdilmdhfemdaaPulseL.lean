/- The pulses of beats: a row of one's own, each pulse in a block of its own. -/
import Derived.Test.YtlpdilmdhfemdaaPulseOf
import Derived.Test.YtlpdilmdhfemdaaOwnRow
namespace Go.Proofs.Ytlpdilmdhfemdaa
open Go Go.RowKit Go.PlainAid
set_option linter.unusedSimpArgs false
set_option linter.unusedVariables false

def ptrV (b : Nat) : Value := .pointer (some ⟨b, 0, none⟩)
structure Puls (lo : Nat) (W : World) (v : Value) (bs : List Nat) (ps : List Pu) : Prop where
  len : bs.length = ps.length
  row : W.ownsRow lo 72 1 v bs.length (bs.map ptrV)
  each : ∀ i, (h : i < bs.length) → (h' : i < ps.length) → lo ≤ bs[i] ∧ PulAt W bs[i] ps[i]
  up : bs.Pairwise (· < ·)
theorem Puls.keep {lo : Nat} {W W' : World} {v : Value} {bs : List Nat} {ps : List Pu} (h : Puls lo W v bs ps) (hb : Below W.heap.size W W') : Puls lo W' v bs ps :=
  ⟨h.len, own_of_block h.row (fun q hq => hb.block q (World.ownsRow.lt h.row q hq).2), fun i hi hi' => ⟨(h.each i hi hi').1, (h.each i hi hi').2.below hb⟩, h.up⟩
/-- what lies in its blocks alone is asked -/
theorem Puls.of_block {lo : Nat} {W W' : World} {v : Value} {bs : List Nat} {ps : List Pu} (h : Puls lo W v bs ps) (hb : ∀ k, k < W.heap.size → lo ≤ k → W'.heap[k]? = W.heap[k]?) : Puls lo W' v bs ps :=
  ⟨h.len, own_of_block h.row (fun q hq => hb q (World.ownsRow.lt h.row q hq).2 (World.ownsRow.lt h.row q hq).1), fun i hi hi' => ⟨(h.each i hi hi').1, (h.each i hi hi').2.of (hb _ (h.each i hi hi').2.lt (h.each i hi hi').1)⟩, h.up⟩
/-- a pulse's block is not the row's -/
theorem pul_ne_row {lo : Nat} {W : World} {v : Value} {n : Nat} {xs : List Value} {b : Nat} {x : Pu} (hr : W.ownsRow lo 72 1 v n xs) (hp : PulAt W b x) : some b ≠ v.ownBlock := by
  intro e
  rcases hr.2 with ⟨rfl, _⟩ | ⟨g, cap, cur, rfl, _, hg, _⟩
  · simp [Value.ownBlock] at e
  · have : b = g := by simpa [Value.ownBlock] using e
    subst this
    have := hp.symm.trans hg
    simp at this

theorem born_any (q : Nat) (t : Int) (x : Bt) (w : World) (hx : btB x = true) (ht : 0 ≤ t ∧ t ≤ 9999) (hq : q < w.heap.size) (hc : w.cell? ⟨q, 0, none⟩ = some (.int .i64 t)) :
    Calls Try.prog 43 #[.agg #[.int .i64 x.1, .int .i64 x.2.1, .int .i64 x.2.2], .pointer (some ⟨q, 0, none⟩)] w fun e w' => ∃ b, e = .returned (.pointer (some ⟨b, 0, none⟩)) ∧ w.heap.size ≤ b ∧ PulAt w' b (pulM t x) ∧ Below w.heap.size w w' := by
  have HC := hidOf (fun W => pulseOf_any t x W hx ht)
  go_enter Try.func43, Try.ntmps43
  go_wp2_with fail
  refine (HC.out _).mono ?_
  rintro e w1 ⟨b, rfl, hb, hp, hbl⟩
  have HP := hidOf hp
  have HB := hidOf (below_boxed hbl)
  have hb' : w.heap.size ≤ b := by simp at hb; omega
  clear hp hbl hb
  go_wp2_with fail
  go_ret
  exact ⟨b, rfl, hb', HP.out, HB.out⟩

theorem infoPp : (Try.prog.info? 72).map (fun i => (i.zero, i.size, i.bytes)) = some (some (.pointer none), 1, 8) := by kernel_rfl
set_option maxHeartbeats 1600000 in
set_option maxRecDepth 100000 in
theorem listOfPulse_any (B : Nat) (a : Option Addr) (n c : Nat) (l : List Bt) (q : Nat) (t : Int) (w : World) (hB : B ≤ w.heap.size) (hn : n ≤ 1048576) (hz : IsBts B w a n l) (hl : ∀ x ∈ l, btB x = true) (ht : 0 ≤ t ∧ t ≤ 9999) (hq : q < w.heap.size) (hc : w.cell? ⟨q, 0, none⟩ = some (.int .i64 t)) :
    Calls Try.prog 42 #[.slice a n c, .func (Fn.func 43) #[] #[.pointer (some ⟨q, 0, none⟩)]] w fun e w' => ∃ v bs, e = .returned v ∧ Puls w.heap.size w' v bs (l.map (pulM t)) ∧ Below w.heap.size w w' := by
  obtain ⟨i0, hi, hz0, hz1, hz2⟩ := info_parts infoPp
  have hlen := hz.1
  have HZ := hidOf hz
  have HL := hidOf hl
  have HC := hidOf hc
  clear hz hl hc
  go_enter Try.func42, Try.ntmps42
  go_wp2_with fail
  go_loopw [5, 10] (fun u i wr => ∃ (k : Nat) (bs : List Nat), k ≤ n ∧ i = .int .i64 k ∧ Hid (Puls w.heap.size wr u bs ((l.take k).map (pulM t))) ∧ Below w.heap.size w wr) (fun _ i _ => n - (intOf i).toNat)
  case atStart => exact ⟨0, [], Nat.zero_le _, rfl, ⟨rfl, ⟨rfl, .inl ⟨rfl, rfl⟩⟩, fun i hi => by simp at hi, List.Pairwise.nil⟩, Below.refl _ _⟩
  case round =>
    obtain ⟨k, bs, hk, rfl, HK, hbel⟩ := hrel
    by_cases hlt : k < n
    · obtain ⟨b, off, rfl, hb, q0, q1, q2⟩ := bts_at HZ.out hlt (show k < l.length by omega)
      have hws := hbel.size
      have hbr : b < wr.heap.size := by omega
      have c0 := (hbel.cell (p := ⟨b, off + k * 3, none⟩) (Nat.lt_of_lt_of_le hb hB)).trans q0
      have c1 := (hbel.cell (p := ⟨b, off + k * 3 + 1, none⟩) (Nat.lt_of_lt_of_le hb hB)).trans q1
      have c2 := (hbel.cell (p := ⟨b, off + k * 3 + 2, none⟩) (Nat.lt_of_lt_of_le hb hB)).trans q2
      clear q0 q1 q2
      have hT : (l.take (k + 1)).map (pulM t) = (l.take k).map (pulM t) ++ [pulM t (l[k]'(by omega))] := by rw [List.take_succ_eq_append_getElem (by omega), List.map_append]; rfl
      have hml : bs.length = k := by have := HK.out.len; simp at this; omega
      have hmem : btB (l[k]'(by omega)) = true := HL.out _ (List.getElem_mem _)
      obtain ⟨⟨x0, x1, x2⟩, hx⟩ : ∃ x, l[k]'(by omega) = x := ⟨_, rfl⟩
      rw [hx] at c0 c1 c2 hT hmem
      dsimp only at c0 c1 c2
      have HT := hidOf hT
      have HCL : Hid (∀ W, Below wr.heap.size wr W → Calls Try.prog 43 #[.agg #[.int .i64 x0, .int .i64 x1, .int .i64 x2], .pointer (some ⟨q, 0, none⟩)] W fun e w' => ∃ b, e = .returned (.pointer (some ⟨b, 0, none⟩)) ∧ W.heap.size ≤ b ∧ PulAt w' b (pulM t (x0, x1, x2)) ∧ Below W.heap.size W w') := fun W hW => born_any q t (x0, x1, x2) W hmem ht (by have := hW.size; omega) ((hW.cell (p := ⟨q, 0, none⟩) (by show q < wr.heap.size; omega)).trans ((hbel.cell (p := ⟨q, 0, none⟩) hq).trans HC.out))
      have HOW := hidOf HK.out.row
      clear hT hx hmem
      go_wp2_with fail
      refine (HCL.out _ (by go_grown)).mono ?_
      rintro e w1 ⟨pb, rfl, hpb, hpp, hb1⟩
      have hB1 : Below wr.heap.size wr w1 := ((Below.refl _ _).alloc (Nat.le_refl _) _).trans (hb1.mono (by simp))
      have HBW : Hid (Below w.heap.size w w1) := hbel.trans (hB1.mono hws)
      have HK1 := hidOf (HK.out.keep hB1)
      have HPP := hidOf hpp
      have hpb' : wr.heap.size ≤ pb := by simp at hpb; omega
      have hs1 := hB1.size
      have hplt := hpp.lt
      clear hb1 hB1 hpp hpb
      go_wp2_with (at_builtin; (refine wpList_append_own _ rfl (.tmp 14) (.tmp 18) 70 rfl w.heap.size 72 i0 (.pointer none) 1 8 Try.underlying70 hi hz0 hz1 hz2 rfl (by decide) _ bs.length (bs.map ptrV) rfl (by exact (HK1.out.row.alloc _)) ⟨w1.heap.size, 0, none⟩ 1 1 [ptrV pb] rfl rfl (by exact one_new _ _ _) (by intro u hu; simp at hu; subst hu; rfl) (by unfold maxLen; omega) (by omega) (by simp; omega) ?_))
      intro v' w2 hown' hgrow' _
      have HB2 : Hid (Below w.heap.size w w2) := (HBW.out.alloc (by omega) _).grown hgrow' (by simp; omega) (fun q hq => (World.ownsRow.lt HK1.out.row q hq).1)
      have hkeep : ∀ (b : Nat) (x : Pu), PulAt w1 b x → PulAt w2 b x := fun b x hp => by
        have hp2 : PulAt (w1.alloc (.cells #[ptrV pb] 72)) b x := hp.below ((Below.refl _ _).alloc (Nat.le_refl _) _)
        exact hp2.of (hgrow'.block b hp2.lt (pul_ne_row (HK1.out.row.alloc _) hp2))
      have HP2 : Hid (Puls w.heap.size w2 v' (bs ++ [pb]) ((l.take k).map (pulM t) ++ [pulM t (x0, x1, x2)])) := by
        refine ⟨by simp [HK1.out.len], by simpa [hml] using hown', fun i hi hi' => ?_, List.pairwise_append.2 ⟨HK1.out.up, List.pairwise_singleton _ _, fun x hx y hy => ?_⟩⟩
        · by_cases hil : i < bs.length
          · have hil' : i < ((l.take k).map (pulM t)).length := by rw [← HK1.out.len]; exact hil
            have := HK1.out.each i hil hil'
            rw [List.getElem_append_left hil, List.getElem_append_left hil']
            exact ⟨this.1, hkeep _ _ this.2⟩
          · have hie : i = bs.length := by simp at hi; omega
            subst hie
            rw [List.getElem_append_right (Nat.le_refl _), List.getElem_append_right (by rw [HK1.out.len]; exact Nat.le_refl _)]
            simp only [HK1.out.len, Nat.sub_self, List.getElem_cons_zero]
            exact ⟨by omega, hkeep _ _ HPP.out⟩
        · simp at hy
          subst hy
          obtain ⟨i, hi, rfl⟩ := List.mem_iff_getElem.1 hx
          have := (HK.out.each i hi (by rw [← HK.out.len]; exact hi)).2.lt
          omega
      clear hown' hgrow' hkeep
      go_wp2_with fail
      go_roundw
      case rel => exact ⟨k + 1, bs ++ [pb], by omega, by go_num, by show Puls _ _ _ _ _; rw [HT.out]; exact HP2.out, HB2.out⟩
      case measure => simp [intOf]; omega
    · have : k = n := by omega
      subst this
      go_wp2_with fail
      go_ret
      refine ⟨_, bs, rfl, ?_, hbel⟩
      have := HK.out
      rw [List.take_of_length_le (by omega)] at this
      exact this
end Go.Proofs.Ytlpdilmdhfemdaa
