/- The law's marks in lists of events of one's own, and that they are held. -/
import Derived.Test.YtjmgfpldjccilaaGreatDoorRowsO
namespace Go.Proofs.YtjmgfpldjccilaaGreatDoor
open Go Go.RowKit Go.PlainAid
set_option linter.unusedSimpArgs false
set_option linter.unusedVariables false

def markN (l : List Ev) : Nat := (l.map (fun x => 3 + x.2.2.2.length)).sum
theorem markN_take {l : List Ev} {k : Nat} (h : k < l.length) : markN (l.take (k + 1)) = markN (l.take k) + (3 + (l[k]).2.2.2.length) := by
  unfold markN
  rw [List.take_succ_eq_append_getElem h, List.map_append, List.sum_append]; simp
theorem markN_le {l : List Ev} (h : ∀ x ∈ l, x.2.2.2.length ≤ 3) : markN l ≤ 6 * l.length := by
  induction l with
  | nil => simp [markN]
  | cons x l ih =>
    have h1 := h x (by simp)
    have h2 := ih (fun y hy => h y (by simp [hy]))
    unfold markN at h2 ⊢
    simp; omega
theorem HeldI.moved {k : Int} {w w' : World} {a : Option Addr} {n : Nat} (h : HeldI k w a n) (hs : w.heap.size ≤ w'.heap.size) (hb : ∀ b, a = some ⟨b, 0, none⟩ → n ≠ 0 → w'.heap[b]? = w.heap[b]?) : HeldI k w' a n := by
  by_cases h0 : n = 0
  · exact .inl h0
  rcases h with h | ⟨b, e, hlt, hc⟩
  · exact .inl h
  · exact .inr ⟨b, e, by omega, fun i hi => (World.cell?_of_block (a := ⟨b, i, none⟩) (hb b e h0)).trans (hc i hi)⟩
theorem FreeR.free {M B : Nat} {w : World} {a : Option Addr} {l : List Int} (h : FreeR M B w a l) : FreeI M w a l.length l ∧ ∀ b o, a = some ⟨b, o, none⟩ → l.length ≠ 0 → b < B := by
  rcases h with h | ⟨b, rfl, h1, h2, h3, h4⟩
  · exact ⟨⟨⟨rfl, .inl h⟩, .inl h⟩, fun _ _ _ h0 => absurd h h0⟩
  · exact ⟨⟨⟨rfl, .inr ⟨b, 0, rfl, h3.1, fun i hi => by rw [Nat.zero_add]; exact h4 i hi⟩⟩, .inr ⟨b, rfl, h1, h3⟩⟩, fun b' o e _ => by cases e; exact h2⟩
/-- the first i of them bear their marks -/
structure MkEv (g : Nat) (l : List Ev) (sa : Nat → Option Addr) (sc : Nat → Nat) (f : Nat → Nat × Nat) (k0 : Int) (i : Nat) (w : World) : Prop where
  row : Open g (l.length * 4) w
  slot : ∀ j, (h : j < l.length) → w.cell? ⟨g, j * 4 + 1 + 1 + 1, none⟩ = some (.slice (sa j) (l[j]).2.2.2.length (sc j))
  done : ∀ j, (h : j < l.length) → j < i → w.cell? ⟨g, j * 4, none⟩ = some (.int .i64 (k0 + markN (l.take j))) ∧ w.cell? ⟨g, j * 4 + 1, none⟩ = some (.int .i64 (k0 + markN (l.take j) + 1)) ∧ w.cell? ⟨g, j * 4 + 1 + 1, none⟩ = some (.int .i64 (k0 + markN (l.take j) + 1 + 1)) ∧ HeldI (k0 + markN (l.take j) + 1 + 1 + 1) w (sa j) (l[j]).2.2.2.length
  rest : ∀ j, (h : j < l.length) → i ≤ j → FreeR (f j).1 (f j).2 w (sa j) (l[j]).2.2.2
/-- where the parts lie -/
structure EvLoc (g M B : Nat) (l : List Ev) (sa : Nat → Option Addr) (f : Nat → Nat × Nat) : Prop where
  loc : ∀ j, (h : j < l.length) → ∀ b o, sa j = some ⟨b, o, none⟩ → (l[j]).2.2.2.length ≠ 0 → (f j).1 ≤ b ∧ b < (f j).2
  away : ∀ j, j < l.length → g < (f j).1 ∨ (f j).2 ≤ g
  rng : ∀ j, j < l.length → M ≤ (f j).1 ∧ (f j).2 ≤ B
  low : M ≤ g
  ord : ∀ i j, i < j → j < l.length → (f i).2 ≤ (f j).1

set_option maxHeartbeats 3200000 in
set_option maxRecDepth 100000 in
theorem markEventS_any (g M B n c : Nat) (l : List Ev) (sa : Nat → Option Addr) (sc : Nat → Nat) (f : Nat → Nat × Nat) (k0 : Int) (w : World) (hl : l.length = n) (h80 : n ≤ 80) (h3 : ∀ x ∈ l, x.2.2.2.length ≤ 3) (h0 : 0 < k0) (h1 : k0 ≤ 1000) (hL : EvLoc g M B l sa f) (hB : B ≤ w.heap.size) (hM : M ≤ w.heap.size) (h : MkEv g l sa sc f k0 0 w) :
    Calls Tryz.prog 21 #[.slice (some ⟨g, 0, none⟩) n c, .int .i64 k0] w fun e w' => e = .returned (.int .i64 (k0 + markN l)) ∧ MkEv g l sa sc f k0 n w' ∧ Below M w w' := by
  have HM := hidOf h
  have HL := hidOf hL
  have H3 := hidOf h3
  clear h hL h3
  go_enter Tryz.func21, Tryz.ntmps21
  go_wp2_with fail
  go_loopw [1, 5] (fun q i wr => ∃ k : Nat, k ≤ n ∧ i = .int .i64 k ∧ q = .int .i64 (k0 + markN (l.take k)) ∧ Hid (MkEv g l sa sc f k0 k wr) ∧ w.heap.size ≤ wr.heap.size ∧ Hid (Below M w wr)) (fun _ i _ => n - (intOf i).toNat)
  case atStart => exact ⟨0, Nat.zero_le _, rfl, by simp [markN], HM.out, Nat.le_refl _, Below.refl _ _⟩
  case round =>
    obtain ⟨k, hk, rfl, rfl, HK, hsz, HB⟩ := hrel
    have hmk : markN (l.take k) ≤ 6 * 80 := by
      have := markN_le (l := l.take k) (fun x hx => H3.out x (List.mem_of_mem_take hx))
      rw [List.length_take] at this; omega
    by_cases hlt : k < n
    · have hkl : k < l.length := by omega
      have hx3 := H3.out (l[k]'hkl) (List.getElem_mem _)
      have hmt := markN_take hkl
      have hsl := HK.out.slot k hkl
      have hfr := HK.out.rest k hkl (Nat.le_refl _)
      obtain ⟨x, hx⟩ : ∃ x, l[k]'hkl = x := ⟨_, rfl⟩
      rw [hx] at hx3 hmt hsl hfr
      obtain ⟨r, hr⟩ : ∃ r, k0 + (markN (l.take k) : Int) = r := ⟨_, rfl⟩
      rw [hr]
      have hr0 : 0 < r ∧ r ≤ 2000 := by omega
      have p1 : IntKind.i64.wrap (r + 1) = r + 1 := IntWalk.i64_in _ ⟨by omega, by omega⟩
      have p2 : IntKind.i64.wrap (r + 1 + 1) = r + 1 + 1 := IntWalk.i64_in _ ⟨by omega, by omega⟩
      have p3 : IntKind.i64.wrap (r + 1 + 1 + 1) = r + 1 + 1 + 1 := IntWalk.i64_in _ ⟨by omega, by omega⟩
      obtain ⟨⟨v0, o0⟩, f0⟩ := HK.out.row.2 (k * 4) (by omega)
      obtain ⟨⟨v1, o1⟩, f1⟩ := HK.out.row.2 (k * 4 + 1) (by omega)
      obtain ⟨⟨v2, o2⟩, f2⟩ := HK.out.row.2 (k * 4 + 1 + 1) (by omega)
      have hgw := HK.out.row.1
      have s1 : (wr.setCell ⟨g, k * 4, none⟩ (.int .i64 r)).cell? ⟨g, k * 4 + 1, none⟩ = some v1 := by rw [setCell_ne _ _ _ _ _ (by omega)]; exact o1
      have s2 : ((wr.setCell ⟨g, k * 4, none⟩ (.int .i64 r)).setCell ⟨g, k * 4 + 1, none⟩ (.int .i64 (r + 1))).cell? ⟨g, k * 4 + 1 + 1, none⟩ = some v2 := by rw [setCell_ne _ _ _ _ _ (by omega), setCell_ne _ _ _ _ _ (by omega)]; exact o2
      obtain ⟨W1, hW1⟩ : ∃ W1, (((wr.setCell ⟨g, k * 4, none⟩ (.int .i64 r)).setCell ⟨g, k * 4 + 1, none⟩ (.int .i64 (r + 1))).setCell ⟨g, k * 4 + 1 + 1, none⟩ (.int .i64 (r + 1 + 1))) = W1 := ⟨_, rfl⟩
      have hm1 : Mv g wr W1 := by rw [← hW1]; exact (((Mv.refl g wr).cell _ _).cell _ _).cell _ _
      have hs1 : W1.heap.size = wr.heap.size := by rw [← hW1]; simp [World.setCell]
      have t0 : W1.cell? ⟨g, k * 4, none⟩ = some (.int .i64 r) := by rw [← hW1, setCell_ne _ _ _ _ _ (by omega), setCell_ne _ _ _ _ _ (by omega)]; exact World.cell?_setCell_same _ _ _ o0
      have t1 : W1.cell? ⟨g, k * 4 + 1, none⟩ = some (.int .i64 (r + 1)) := by rw [← hW1, setCell_ne _ _ _ _ _ (by omega)]; exact World.cell?_setCell_same _ _ _ s1
      have t2 : W1.cell? ⟨g, k * 4 + 1 + 1, none⟩ = some (.int .i64 (r + 1 + 1)) := by rw [← hW1]; exact World.cell?_setCell_same _ _ _ s2
      have oth : ∀ j, (j < k * 4 ∨ k * 4 + 1 + 1 < j) → W1.cell? ⟨g, j, none⟩ = wr.cell? ⟨g, j, none⟩ := fun j hj => by rw [← hW1, setCell_ne _ _ _ _ _ (by omega), setCell_ne _ _ _ _ _ (by omega), setCell_ne _ _ _ _ _ (by omega)]
      have t3 : (((wr.setCell ⟨g, k * 4, none⟩ (.int .i64 r)).setCell ⟨g, k * 4 + 1, none⟩ (.int .i64 (r + 1))).setCell ⟨g, k * 4 + 1 + 1, none⟩ (.int .i64 (r + 1 + 1))).cell? ⟨g, k * 4 + 1 + 1 + 1, none⟩ = some (.slice (sa k) x.2.2.2.length (sc k)) := by rw [hW1, oth _ (by omega)]; exact hsl
      have op1 : Open g (l.length * 4) W1 := by
        rw [← hW1]
        exact ((HK.out.row.set (k * 4) _ (by omega)).set (k * 4 + 1) _ (by omega)).set (k * 4 + 1 + 1) _ (by omega)
      have aw := HL.out.away
      have rg := HL.out.rng
      have frs : ∀ j, (hj : j < l.length) → k ≤ j → FreeR (f j).1 (f j).2 W1 (sa j) (l[j]).2.2.2 := fun j hj hkj => (HK.out.rest j hj hkj).stays (fun b k1 k2 => hm1.block b (by have := (rg j hj).2; omega) (fun e => by have := aw j hj; omega)) (by have := (rg j hj).2; omega)
      have hfx := frs k hkl (Nat.le_refl _)
      rw [hx] at hfx
      have HMK := hidOf (markIntS_rng (f k).1 (f k).2 (sa k) x.2.2.2.length (sc k) x.2.2.2 (r + 1 + 1 + 1) W1 hfx.free.1 hfx.free.2 (by omega) (by omega) (by omega))
      have HEND : Hid (∀ w2, HeldI (r + 1 + 1 + 1) w2 (sa k) x.2.2.2.length → MvR (f k).1 (f k).2 W1 w2 → MkEv g l sa sc f k0 (k + 1) w2 ∧ w.heap.size ≤ w2.heap.size ∧ Below M w w2) := by
        intro w2 hh hm2
        have hs2 := hm2.size
        have gb : w2.heap[g]? = W1.heap[g]? := hm2.block g (by omega) (by have := aw k hkl; omega)
        have gc : ∀ j, w2.cell? ⟨g, j, none⟩ = W1.cell? ⟨g, j, none⟩ := fun j => World.cell?_of_block (a := ⟨g, j, none⟩) gb
        refine ⟨⟨op1.mvR hm2 (by have := aw k hkl; omega), fun j hj => ?_, fun j hj hjk => ?_, fun j hj hkj => ?_⟩, by omega, ?_⟩
        · rw [gc, oth _ (by omega)]; exact HK.out.slot j hj
        · by_cases hjk' : j < k
          · obtain ⟨d0, d1, d2, d3⟩ := HK.out.done j hj hjk'
            rw [gc, gc, gc, oth _ (by omega), oth _ (by omega), oth _ (by omega)]
            refine ⟨d0, d1, d2, d3.moved (by omega) (fun b e hn => ?_)⟩
            have hb := HL.out.loc j hj b 0 e hn
            have ho := HL.out.ord j k hjk' hkl
            have := (rg j hj).2
            exact (hm2.block b (by omega) (by omega)).trans (hm1.block b (by omega) (fun e => by have := aw j hj; omega))
          · have : j = k := by omega
            subst this
            rw [gc, gc, gc, hr, hx]
            exact ⟨t0, t1, t2, hh⟩
        · have ho := HL.out.ord k j (by omega) hj
          exact (frs j hj (by omega)).stays (fun b k1 k2 => hm2.block b (by have := (rg j hj).2; omega) (by omega)) (by have := (rg j hj).2; omega)
        · have hb := HB.out
          have hr := (rg k hkl).1
          have hlow := HL.out.low
          exact ⟨hm2.os.trans (hm1.os.trans hb.os), hm2.tape.trans (hm1.tape.trans hb.tape), hm2.output.trans (hm1.output.trans hb.output), by omega, fun q hq => (hm2.block q (by omega) (by omega)).trans ((hm1.block q (by omega) (by omega)).trans (hb.block q hq))⟩
      have HMT : Hid (k0 + (markN (l.take (k + 1)) : Int) = r + 1 + 1 + 1 + (x.2.2.2.length : Int)) := by show _ = _; rw [hmt]; push_cast; omega
      have HW1 := hidOf hW1
      clear hm1 hs1 t0 t1 t2 oth op1 frs hfx hfr hmt hx hr hW1 hsl aw rg
      go_wp2_with fail
      rw [HW1.out]
      refine HMK.out.mono ?_
      rintro e w2 ⟨rfl, hh, hm2⟩
      have HE := hidOf (HEND.out w2 hh hm2)
      clear hh hm2
      go_wp2_with fail
      go_roundw
      case rel => exact ⟨k + 1, by omega, by go_num, by rw [HMT.out], HE.out.1, HE.out.2.1, HE.out.2.2⟩
      case measure => simp [intOf]; omega
    · have : k = n := by omega
      subst this
      rw [List.take_of_length_le (by omega)]
      go_wp2_with fail
      go_ret
      exact ⟨rfl, HK.out, HB.out⟩
end Go.Proofs.YtjmgfpldjccilaaGreatDoor
