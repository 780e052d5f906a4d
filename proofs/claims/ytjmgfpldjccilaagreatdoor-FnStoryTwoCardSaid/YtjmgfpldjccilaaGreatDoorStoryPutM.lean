/- The model's StoryPut. -/
import Derived.Test.YtjmgfpldjccilaaGreatDoorStoryPutI
import Derived.Test.YtjmgfpldjccilaaGreatDoorEvPutM
namespace Go.Proofs.YtjmgfpldjccilaaGreatDoor
open Go Go.RowKit Go.PlainAid
set_option linter.unusedSimpArgs false
set_option linter.unusedVariables false

theorem storyT_snoc (l : List Ev) (x : Ev) : storyT (l ++ [x]) = storyT l ++ evT x ++ [10] := by unfold storyT; rw [List.map_append]; exact linesT_snoc _ _
theorem storyT_len {l : List Ev} (h : ∀ x ∈ l, okE x = true) : (storyT l).length ≤ 81 * l.length := by
  have := linesT_len (l := l.map evT) (fun y hy => by obtain ⟨x, hx, rfl⟩ := List.mem_map.1 hy; exact evT_len (okE_iff.1 (h x hx)))
  rw [List.length_map] at this
  exact this

set_option maxHeartbeats 3200000 in
set_option maxRecDepth 100000 in
theorem specStoryPut_any (B : Nat) (a : Option Addr) (n c : Nat) (l : List Ev) (w : World) (hB : B ≤ w.heap.size) (hn : n ≤ 1048576) (hf : ∀ x ∈ l, FewEv x) (hz : IsEvs B w a n l) :
    Calls Tryz.prog 15 #[.slice a n c] w fun e w' => e = .returned (.string (bt8 (putS l))) ∧ Below w.heap.size w w' := by
  have hlen := hz.1
  have HZ := hidOf hz
  have HFW := hidOf hf
  obtain ⟨P, hP⟩ : ∃ P, bt8 (putS l) = P := ⟨_, rfl⟩
  have HP := hidOf hP
  rw [hP]
  clear hz hf hP
  go_enter Tryz.func15, Tryz.ntmps15
  go_wp2_with fail
  go_loopw [3, 4] (fun v i wr => ∃ (k : Nat) (s : ByteArray), k ≤ n ∧ k ≤ 80 ∧ i = .int .i64 k ∧ v = .string s ∧ s.size ≤ 81 * k ∧ Hid (s = bt8 (storyT (l.take k)) ∧ ∀ x ∈ l.take k, okE x = true) ∧ Below w.heap.size w wr) (fun _ i _ => n - (intOf i).toNat)
  case atStart => exact ⟨0, ⟨#[]⟩, Nat.zero_le _, Nat.zero_le _, rfl, rfl, by decide, ⟨rfl, fun x hx => by simp at hx⟩, Below.refl _ _⟩
  case round =>
    obtain ⟨k, s, hk, hk80, rfl, rfl, hsz, HK, hbel⟩ := hrel
    by_cases hlt : k < n
    · obtain ⟨b, off, cs, rfl, hb, hq, hcell⟩ := IsArr.at (HZ.out.below (QEv.lift (hbel.mono hB)) (hbel.mono hB)) hlt (show k < l.length by omega)
      have hws := hbel.size
      have hbr : b < wr.heap.size := by omega
      have hbB : B ≤ wr.heap.size := by omega
      have hfx := HFW.out (l[k]'(by omega)) (List.getElem_mem _)
      have hmem : l[k]'(by omega) ∈ l := List.getElem_mem _
      have ht : l.take (k + 1) = l.take k ++ [l[k]'(by omega)] := List.take_succ_eq_append_getElem (by omega)
      obtain ⟨x, hx⟩ : ∃ x, l[k]'(by omega) = x := ⟨_, rfl⟩
      rw [hx] at hq ht hfx hmem
      unfold FewEv at hfx
      obtain ⟨pa, pn, pc, rfl, hp1, hp2, hp3⟩ := hq
      have HP3 := hidOf hp3
      have c0 : wr.cell? ⟨b, off + k * 4, none⟩ = some (.int .i64 x.1) := hcell 0 _ rfl
      have c1 : wr.cell? ⟨b, off + k * 4 + 1, none⟩ = some (.int .i64 x.2.1) := hcell 1 _ rfl
      have c2 : wr.cell? ⟨b, off + k * 4 + 1 + 1, none⟩ = some (.int .i64 x.2.2.1) := hcell 2 _ rfl
      have c3 : wr.cell? ⟨b, off + k * 4 + 1 + 1 + 1, none⟩ = some (.slice pa pn pc) := hcell 3 _ rfl
      have hpl := hp3.1
      have HOK := hidOf (l26Ok_any B x.1 x.2.1 x.2.2.1 pa pn pc x.2.2.2 wr hbB (by omega) hp3)
      obtain ⟨K, hK⟩ : ∃ K, okE (x.1, x.2.1, x.2.2.1, x.2.2.2) = K := ⟨_, rfl⟩
      rw [hK] at HOK
      have hKx : okE x = K := hK
      have HT := hidOf ht
      clear hcell hx hp3 ht
      cases K with
      | false =>
        have hPe : P = ⟨#[]⟩ := by rw [← HP.out, putS_bad hmem hKx]; rfl
        clear hKx hK hmem
        go_wp2_with fail
        refine HOK.out.mono ?_
        rintro e w1 ⟨rfl, hb1⟩
        have HB1 := hidOf (hbel.trans (hb1.mono hbel.size))
        clear hb1
        go_wp2_with fail
        go_ret
        exact ⟨by rw [hPe]; rfl, HB1.out⟩
      | true =>
        have HPUT : Hid (∀ W, Below wr.heap.size wr W → Calls Tryz.prog 39 #[.agg #[.int .i64 x.1, .int .i64 x.2.1, .int .i64 x.2.2.1, .slice pa pn pc]] W fun e w' => e = .returned (.string (bt8 (evT x))) ∧ Below W.heap.size W w') := fun W hb => l26Put_any W.heap.size x.1 x.2.1 x.2.2.1 pa pn pc x.2.2.2 W (Nat.le_refl _) ((HP3.out.below (hb.mono hbB)).mono (by have := hb.size; omega)) hK
        obtain ⟨y, hy⟩ : ∃ y, bt8 (evT x) = y := ⟨_, rfl⟩
        rw [hy] at HPUT
        have hy80 : y.size ≤ 80 := by rw [← hy, bt8_size]; exact evT_len (okE_iff.1 hKx)
        have HY := hidOf hy
        have HKX := hidOf hKx
        clear hKx hK hmem hy
        by_cases hk8 : k = 80
        · have hk8' : (80 : Int) ≤ k := by omega
          have hPe : P = ⟨#[]⟩ := by rw [← HP.out, putS_many (by omega)]; rfl
          clear HPUT hk8
          go_wp2_with fail
          refine HOK.out.mono ?_
          rintro e w1 ⟨rfl, hb1⟩
          have HB1 := hidOf (hbel.trans (hb1.mono hbel.size))
          clear hb1
          go_wp2_with fail
          go_ret
          exact ⟨by rw [hPe]; rfl, HB1.out⟩
        · have hk8' : ¬ (80 : Int) ≤ k := by omega
          have hc1 : ¬ 9223372036854775807 < s.size + y.size := by omega
          have hc2 : ¬ 9223372036854775807 < s.size + y.size + 1 := by omega
          go_wp2_with fail
          refine HOK.out.mono ?_
          rintro e w1 ⟨rfl, hb1⟩
          have d0 := (hb1.cell (p := ⟨b, off + k * 4, none⟩) hbr).trans c0
          have d1 := (hb1.cell (p := ⟨b, off + k * 4 + 1, none⟩) hbr).trans c1
          have d2 := (hb1.cell (p := ⟨b, off + k * 4 + 1 + 1, none⟩) hbr).trans c2
          have d3 := (hb1.cell (p := ⟨b, off + k * 4 + 1 + 1 + 1, none⟩) hbr).trans c3
          have HPU := hidOf (HPUT.out w1 hb1)
          have HB1 := hidOf (hbel.trans (hb1.mono hbel.size))
          clear hb1 c0 c1 c2 c3
          go_wp2_with fail
          refine HPU.out.mono ?_
          rintro e w2 ⟨rfl, hb2⟩
          have HB2 := hidOf (HB1.out.trans (hb2.mono HB1.out.size))
          clear hb2
          go_wp2_with fail
          go_roundw
          case rel =>
            refine ⟨k + 1, _, by omega, by omega, by go_num, rfl, ?_, ?_, HB2.out⟩
            · rw [ByteArray.size_append, ByteArray.size_append]; show s.size + y.size + 1 ≤ _; omega
            · refine ⟨?_, ?_⟩
              · rw [HT.out, storyT_snoc, HK.out.1, ← HY.out, ← bt8_app, ← bt8_app]; rfl
              · rw [HT.out]
                intro z hz
                rcases List.mem_append.1 hz with hz | hz
                · exact HK.out.2 z hz
                · rw [List.mem_singleton.1 hz]; exact HKX.out
          case measure => simp [intOf]; omega
    · have : k = n := by omega
      subst this
      have hfin : s = P := by
        have h := HK.out
        rw [List.take_of_length_le (by omega)] at h
        rw [← HP.out, putS_yes (by omega) h.2]; exact h.1
      go_wp2_with fail
      go_ret
      exact ⟨by rw [hfin]; rfl, hbel⟩
end Go.Proofs.YtjmgfpldjccilaaGreatDoor
