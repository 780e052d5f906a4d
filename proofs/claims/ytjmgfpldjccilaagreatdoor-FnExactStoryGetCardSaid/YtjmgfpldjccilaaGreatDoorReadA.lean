/- Reading a story, line by line: the ranges of what is read told. -/
import Derived.Test.YtjmgfpldjccilaaGreatDoorScan
import Derived.Test.YtjmgfpldjccilaaGreatDoorRowsO
import Derived.Test.YtjmgfpldjccilaaGreatDoorReadI
import Derived.Test.YtjmgfpldjccilaaGreatDoorEvGetI4
import Derived.Deep.Cut
import Derived.Test.YtjmgfpldjccilaaGreatDoorRdR5
namespace Go.Proofs.YtjmgfpldjccilaaGreatDoor
open Go Go.RowKit Go.PlainAid
set_option linter.unusedSimpArgs false
set_option linter.unusedVariables false

/-- what reading leaves -/
def ReadPostO (p : Nat) (S : List UInt8) (w : World) (e : Ending) (w' : World) : Prop :=
  ∃ b, e = .returned (.bool b) ∧ Mv p w w' ∧ ((b = true ∧ ∃ (D : List Ev) (v : Value) (cs : List (List Value)) (x y : ByteArray) (f : Nat → Nat × Nat), OkS D ∧ S = storyT D ∧ BoxAt p [.string x, .string y, v] w' ∧ OwnEvO w.heap.size w'.heap.size w' v D cs f) ∨ (b = false ∧ ∀ f, OkS f → bt8 S ≠ bt8 (storyT f)))

theorem ReadPostO.drewN {p : Nat} {S : List UInt8} {w w' : World} {e : Ending} (h : ReadPostO p S w e w') (n : Nat) : ReadPostO p S w e (w'.drewN n) := by
  obtain ⟨b, h1, h2, h3⟩ := h
  refine ⟨b, h1, h2.drewN n, ?_⟩
  rcases h3 with ⟨h3, D, v, cs, x, y, f, h4, h5, h6, h7⟩ | h3
  · exact .inl ⟨h3, D, v, cs, x, y, f, h4, h5, h6.drewN n, ⟨h7.len, h7.row, h7.rowB, h7.bound, h7.each, h7.ord⟩⟩
  · exact .inr h3

set_option maxHeartbeats 6400000 in
set_option maxRecDepth 100000 in
theorem read_anyO (p : Nat) (S : List UInt8) (x0 : ByteArray) (w : World) (hT : ∀ W, Mv p w W → TbG W) (hS : S.length ≤ 1048576) (hbx : BoxAt p [.string x0, .string (bt8 S), .slice none 0 0] w) :
    Calls Tryz.prog 40 #[.pointer (some ⟨p, 0, none⟩)] w (ReadPostO p S w) := by
  have hp := hbx.1
  have HTB := hidOf hT
  have BX0 := hidOf hbx
  clear hT hbx
  go_enter Tryz.func40, Tryz.ntmps40
  go_wp2_with fail
  go_loopw [] (fun wr => ∃ (D : List Ev) (x : ByteArray) (r : List UInt8) (v : Value) (cs : List (List Value)) (f : Nat → Nat × Nat), Hid (OkS D ∧ S = storyT D ++ r) ∧ Hid (BoxAt p [.string x, .string (bt8 r), v] wr) ∧ Hid (OwnEvO w.heap.size wr.heap.size wr v D cs f) ∧ Mv p w wr) (fun wr => leftSz p wr)
  case atStart => exact ⟨[], x0, S, .slice none 0 0, [], (fun _ => (0, 0)), ⟨⟨by decide, fun x hx => by simp at hx⟩, rfl⟩, BX0.out, OwnRO.nil _ _ _ _ _ _ _ (Nat.le_refl _), Mv.refl _ _⟩
  case round =>
    obtain ⟨D, x, r, v, cs, f, HD, BX, HO, hmv⟩ := hrel
    have hrl : r.length ≤ 1048576 := by have h := HD.out.2; have := congrArg List.length h; rw [List.length_append] at this; omega
    have hms := hmv.size
    have hpr : p < wr.heap.size := by omega
    have HM := hidOf hmv
    have c0 : wr.cell? ⟨p, 0, none⟩ = some _ := (BX.out.2 0 _ rfl).1
    have c1 : wr.cell? ⟨p, 1, none⟩ = some _ := (BX.out.2 1 _ rfl).1
    have c2 : wr.cell? ⟨p, 2, none⟩ = some _ := (BX.out.2 2 _ rfl).1
    clear hmv
    rcases line_or r with hl | ⟨L, R, hl, hr⟩
    · have HSC := hidOf (scan_no p x r wr (HTB.out wr HM.out) hrl hl c0 c1)
      have HL := hidOf hl
      obtain ⟨sr, hsr⟩ : ∃ sr, bt8 r = sr := ⟨_, rfl⟩
      rw [hsr] at c1
      clear hl
      by_cases h0 : r = []
      · have hsr0 : sr = ⟨#[]⟩ := by rw [← hsr, h0]; rfl
        subst hsr0
        have HFIN : Hid (ReadPostO p S w (.returned (.bool true)) wr) := ⟨true, rfl, HM.out, .inl ⟨rfl, D, v, cs, _, _, f, HD.out.1, by rw [HD.out.2, h0, List.append_nil], BX.out, HO.out⟩⟩
        clear h0 hsr
        go_wp2_with fail
        refine HSC.out.mono ?_
        rintro e w1 ⟨rfl, n, rfl⟩
        have d1 : (wr.drewN n).cell? ⟨p, 1, none⟩ = some (.string ⟨#[]⟩) := c1
        obtain ⟨W, hW⟩ : ∃ W, wr.drewN n = W := ⟨_, rfl⟩
        have HF2 : Hid (ReadPostO p S w (.returned (.bool true)) W) := by show ReadPostO _ _ _ _ _; rw [← hW]; exact HFIN.out.drewN n
        rw [hW] at d1 ⊢
        clear hW c0 c1 c2
        go_wp2_with fail
        go_ret
        exact HF2.out
      · have hne : sr ≠ ⟨#[]⟩ := by rw [← hsr]; intro e; exact h0 (bt8_inj (b := []) e)
        have hemp2 : sr.toList.isEmpty = false := by
          rw [Lib.toList_data]
          cases h : sr.data.toList with
          | nil => exact absurd (by rw [← bt8_of sr, h]; rfl) hne
          | cons _ _ => rfl
        have HFIN : Hid (ReadPostO p S w (.returned (.bool false)) wr) := ⟨false, rfl, HM.out, .inr ⟨rfl, by rw [HD.out.2]; exact no_end HD.out.1.2 HL.out h0⟩⟩
        clear h0 hsr
        go_wp2_with fail
        refine HSC.out.mono ?_
        rintro e w1 ⟨rfl, n, rfl⟩
        have d1 : (wr.drewN n).cell? ⟨p, 1, none⟩ = some (.string sr) := c1
        obtain ⟨W, hW⟩ : ∃ W, wr.drewN n = W := ⟨_, rfl⟩
        have HF2 : Hid (ReadPostO p S w (.returned (.bool false)) W) := by show ReadPostO _ _ _ _ _; rw [← hW]; exact HFIN.out.drewN n
        rw [hW] at d1 ⊢
        clear hW c0 c1 c2 hne
        go_wp2_with fail
        go_ret
        exact HF2.out
    · rw [hr] at BX HD c1 hrl
      have f0 := (BX.out.2 0 _ rfl).2
      have f1 := (BX.out.2 1 _ rfl).2
      have HSC := hidOf (scan_line p x L R wr (HTB.out wr HM.out) hrl hl c0 c1 f0 f1)
      have hLl : L.length ≤ 1048576 := by rw [List.length_append] at hrl; omega
      have HL := hidOf hl
      have HLSZ : Hid (R.length < leftSz p wr) := by
        show _ < _
        rw [leftSz_of c1, bt8_size, List.length_append, List.length_cons]; omega
      obtain ⟨ao, co, rfl⟩ := HO.out.un.form
      clear hl hr c0 c1 c2 f0 f1
      go_wp2_with fail
      refine HSC.out.mono ?_
      rintro e w1 ⟨rfl, n, hw1⟩
      have hmv1 : Mv p wr w1 := by rw [hw1]; exact ((((Mv.refl p wr).drewN n).cell 0 _).cell 1 _)
      have BX1 : Hid (BoxAt p [.string (bt8 L), .string (bt8 R), .slice ao D.length co] w1) := by rw [hw1]; exact (((BX.out.drewN n).set 0 _).set 1 _)
      have hs1 : w1.heap.size = wr.heap.size := by rw [hw1]; simp [World.setCell]
      have HO1 : Hid (OwnEvO w.heap.size w1.heap.size w1 (.slice ao D.length co) D cs f) := by
        have h := HO.out.stay1 PEv.loc (hmv1.stay hp (Nat.le_refl _)) (by omega)
        rw [hs1]; exact h
      have HM1 := hidOf (HM.out.trans hmv1)
      have HG1 := hidOf (implEventGet_any (bt8 L) w1 (HTB.out w1 HM1.out) (by rw [bt8_size]; exact hLl))
      have e0 : w1.cell? ⟨p, 0, none⟩ = some _ := (BX1.out.2 0 _ rfl).1
      have hp1 : p < w1.heap.size := by omega
      obtain ⟨sL, hsL⟩ : ∃ sL, bt8 L = sL := ⟨_, rfl⟩
      rw [hsL] at e0 HG1
      have HSL := hidOf hsL
      clear hw1 hmv1 hsL
      go_wp2_with fail
      refine HG1.out.mono ?_
      rintro e w2 ⟨k, t, m, a2, n2, c2, l, b, rfl, hf2, hc2, hg2, hb2⟩
      have hs2 := hb2.size
      have HM2 := hidOf (HM1.out.trans (Mv.of_below hb2))
      have BX2 := hidOf (BX1.out.below hb2)
      have HO2 : Hid (OwnEvO w.heap.size w2.heap.size w2 (.slice ao D.length co) D cs f) := (HO1.out.stay1 PEv.loc (Stay.of hb2) hb2.size).mono (Nat.le_refl _) hb2.size (Nat.le_refl _)
      have HF2 := hidOf hf2
      have HB12 := hidOf hb2
      have HG2 := hidOf hg2
      have g2 : w2.cell? ⟨p, 2, none⟩ = some _ := (BX2.out.2 2 _ rfl).1
      have hp2 : p < w2.heap.size := by omega
      have hD80 : D.length ≤ 80 := HD.out.1.1
      clear hf2 hg2 hb2 e0
      cases b with
      | false =>
        have HNO : Hid (∀ f, OkS f → bt8 S ≠ bt8 (storyT f)) := by
          rw [HD.out.2]
          refine no_line HD.out.1.2 HL.out ?_
          rcases HG2.out with ⟨h, _⟩ | ⟨_, _, h⟩
          · exact absurd h (by decide)
          · rw [HSL.out]; exact h
        go_wp2_with fail
        go_ret
        exact ⟨false, rfl, HM2.out.trans (Mv.of_below ((Below.refl _ _).alloc (Nat.le_refl _) _)), .inr ⟨rfl, HNO.out⟩⟩
      | true =>
        by_cases h80 : D.length = 80
        · have HNO : Hid (∀ f, OkS f → bt8 S ≠ bt8 (storyT f)) := by rw [HD.out.2]; exact no_more HD.out.1.2 h80 HL.out
          have h80' : (D.length : Int) = 80 := by omega
          clear h80
          go_wp2_with fail
          go_ret
          exact ⟨false, rfl, HM2.out.trans (Mv.of_below ((Below.refl _ _).alloc (Nat.le_refl _) _)), .inr ⟨rfl, HNO.out⟩⟩
        · have h80' : ¬ (D.length : Int) = 80 := by omega
          have HGE := hidOf (show OkE (k, t, m, l) ∧ sL = bt8 (evT (k, t, m, l)) from by
            rcases HG2.out with ⟨_, h1, h2⟩ | ⟨h, _⟩
            · exact ⟨h1, h2⟩
            · exact absurd h (by decide))
          have hln : l.length = n2 := HF2.out.1.1
          subst hln
          obtain ⟨W3, hW3⟩ : ∃ W3, w2.alloc (.cells #[.int .i64 k, .int .i64 t, .int .i64 m, .slice a2 l.length c2] 26) = W3 := ⟨_, rfl⟩
          have hb3 : Below w2.heap.size w2 W3 := by rw [← hW3]; exact (Below.refl _ _).alloc (Nat.le_refl _) _
          have hs3 : W3.heap.size = w2.heap.size + 1 := by rw [← hW3]; simp
          have BQ : Hid (BoxAt w2.heap.size [.int .i64 k, .int .i64 t, .int .i64 m, .slice a2 l.length c2] W3) := by show BoxAt _ _ _; rw [← hW3]; exact boxAt_new w2 _ _
          have HW3 := hidOf hW3
          have HB3 := hidOf hb3
          clear hb3 hW3
          go_upto_region 5 with fail
          rw [HW3.out]
          have hrow0 := HO2.out.row
          have hq : ∀ q, (Value.slice ao D.length co).ownBlock = some q → w.heap.size ≤ q ∧ q < w1.heap.size := fun q h => ⟨(World.ownsRow.lt hrow0 q h).1, HO1.out.rowB q h⟩
          have hne : ∀ b', (b' < w.heap.size ∨ w1.heap.size ≤ b') → some b' ≠ (Value.slice ao D.length co).ownBlock := fun b' h e => by have := hq b' e.symm; omega
          have hrow : W3.ownsRow w.heap.size 26 4 (.slice ao D.length co) D.length cs.flatten := own_of_block hrow0 (fun q h => HB3.out.block q (by have := (hq q h).2; omega))
          have BX3 := BX2.out.below HB3.out
          refine regionXRS (.slice ao D.length co) k t m l.length c2 a2 p w2.heap.size w.heap.size w2.heap.size D.length cs.flatten (by omega) (by omega) (fun q h => by have := (hq q h).2; omega) (by omega) (by omega) BX3.1 (hne _ (.inr (by omega))) (hne _ (.inl hp)) (BQ.out.2 0 _ rfl).1 (BQ.out.2 1 _ rfl).1 (BQ.out.2 2 _ rfl).1 (BQ.out.2 3 _ rfl).1 (BX3.2 2 _ rfl).1 (BX3.2 2 _ rfl).2 hrow ?_
          intro x28 x29 x30 x31 x32 x33 x34 x35 x36 x37 g cap w4 h1 h2 h3
          have hg : w1.grownBy w4 (Value.slice ao D.length co).ownBlock := (below_grown (HB12.out.trans (HB3.out.mono hs2)) _).trans h3
          have hs4 := h3.size
          have HFR : FreeR w1.heap.size w2.heap.size w2 a2 l := FreeR.of HF2.out
          have HFR4 : FreeR w1.heap.size w2.heap.size w4 a2 l := HFR.stays (fun b k1 k2 => (h3.block b (by omega) (fun e => hne b (.inr k1) e)).trans (HB3.out.block b k2)) (by omega)
          have hl3 : l.length ≤ maxLen := by
            rcases HGE.out.1.push with h | h
            · simp only at h; rw [h]; decide
            · have := h.2.1; simp only at this; unfold maxLen; omega
          have hpush := OwnRO.push (f := f) (c := [.int .i64 k, .int .i64 t, .int .i64 m, .slice a2 l.length c2]) (x := ((k, t, m, l) : Ev)) PEv.loc HO1.out hg (g := g) (cap := cap) (Mi := w1.heap.size) (Bi := w2.heap.size) (h1.imp id (fun e => ⟨by omega, e⟩)) (Nat.le_refl _) (by omega) (by omega) ⟨a2, c2, rfl, hc2, hl3, HFR4⟩ rfl h2
          have BX4 : BoxAt p [.string sL, .string (bt8 R), .slice ao D.length co] w4 := by
            refine ⟨by omega, fun j u hu => ?_⟩
            have hbk := h3.block p BX3.1 (fun e => hne p (.inl hp) e)
            have h := BX3.2 j u (by rw [← HSL.out] at hu; exact hu)
            exact ⟨(World.cell?_of_block (a := ⟨p, j, none⟩) hbk).trans h.1, (World.frozen?_of_block (a := ⟨p, j, none⟩) hbk).trans h.2⟩
          have HREL : Hid (∃ (D' : List Ev) (x : ByteArray) (r : List UInt8) (v : Value) (cs' : List (List Value)) (f' : Nat → Nat × Nat), Hid (OkS D' ∧ S = storyT D' ++ r) ∧ Hid (BoxAt p [.string x, .string (bt8 r), v] (w4.setCell ⟨p, 2, none⟩ (.slice (some ⟨g, 0, none⟩) (D.length + 1) cap))) ∧ Hid (OwnEvO w.heap.size (w4.setCell ⟨p, 2, none⟩ (.slice (some ⟨g, 0, none⟩) (D.length + 1) cap)).heap.size (w4.setCell ⟨p, 2, none⟩ (.slice (some ⟨g, 0, none⟩) (D.length + 1) cap)) v D' cs' f') ∧ Mv p w (w4.setCell ⟨p, 2, none⟩ (.slice (some ⟨g, 0, none⟩) (D.length + 1) cap))) := by
            have hsz : (w4.setCell ⟨p, 2, none⟩ (.slice (some ⟨g, 0, none⟩) (D.length + 1) cap)).heap.size = w4.heap.size := by simp [World.setCell]
            have hmv4 : Mv p w w4 := by
              refine ⟨h3.os.trans (HB3.out.os.trans HM2.out.os), h3.tape.trans (HB3.out.tape.trans HM2.out.tape), h3.output.trans (HB3.out.output.trans HM2.out.output), by omega, fun b hb1 hb2 => ?_⟩
              have hw12 := HM1.out.size
              exact (h3.block b (by omega) (fun e => hne b (.inl hb1) e)).trans ((HB3.out.block b (by omega)).trans (HM2.out.block b hb1 hb2))
            have hfl : bt8 L = bt8 (evT (k, t, m, l)) := by rw [HSL.out]; exact HGE.out.2
            refine ⟨D ++ [(k, t, m, l)], sL, R, .slice (some ⟨g, 0, none⟩) (D.length + 1) cap, cs ++ [[.int .i64 k, .int .i64 t, .int .i64 m, .slice a2 l.length c2]], (fun i => if i < D.length then f i else (w1.heap.size, w2.heap.size)), ⟨⟨by simp; omega, fun z hz => ?_⟩, ?_⟩, BX4.set 2 _, ?_, hmv4.cell 2 _⟩
            · rcases List.mem_append.1 hz with hz | hz
              · exact HD.out.1.2 z hz
              · rw [List.mem_singleton.1 hz]; exact HGE.out.1
            · rw [HD.out.2, storyT_app, storyT_one, bt8_inj hfl]; simp
            · show OwnEvO _ _ _ _ _ _ _
              rw [hsz]
              exact hpush.stay1 PEv.loc (fun b k1 _ => ((Mv.refl p w4).cell 2 _).block b (by omega) (by omega)) (by rw [hsz]; exact Nat.le_refl _)
          have HLSZ2 : Hid (leftSz p (w4.setCell ⟨p, 2, none⟩ (.slice (some ⟨g, 0, none⟩) (D.length + 1) cap)) < leftSz p wr) := by
            show _ < _
            rw [leftSz_of ((BX4.set 2 (.slice (some ⟨g, 0, none⟩) (D.length + 1) cap)).2 1 _ rfl).1, bt8_size]
            exact HLSZ.out
          clear h1 h2 h3 hg hs4 HFR HFR4 hpush BX4 hrow hrow0 hq hne BX3
          go_wp2_with fail
          go_roundw
          case rel => exact HREL.out
          case measure => exact HLSZ2.out
/-- what a text is told as: events of one's own -/
def StGotO (s : ByteArray) (w : World) (e : Ending) (w' : World) : Prop :=
  ∃ (a : Option Addr) (c : Nat) (l : List Ev) (b : Bool) (cs : List (List Value)) (f : Nat → Nat × Nat), e = .returned (.tuple #[.slice a l.length c, .bool b]) ∧ GotS s l b ∧ OwnEvO w.heap.size w'.heap.size w' (.slice a l.length c) l cs f ∧ Below w.heap.size w w'

set_option maxHeartbeats 1600000 in
set_option maxRecDepth 100000 in
theorem implStoryGet_anyO (s : ByteArray) (w : World) (hT : TbG w) (hs : s.size ≤ 1048576) :
    Calls Tryz.prog 16 #[.string s] w (StGotO s w) := by
  obtain ⟨W0, hW0⟩ : ∃ W0, w.alloc (.cells #[.string ⟨#[]⟩, .string s, .slice none 0 0] 60) = W0 := ⟨_, rfl⟩
  have hb0 : Below w.heap.size w W0 := by rw [← hW0]; exact (Below.refl _ _).alloc (Nat.le_refl _) _
  have hs0 : W0.heap.size = w.heap.size + 1 := by rw [← hW0]; simp
  have BX0 : BoxAt w.heap.size [.string ⟨#[]⟩, .string (bt8 s.data.toList), .slice none 0 0] W0 := by rw [bt8_of, ← hW0]; exact boxAt_new w _ _
  have HR := hidOf (read_anyO w.heap.size s.data.toList ⟨#[]⟩ W0 (fun W hm => hT.up (Mv.fresh hb0 hm)) (by rw [← bt8_size, bt8_of]; exact hs) BX0)
  have HB0 := hidOf hb0
  have HS0 := hidOf hs0
  have HW0 := hidOf hW0
  clear hT hb0 hs0 hW0 BX0
  go_enter Tryz.func16, Tryz.ntmps16
  go_wp2_with fail
  rw [HW0.out]
  refine HR.out.mono ?_
  rintro e w1 ⟨b, rfl, hm1, hres⟩
  have HM1 := hidOf hm1
  have HB1 := hidOf (Mv.fresh HB0.out hm1)
  clear hm1
  rcases hres with ⟨rfl, D, v, cs, x, y, f, hD, hS, hbx, ho⟩ | ⟨rfl, hno⟩
  · obtain ⟨a, c, rfl⟩ := ho.un.form
    have c2 : w1.cell? ⟨w.heap.size, 2, none⟩ = some _ := (hbx.2 2 _ rfl).1
    have HO := hidOf ho
    have HG : Hid (GotS s D true) := .inl ⟨rfl, hD, by rw [← hS, bt8_of]⟩
    clear hD hS hbx ho
    go_wp2_with fail
    go_ret2
    exact ⟨a, c, D, true, cs, f, rfl, HG.out, HO.out.mono (by have := HS0.out; omega) (Nat.le_refl _) (Nat.le_refl _), HB1.out⟩
  · have HG : Hid (GotS s [] false) := .inr ⟨rfl, rfl, by rw [bt8_of] at hno; exact hno⟩
    clear hno
    go_wp2_with fail
    go_ret2
    exact ⟨none, 0, [], false, [], (fun _ => (0, 0)), rfl, HG.out, OwnRO.nil _ _ _ _ _ _ _ HB1.out.size |>.mono (Nat.le_refl _) HB1.out.size (Nat.le_refl _), HB1.out⟩
end Go.Proofs.YtjmgfpldjccilaaGreatDoor
