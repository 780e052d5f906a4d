/- The program's listOf at events and how they are written. -/
import Derived.Test.YtjmgfpldjccilaaGreatDoorEvArr
import Derived.Test.YtjmgfpldjccilaaGreatDoorEvPutI2
import Derived.Test.YtjmgfpldjccilaaGreatDoorOwnStr
namespace Go.Proofs.YtjmgfpldjccilaaGreatDoor
open Go Go.RowKit Go.PlainAid
set_option linter.unusedSimpArgs false
set_option linter.unusedVariables false

def putB (x : Ev) : ByteArray := bt8 (putE x)
set_option maxHeartbeats 1600000 in
set_option maxRecDepth 100000 in
theorem listOfEvent_any (B : Nat) (a : Option Addr) (n c : Nat) (l : List Ev) (w : World) (hB : B ≤ w.heap.size) (hn : n ≤ 1048576) (hT : TbP w) (hf : ∀ x ∈ l, FewEv x) (hz : IsArr 4 QEv B w a n l) :
    Calls Tryz.prog 35 #[.slice a n c, .func (Fn.func 12) #[] #[]] w fun e w' => ∃ u, e = .returned u ∧ OwnS w.heap.size w' u (l.map putB) ∧ Below w.heap.size w w' := by
  obtain ⟨i0, hi, hz0, hz1, hz2⟩ := info_parts infoStr'
  have hlen := hz.1
  have HZ := hidOf hz
  have HTB := hidOf hT
  have HFW := hidOf hf
  clear hz hT hf
  go_enter Tryz.func35, Tryz.ntmps35
  go_wp2_with fail
  go_loopw [5, 10] (fun u i wr => ∃ k : Nat, k ≤ n ∧ i = .int .i64 k ∧ Hid (OwnS w.heap.size wr u ((l.take k).map putB)) ∧ Below w.heap.size w wr) (fun _ i _ => n - (intOf i).toNat)
  case atStart => exact ⟨0, Nat.zero_le _, rfl, ⟨rfl, .inl ⟨rfl, rfl⟩⟩, Below.refl _ _⟩
  case round =>
    obtain ⟨k, hk, rfl, HK, hbel⟩ := hrel
    by_cases hlt : k < n
    · obtain ⟨b, off, cs, rfl, hb, hq, hcell⟩ := IsArr.at (HZ.out.below (QEv.lift (hbel.mono hB)) (hbel.mono hB)) hlt (show k < l.length by omega)
      have hws := hbel.size
      have hbr : b < wr.heap.size := by omega
      have hbB : B ≤ wr.heap.size := by omega
      have hfx := HFW.out (l[k]'(by omega)) (List.getElem_mem _)
      have ht : (l.take (k + 1)).map putB = (l.take k).map putB ++ [putB (l[k]'(by omega))] := by rw [List.take_succ_eq_append_getElem (by omega), List.map_append]; rfl
      have hml : ((l.take k).map putB).length = k := by simp; omega
      obtain ⟨x, hx⟩ : ∃ x, l[k]'(by omega) = x := ⟨_, rfl⟩
      rw [hx] at hq ht hfx
      unfold FewEv at hfx
      obtain ⟨pa, pn, pc, rfl, hp1, hp2, hp3⟩ := hq
      have HP3 := hidOf hp3
      have c0 : wr.cell? ⟨b, off + k * 4, none⟩ = some (.int .i64 x.1) := hcell 0 _ rfl
      have c1 : wr.cell? ⟨b, off + k * 4 + 1, none⟩ = some (.int .i64 x.2.1) := hcell 1 _ rfl
      have c2 : wr.cell? ⟨b, off + k * 4 + 1 + 1, none⟩ = some (.int .i64 x.2.2.1) := hcell 2 _ rfl
      have c3 : wr.cell? ⟨b, off + k * 4 + 1 + 1 + 1, none⟩ = some (.slice pa pn pc) := hcell 3 _ rfl
      have HT := hidOf ht
      have how := HK.out
      unfold OwnS at how
      rw [hml] at how
      have HOW := hidOf how
      have HCL := hidOf (fun W (hb : Below wr.heap.size wr W) => implEventPut_any W.heap.size x.1 x.2.1 x.2.2.1 pa pn pc x.2.2.2 W ((HTB.out.up hbel).up hb) (Nat.le_refl _) (by have := HP3.out.1; omega) ((HP3.out.below (hb.mono hbB)).mono (by have := hb.size; omega)))
      obtain ⟨y, hy⟩ : ∃ y, putB x = y := ⟨_, rfl⟩
      have hy2 : bt8 (putE (x.1, x.2.1, x.2.2.1, x.2.2.2)) = y := hy
      rw [hy2] at HCL
      rw [hy] at HT
      clear how hcell hx ht hy hy2
      go_wp2_with fail
      refine (HCL.out _ ((Below.refl _ _).alloc (Nat.le_refl _) _)).mono ?_
      rintro e w1 ⟨rfl, hb1⟩
      have hB1 : Below wr.heap.size wr w1 := ((Below.refl _ _).alloc (Nat.le_refl _) _).trans (hb1.mono (by simp))
      have HBW : Hid (Below w.heap.size w w1) := hbel.trans (hB1.mono hws)
      have HO1 := hidOf (own_of_block HOW.out (fun q hq => hB1.block q (World.ownsRow.lt HOW.out q hq).2))
      have hs1 := hB1.size
      clear hb1 hB1
      go_wp2_with (at_builtin; (refine wpList_append_own _ rfl (.tmp 14) (.tmp 18) 53 rfl w.heap.size 9 i0 (.string ByteArray.empty) 1 16 Tryz.underlying53 hi hz0 hz1 hz2 rfl (by decide) _ k (((l.take k).map putB).map Value.string) rfl (by exact (HO1.out.alloc _)) ⟨w1.heap.size, 0, none⟩ 1 1 [.string y] rfl rfl (by exact one_new _ _ _) (by intro u hu; simp at hu; subst hu; rfl) (by unfold maxLen; omega) (by omega) (by simp; omega) ?_))
      intro v' w2 hown' hgrow' _
      have HB2 : Hid (Below w.heap.size w w2) := (HBW.out.alloc (by omega) _).grown hgrow' (by simp; omega) (fun q hq => (World.ownsRow.lt HO1.out q hq).1)
      have HO2 : Hid (OwnS w.heap.size w2 v' ((l.take k).map putB ++ [y])) := by
        show World.ownsRow _ _ _ _ _ _ _
        rw [List.length_append, hml, List.map_append]
        have e : List.take k (List.map (Value.string ∘ putB) l) = ((l.take k).map putB).map Value.string := by simp [List.map_take]
        first
          | exact hown'
          | (rw [e] at hown'; exact hown')
      clear hown' hgrow'
      go_wp2_with fail
      go_roundw
      case rel => exact ⟨k + 1, by omega, by go_num, by show OwnS _ _ _ _; rw [HT.out]; exact HO2.out, HB2.out⟩
      case measure => simp [intOf]; omega
    · have : k = n := by omega
      subst this
      rw [List.take_of_length_le (by omega)] at HK
      go_wp2_with fail
      go_ret
      exact ⟨_, rfl, HK.out, hbel⟩
end Go.Proofs.YtjmgfpldjccilaaGreatDoor
