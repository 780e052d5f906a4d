/- The tables that events are written with; strconv.Itoa; numbers and their texts, one by one. -/
import Derived.Test.YtjmgfpldjccilaaGreatDoorEvPure
import Derived.Test.YtjmgfpldjccilaaGreatDoorShelfS
import Derived.Test.YtjmgfpldjccilaaGreatDoorOwnStr
import Derived.Test.YtjmgfpldjccilaaGreatDoorOwnRow
import Derived.Test.YtjmgfpldjccilaaGreatDoorIntPure
import Derived.Test.YtjmgfpldjccilaaGreatDoorSizes
import Derived.Test.YtjmgfpldjccilaaGreatDoorBoxNew
import Derived.Lib.LaidTab
import Derived.Lib.AppendIntMem
namespace Go.Proofs.YtjmgfpldjccilaaGreatDoor
open Go Go.RowKit Go.PlainAid
set_option linter.unusedSimpArgs false
set_option linter.unusedVariables false

/-- a text out of bytes -/
def bt8 (l : List UInt8) : ByteArray := ⟨l.toArray⟩
theorem bt8_app (a b : List UInt8) : bt8 a ++ bt8 b = bt8 (a ++ b) := by
  apply ByteArray.ext
  simp [bt8]
theorem bt8_size (a : List UInt8) : (bt8 a).size = a.length := by simp [bt8, ByteArray.size]
theorem bt8_list (a : List UInt8) : (bt8 a).data.toList = a := by simp [bt8]
theorem bt8_inj {a b : List UInt8} (h : bt8 a = bt8 b) : a = b := by rw [← bt8_list a, h, bt8_list]
theorem bt8_of (s : ByteArray) : bt8 s.data.toList = s := by apply ByteArray.ext; simp [bt8]

/-- what the program reads when it writes -/
structure TbP (w : World) : Prop where
  tens : Lib.TabIs Tryz.prog w "internal/strconv.uint64pow10" .u64 Lib.pow10Tab
  words : ∀ k, k < 10 → w.cell? ⟨0, k, none⟩ = some (.string (bt8 (wordsL.getD k [])))
theorem TbP.lt {w : World} (h : TbP w) : 0 < w.heap.size := World.block_lt_of_cell? w _ (h.words 0 (by decide))
theorem TbP.up {w w' : World} (h : TbP w) (hb : Below w.heap.size w w') : TbP w' :=
  ⟨Lib.tabBelow_of_tabIs h.tens w' hb, fun k hk => (hb.cell h.lt).trans (h.words k hk)⟩

theorem itoa_any (n : Int) (w : World) (hT : TbP w) (h0 : -9223372036854775808 ≤ n) (h1 : n ≤ 9223372036854775807) :
    Calls Tryz.prog 32 #[.int .i64 n] w fun e w' => e = .returned (.string (bt8 (Lib.itoa n))) ∧ Below w.heap.size w w' :=
  (Tryz.strconv_Itoa n h0 h1 w hT.tens).mono (by rintro e w' ⟨rfl, k, os, rfl⟩; exact ⟨rfl, Lib.below_grow _ _ (Nat.le_refl _) k os⟩)

set_option maxHeartbeats 1600000 in
set_option maxRecDepth 100000 in
theorem listOfItoa_any (B : Nat) (a : Option Addr) (n c : Nat) (l : List Int) (w : World) (hT : TbP w) (hB : B ≤ w.heap.size) (hn : n ≤ 1048576) (hz : IsInts B w a n l) (h64 : l.all in32 = true) :
    Calls Tryz.prog 60 #[.slice a n c, .func (Fn.func 32) #[] #[]] w fun e w' => ∃ u, e = .returned u ∧ OwnS w.heap.size w' u (l.map fun x => bt8 (Lib.itoa x)) ∧ Below w.heap.size w w' := by
  obtain ⟨i0, hi, hz0, hz1, hz2⟩ := info_parts infoStr'
  have hlen := hz.1
  have HZ := hidOf hz
  have HTB := hidOf hT
  have H64 := hidOf h64
  clear hz hT h64
  go_enter Tryz.func60, Tryz.ntmps60
  go_wp2_with fail
  go_loopw [5, 10] (fun u i wr => ∃ k : Nat, k ≤ n ∧ i = .int .i64 k ∧ Hid (OwnS w.heap.size wr u ((l.take k).map fun x => bt8 (Lib.itoa x))) ∧ Below w.heap.size w wr) (fun _ i _ => n - (intOf i).toNat)
  case atStart => exact ⟨0, Nat.zero_le _, rfl, ⟨rfl, .inl ⟨rfl, rfl⟩⟩, Below.refl _ _⟩
  case round =>
    obtain ⟨k, hk, rfl, HK, hbel⟩ := hrel
    by_cases hlt : k < n
    · have hz' := HZ.out.below (hbel.mono hB)
      rcases hz'.2 with h0 | ⟨b, off, rfl, hb, hc⟩
      · omega
      have hws := hbel.size
      have hbr : b < wr.heap.size := by omega
      have c0 := hc k hlt
      have ht : (l.take (k + 1)).map (fun x => bt8 (Lib.itoa x)) = (l.take k).map (fun x => bt8 (Lib.itoa x)) ++ [bt8 (Lib.itoa (l.getD k 0))] := by rw [List.take_succ_eq_append_getElem (by omega), List.map_append, getD_at (by omega)]; rfl
      have hml : ((l.take k).map fun x => bt8 (Lib.itoa x)).length = k := by simp; omega
      have hin : in32 (l.getD k 0) = true := by
        rw [getD_at (by omega)]
        exact List.all_eq_true.1 H64.out _ (List.getElem_mem _)
      obtain ⟨x, hx⟩ : ∃ x, l.getD k 0 = x := ⟨_, rfl⟩
      rw [hx] at c0 ht hin
      simp [in32] at hin
      have HT := hidOf ht
      have how := HK.out
      unfold OwnS at how
      rw [hml] at how
      have HOW := hidOf how
      obtain ⟨y, hy⟩ : ∃ y, bt8 (Lib.itoa x) = y := ⟨_, rfl⟩
      have HCL := hidOf (fun W h => itoa_any x W h (by omega) (by omega))
      rw [hy] at HCL HT
      have HTW := hidOf (HTB.out.up hbel)
      clear how hz' hc hx ht hin hy
      go_wp2_with fail
      refine (HCL.out _ HTW.out).mono ?_
      rintro e w1 ⟨rfl, hb1⟩
      have HBW : Hid (Below w.heap.size w w1) := hbel.trans (hb1.mono hws)
      have HO1 := hidOf (own_of_block HOW.out (fun q hq => hb1.block q (World.ownsRow.lt HOW.out q hq).2))
      have hs1 := hb1.size
      clear hb1
      go_wp2_with (at_builtin; (refine wpList_append_own _ rfl (.tmp 14) (.tmp 18) 53 rfl w.heap.size 9 i0 (.string ByteArray.empty) 1 16 Tryz.underlying53 hi hz0 hz1 hz2 rfl (by decide) _ k (((l.take k).map fun x => bt8 (Lib.itoa x)).map Value.string) rfl (by exact (HO1.out.alloc _)) ⟨w1.heap.size, 0, none⟩ 1 1 [.string y] rfl rfl (by exact one_new _ _ _) (by intro u hu; simp at hu; subst hu; rfl) (by unfold maxLen; omega) (by omega) (by simp; omega) ?_))
      intro v' w2 hown' hgrow' _
      have HB2 : Hid (Below w.heap.size w w2) := (HBW.out.alloc (by omega) _).grown hgrow' (by simp; omega) (fun q hq => (World.ownsRow.lt HO1.out q hq).1)
      have HO2 : Hid (OwnS w.heap.size w2 v' ((l.take k).map (fun x => bt8 (Lib.itoa x)) ++ [y])) := by
        show World.ownsRow _ _ _ _ _ _ _
        rw [List.length_append, hml, List.map_append]
        have e : List.take k (List.map (Value.string ∘ fun x => bt8 (Lib.itoa x)) l) = ((l.take k).map fun x => bt8 (Lib.itoa x)).map Value.string := by simp [List.map_take]
        first
          | exact hown'
          | (rw [e] at hown'; exact hown')
      clear hown' hgrow'
      go_wp2_with fail
      go_roundw
      case rel => exact ⟨k + 1, by omega, by go_num, by show OwnS _ _ _ _; rw [HT.out]; exact HO2.out, HB2.out⟩
      case measure => simp [intOf]; omega
    · have : k = n := by omega
      subst this
      rw [List.take_of_length_le (by omega)] at HK
      go_wp2_with fail
      go_ret
      exact ⟨_, rfl, HK.out, hbel⟩
end Go.Proofs.YtjmgfpldjccilaaGreatDoor
