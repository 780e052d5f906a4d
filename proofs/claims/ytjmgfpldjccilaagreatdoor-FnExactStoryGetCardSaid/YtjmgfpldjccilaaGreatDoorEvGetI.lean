/- How the program reads numbers and values of an event. -/
import Derived.Test.YtjmgfpldjccilaaGreatDoorEvTabG
import Derived.Test.YtjmgfpldjccilaaGreatDoorOwnJ
import Derived.Test.YtjmgfpldjccilaaGreatDoorBoxNew
namespace Go.Proofs.YtjmgfpldjccilaaGreatDoor
open Go Go.RowKit Go.PlainAid
set_option linter.unusedSimpArgs false
set_option linter.unusedVariables false

/-- a text is read as a number: where it is one, as that -/
def Reads (s : ByteArray) (v : Int) : Prop := ∀ n : Int, -10000000000 < n → n < 10000000000 → s = bt8 (Lib.itoa n) → v = n
def noTxt : ByteArray := ⟨#[]⟩

set_option maxHeartbeats 1600000 in
set_option maxRecDepth 100000 in
theorem listOfNum_any (B : Nat) (a : Option Addr) (n c : Nat) (l : List ByteArray) (w : World) (hT : TbG w) (hB : B ≤ w.heap.size) (hn : n ≤ 1048577) (hz : IsStrs B w a n l) (hs : ∀ x ∈ l, x.size ≤ 1048576) :
    Calls Tryz.prog 73 #[.slice a n c, .func (Fn.func 72) #[] #[]] w fun e w' => ∃ u vs, e = .returned u ∧ OwnI w.heap.size w' u vs ∧ vs.length = n ∧ (∀ i, (h : i < l.length) → Reads l[i] (vs.getD i 0)) ∧ Below w.heap.size w w' := by
  obtain ⟨i0, hi, hz0, hz1, hz2⟩ := info_parts infoInt
  have hlen := hz.1
  have HZ := hidOf hz
  have HTB := hidOf hT
  have HS := hidOf hs
  clear hz hT hs
  go_enter Tryz.func73, Tryz.ntmps73
  go_wp2_with fail
  go_loopw [5, 10] (fun u i wr => ∃ (k : Nat) (vs : List Int), k ≤ n ∧ i = .int .i64 k ∧ vs.length = k ∧ Hid (OwnI w.heap.size wr u vs) ∧ Hid (∀ i, (h : i < l.length) → i < k → Reads l[i] (vs.getD i 0)) ∧ Below w.heap.size w wr) (fun _ i _ => n - (intOf i).toNat)
  case atStart => exact ⟨0, [], Nat.zero_le _, rfl, rfl, OwnI.nil _ _, fun i _ h => absurd h (Nat.not_lt_zero _), Below.refl _ _⟩
  case round =>
    obtain ⟨k, vs, hk, rfl, hvl, HK, HR, hbel⟩ := hrel
    by_cases hlt : k < n
    · have hz' := HZ.out.below (hbel.mono hB)
      rcases hz'.2 with h0 | ⟨b, off, rfl, hb, hc⟩
      · omega
      have hws := hbel.size
      have hbr : b < wr.heap.size := by omega
      have c0 := hc k (by omega)
      have hkl : k < l.length := by rw [hlen]; exact hlt
      have hxs := HS.out _ (List.getElem_mem hkl)
      obtain ⟨x, hx⟩ : ∃ x, l[k]'hkl = x := ⟨_, rfl⟩
      have HX := hidOf hx
      rw [hx] at c0 hxs
      have how := HK.out
      unfold OwnI at how
      rw [hvl] at how
      have HOW := hidOf how
      have HCL := hidOf (fun W h => numberOf_any x W h hxs)
      have HTW := hidOf (HTB.out.up hbel)
      have HVL := hidOf hvl
      clear how hz' hc hx hvl
      go_wp2_with fail
      refine (HCL.out _ HTW.out).mono ?_
      rintro e w1 ⟨v, rfl, hrd, hb1⟩
      have HRD := hidOf hrd
      have HBW : Hid (Below w.heap.size w w1) := hbel.trans (hb1.mono hws)
      have HO1 := hidOf (own_of_block HOW.out (fun q hq => hb1.block q (World.ownsRow.lt HOW.out q hq).2))
      have hs1 := hb1.size
      clear hb1 hrd
      go_wp2_with (at_builtin; (refine wpList_append_own _ rfl (.tmp 14) (.tmp 18) 24 rfl w.heap.size 3 i0 (.int .i64 0) 1 8 Tryz.underlying24 hi hz0 hz1 hz2 rfl (by decide) _ k (vs.map (Value.int .i64)) rfl (by exact (HO1.out.alloc _)) ⟨w1.heap.size, 0, none⟩ 1 1 [.int .i64 v] rfl rfl (by exact one_new _ _ _) (by intro u hu; simp at hu; subst hu; rfl) (by unfold maxLen; omega) (by omega) (by simp; omega) ?_))
      intro v' w2 hown' hgrow' _
      have HB2 : Hid (Below w.heap.size w w2) := (HBW.out.alloc (by omega) _).grown hgrow' (by simp; omega) (fun q hq => (World.ownsRow.lt HO1.out q hq).1)
      have HO2 : Hid (OwnI w.heap.size w2 v' (vs ++ [v])) := by
        show World.ownsRow _ _ _ _ _ _ _
        rw [List.length_append, HVL.out, List.map_append]
        exact hown'
      clear hown' hgrow'
      go_wp2_with fail
      go_roundw
      case rel =>
        refine ⟨k + 1, vs ++ [v], by omega, by go_num, by rw [List.length_append, HVL.out]; rfl, HO2, fun i h1 h2 => ?_, HB2.out⟩
        have hvl := HVL.out
        by_cases e : i = k
        · subst e
          have e2 : (vs ++ [v]).getD i 0 = v := by rw [List.getD_eq_getElem?_getD, List.getElem?_append_right (by omega), hvl]; simp
          rw [e2, HX.out]
          exact HRD.out
        · have e2 : (vs ++ [v]).getD i 0 = vs.getD i 0 := by rw [List.getD_eq_getElem?_getD, List.getD_eq_getElem?_getD, List.getElem?_append_left (by omega)]
          rw [e2]
          exact HR.out i h1 (by omega)
      case measure => simp [intOf]; omega
    · have : k = n := by omega
      subst this
      go_wp2_with fail
      go_ret
      exact ⟨_, _, rfl, HK.out, hvl, fun i h => HR.out i h (by omega), hbel⟩

theorem splS_sizes (c : UInt8) (s : ByteArray) : ∀ x ∈ splS c s, x.size ≤ s.size := by
  have h : ∀ (k : Nat) (l : List UInt8), ∀ x ∈ Lib.splitK [c] 0 k l, x.length ≤ l.length := by
    intro k
    induction k with
    | zero => intro l x hx; rw [List.mem_singleton.1 hx]; exact Nat.le_refl _
    | succ k ih =>
      intro l x hx
      have e : Lib.splitK [c] 0 (k + 1) l = if Lib.index l [c] == -1 then [l] else l.take ((Lib.index l [c]).toNat + 0) :: Lib.splitK [c] 0 k (l.drop ((Lib.index l [c]).toNat + [c].length)) := rfl
      rw [e] at hx
      split at hx
      · rw [List.mem_singleton.1 hx]; exact Nat.le_refl _
      · rcases List.mem_cons.1 hx with rfl | hx
        · rw [List.length_take]; omega
        · have := ih _ x hx
          rw [List.length_drop] at this
          omega
  intro x hx
  unfold splS at hx
  obtain ⟨y, hy, rfl⟩ := List.mem_map.1 hx
  rw [bt8_size, Lib.size_eq]
  exact h _ _ y hy

/-- values are read: where they are some, as these -/
def ReadsV (s : ByteArray) (vs : List Int) : Prop := ∀ l : List Int, l ≠ [] → l.all in32 = true → s = bt8 (valsT l) → vs = l
theorem readsV_of {s : ByteArray} {vs : List Int} (hl : vs.length = (splS 44 s).length) (h : ∀ i, (h : i < (splS 44 s).length) → Reads (splS 44 s)[i] (vs.getD i 0)) : ReadsV s vs := by
  intro l hne hin e
  have e1 : splS 44 s = l.map fun x => bt8 (Lib.itoa x) := by
    unfold splS
    rw [e, bt8_list, valsT_spl l hne, List.map_map]
    rfl
  have hl2 : vs.length = l.length := by rw [hl, e1, List.length_map]
  refine List.ext_getElem hl2 fun i h1 h2 => ?_
  have hi : i < (splS 44 s).length := by omega
  have hx := h i hi l[i] (by
    have := List.all_eq_true.1 hin l[i] (List.getElem_mem _)
    simp [in32] at this
    omega) (by
    have := List.all_eq_true.1 hin l[i] (List.getElem_mem _)
    simp [in32] at this
    omega) (by
    have e2 : (splS 44 s)[i]? = (l.map fun x => bt8 (Lib.itoa x))[i]? := by rw [e1]
    rw [List.getElem?_eq_getElem hi, List.getElem?_map, List.getElem?_eq_getElem h2] at e2
    exact Option.some.inj e2)
  rw [getD_at h1] at hx
  exact hx

set_option maxHeartbeats 800000 in
set_option maxRecDepth 100000 in
theorem valuesIn_any (s : ByteArray) (w : World) (hT : TbG w) (hs : s.size ≤ 1048576) :
    Calls Tryz.prog 51 #[.string s] w fun e w' => ∃ u vs, e = .returned u ∧ OwnI w.heap.size w' u vs ∧ vs.length ≤ 1048577 ∧ ReadsV s vs ∧ Below w.heap.size w w' := by
  by_cases hd : s = ⟨#[45]⟩
  · have HV : Hid (ReadsV s []) := fun l hne hin e => by
      rw [hd] at e
      exact absurd (bt8_inj (a := [45]) e).symm valsT_dash
    subst hd
    go_enter Tryz.func51, Tryz.ntmps51
    go_wp2_with fail
    go_ret
    exact ⟨_, [], rfl, OwnI.nil _ _, by simp, HV.out, Below.refl _ _⟩
  · have hd' : (s.toList == [45]) = false := by
      simp only [beq_eq_false_iff_ne, ne_eq]
      intro e; exact hd (by rw [Lib.toList_data] at e; rw [← bt8_of s, e]; rfl)
    have HSP := hidOf (split_any s 44 w hT hs)
    have HTB := hidOf hT
    have hlen := splS_len 44 s
    have HSZ := hidOf (splS_sizes 44 s)
    clear hd hT
    go_enter Tryz.func51, Tryz.ntmps51
    go_wp2_with fail
    refine HSP.out.mono ?_
    rintro e w1 ⟨b, n, rfl, hz, hb1⟩
    have hn := hz.1
    have HL := hidOf (listOfNum_any w1.heap.size _ n n _ w1 (HTB.out.up hb1) (Nat.le_refl _) (by omega) hz (fun x hx => Nat.le_trans (HSZ.out x hx) hs))
    have HB1 := hidOf hb1
    clear hz hb1
    go_wp2_with fail
    refine HL.out.mono ?_
    rintro e w2 ⟨u, vs, rfl, hu, hvl, hrd, hb2⟩
    have HU := hidOf hu
    have HV := hidOf (readsV_of (by omega) hrd)
    have HB2 := hidOf (HB1.out.trans (hb2.mono HB1.out.size))
    have hsz1 := HB1.out.size
    clear hu hrd hb2
    go_wp2_with fail
    go_ret
    exact ⟨_, vs, rfl, HU.out.low hsz1, by omega, HV.out, HB2.out⟩
end Go.Proofs.YtjmgfpldjccilaaGreatDoor
