/- The model's l7GetVals. -/
import Derived.Test.YtjmgfpldjccilaaGreatDoorEvNumM
import Derived.Test.YtjmgfpldjccilaaGreatDoorOwnJ
import Derived.Deep.Slices
import Derived.WideShapes
namespace Go.Proofs.YtjmgfpldjccilaaGreatDoor
open Go Go.RowKit Go.PlainAid Go.Deep Go.WideShapes
set_option linter.unusedSimpArgs false
set_option linter.unusedVariables false

theorem own_apart {w : World} {B B' : Nat} {e e' : TypeId} {s s' : Nat} {v v' : Value} {n n' : Nat} {xs xs' : List Value} (h : w.ownsRow B e s v n xs) (h' : w.ownsRow B' e' s' v' n' xs') (hne : e ≠ e') : v.ownBlock = none ∨ v.ownBlock ≠ v'.ownBlock := by
  rcases h.2 with ⟨h1, _⟩ | ⟨g, cap, cur, h1, _, h3, _⟩
  · exact .inl (by rw [h1]; rfl)
  · refine .inr fun e0 => ?_
    rcases h'.2 with ⟨g1, _⟩ | ⟨g', cap', cur', g1, _, g3, _⟩
    · rw [h1, g1] at e0
      cases e0
    · rw [h1, g1] at e0
      have e1 : g = g' := Option.some.inj e0
      subst e1
      rw [h3] at g3
      exact hne (Obj.cells.inj (Option.some.inj g3)).2.1
/-- a text is read as a number of 32 bits -/
def Reads32 (s : ByteArray) (v : Int) : Prop := ∀ n : Int, in32 n = true → s = bt8 (Lib.itoa n) → v = n
/-- values are read: where they are few, as these -/
def ReadsM (s : ByteArray) (vs : List Int) : Prop := ∀ l : List Int, l ≠ [] → l.length ≤ 3 → l.all in32 = true → s = bt8 (valsT l) → vs = l
theorem readsM_of {s : ByteArray} {vs : List Int} (hl : vs.length = (cutS 44 3 s).length) (h : ∀ i, (h : i < (cutS 44 3 s).length) → Reads32 (cutS 44 3 s)[i] (vs.getD i 0)) : ReadsM s vs := by
  intro l hne h3 hin e
  have e1 : cutS 44 3 s = l.map fun x => bt8 (Lib.itoa x) := by
    unfold cutS
    rw [e, bt8_list, valsT_cut l 3 hne (by omega), List.map_map]
    rfl
  have hl2 : vs.length = l.length := by rw [hl, e1, List.length_map]
  refine List.ext_getElem hl2 fun i h1 h2 => ?_
  have hi : i < (cutS 44 3 s).length := by omega
  have hx := h i hi l[i] (List.all_eq_true.1 hin l[i] (List.getElem_mem _)) (by
    have e2 : (cutS 44 3 s)[i]? = (l.map fun x => bt8 (Lib.itoa x))[i]? := by rw [e1]
    rw [List.getElem?_eq_getElem hi, List.getElem?_map, List.getElem?_eq_getElem h2] at e2
    exact Option.some.inj e2)
  rw [getD_at h1] at hx
  exact hx

set_option maxHeartbeats 3200000 in
set_option maxRecDepth 100000 in
theorem l7GetVals_any (s : ByteArray) (w : World) (hs : s.size ≤ 1048576) :
    Calls Tryz.prog 55 #[.string s] w fun e w' => ∃ u vs, e = .returned u ∧ OwnI w.heap.size w' u vs ∧ vs.length ≤ 4 ∧ ReadsM s vs ∧ Below w.heap.size w w' := by
  obtain ⟨i0, hi, hz0, hz1, hz2⟩ := info_parts infoInt
  by_cases hd : s = ⟨#[45]⟩
  · have HV : Hid (ReadsM s []) := fun l hne _ hin e => by
      rw [hd] at e
      exact absurd (bt8_inj (a := [45]) e).symm valsT_dash
    subst hd
    go_enter Tryz.func55, Tryz.ntmps55
    go_wp2_with fail
    go_ret
    exact ⟨_, [], rfl, OwnI.nil _ _, by simp, HV.out, Below.refl _ _⟩
  · have hd' : (s.toList == [45]) = false := by
      simp only [beq_eq_false_iff_ne, ne_eq]
      intro e; exact hd (by rw [Lib.toList_data] at e; rw [← bt8_of s, e]; rfl)
    have HSP := hidOf (fun W => l1Cut_any s 44 3 W hs (by decide))
    have hlen := cutS_len 44 3 s
    have HSZ := hidOf (cutS_sizes 44 3 s)
    have HVV : Hid (∀ vs, vs.length = (cutS 44 3 s).length → (∀ i, (h : i < (cutS 44 3 s).length) → Reads32 (cutS 44 3 s)[i] (vs.getD i 0)) → ReadsM s vs) := fun vs h1 h2 => readsM_of h1 h2
    obtain ⟨L, hL⟩ : ∃ L, cutS 44 3 s = L := ⟨_, rfl⟩
    rw [hL] at HSP hlen HSZ HVV
    clear hd hL
    go_enter Tryz.func55, Tryz.ntmps55
    go_wp2_with fail
    refine (HSP.out _).mono ?_
    rintro e w1 ⟨lu, rfl, hlo, hb1⟩
    have HB1 : Hid (Below w.heap.size w w1) := ((Below.refl _ _).alloc (Nat.le_refl _) _).trans (hb1.mono (by simp))
    have HU1 : Hid (OwnI w.heap.size w1 (.slice (some ⟨w.heap.size, 0, none⟩) 0 0) []) := (show OwnI w.heap.size (w.alloc _) _ [] from World.ownsRow_made w #[] 0 (Nat.le_refl _) (Nat.zero_le _) rfl).keep hb1
    have hlo' : OwnS w.heap.size w1 lu L := World.ownsRow.mono hlo (by simp)
    obtain ⟨n0, hn0⟩ : ∃ n, L.length = n := ⟨_, rfl⟩
    obtain ⟨b, lc, hlu, hlc⟩ : ∃ g c, lu = .slice (some ⟨g, 0, none⟩) n0 c ∧ n0 ≤ c := by
      rcases hlo'.2 with ⟨_, h2⟩ | ⟨g, cap, cur, h1, _, _, h4, _⟩
      · omega
      · exact ⟨g, cap, by rw [h1, hn0], by omega⟩
    subst hlu
    have HLO := hidOf hlo'
    have HN := hidOf hn0
    rw [hn0] at hlen
    clear hb1 hlo hlo' hn0
    go_wp2_with fail
    go_loopw [3, 5] (fun u i wr => ∃ (k : Nat) (vs : List Int), k ≤ n0 ∧ i = .int .i64 k ∧ vs.length = k ∧ Hid (OwnI w.heap.size wr u vs) ∧ Hid (OwnS w.heap.size wr (.slice (some ⟨b, 0, none⟩) n0 lc) L) ∧ Hid (∀ i, (h : i < L.length) → i < k → Reads32 L[i] (vs.getD i 0)) ∧ Below w.heap.size w wr) (fun _ i _ => n0 - (intOf i).toNat)
    case atStart => exact ⟨0, [], Nat.zero_le _, rfl, rfl, HU1, HLO, fun i _ h => absurd h (Nat.not_lt_zero _), HB1.out⟩
    case round =>
      obtain ⟨k, vs, hk, rfl, hvl, HK, HS, HR, hbel⟩ := hrel
      by_cases hlt : k < n0
      · have hkl : k < L.length := by rw [HN.out]; exact hlt
        have hc0 : wr.cell? ⟨b, k, none⟩ = some (.string (L[k]'hkl)) := by
          have := World.ownsRow.cells HS.out (g := b) rfl k (.string (L[k]'hkl)) (by simp [hkl])
          rw [add_plain, Nat.zero_add] at this
          exact this
        have hb : b < wr.heap.size := World.block_lt_of_cell? wr _ hc0
        have hws := hbel.size
        have hxs := Nat.le_trans (HSZ.out _ (List.getElem_mem hkl)) hs
        obtain ⟨x, hx⟩ : ∃ x, L[k]'hkl = x := ⟨_, rfl⟩
        have HX := hidOf hx
        rw [hx] at hc0 hxs
        have how := HK.out
        unfold OwnI at how
        rw [hvl] at how
        have HOW := hidOf how
        have HCL := hidOf (fun W => l7Long_any x W hxs)
        have HVL := hidOf hvl
        clear how hx hvl
        go_wp2_with fail
        refine (HCL.out _).mono ?_
        rintro e w1' ⟨v, rfl, hrd, hw⟩
        rw [hw]
        clear hw w1'
        have HRD := hidOf hrd
        clear hrd
        go_wp2_with (at_builtin; (refine wpList_append_own _ rfl (.tmp 17) (.tmp 23) 24 rfl w.heap.size 3 i0 (.int .i64 0) 1 8 Tryz.underlying24 hi hz0 hz1 hz2 rfl (by decide) _ k (vs.map (Value.int .i64)) rfl (by exact (HOW.out.alloc _)) ⟨wr.heap.size, 0, none⟩ 1 1 [.int .i64 v] rfl rfl (by exact one_new _ _ _) (by intro u hu; simp at hu; subst hu; rfl) (by unfold maxLen; omega) (by omega) (by simp; omega) ?_))
        intro v' w2 hown' hgrow' _
        have HB2 : Hid (Below w.heap.size w w2) := (hbel.alloc (by omega) _).grown hgrow' (by simp; omega) (fun q hq => (World.ownsRow.lt HOW.out q hq).1)
        have HS2 : Hid (OwnS w.heap.size w2 (.slice (some ⟨b, 0, none⟩) n0 lc) L) := World.ownsRow.kept (HS.out.alloc _) hgrow' (own_apart HS.out HOW.out (by decide))
        have HO2 : Hid (OwnI w.heap.size w2 v' (vs ++ [v])) := by
          show World.ownsRow _ _ _ _ _ _ _
          rw [List.length_append, HVL.out, List.map_append]
          exact hown'
        clear hown' hgrow'
        go_wp2_with fail
        go_roundw
        case rel =>
          refine ⟨k + 1, vs ++ [v], by omega, by go_num, by rw [List.length_append, HVL.out]; rfl, HO2, HS2, fun i h1 h2 => ?_, HB2.out⟩
          have hvl := HVL.out
          by_cases e : i = k
          · subst e
            have e2 : (vs ++ [v]).getD i 0 = v := by rw [List.getD_eq_getElem?_getD, List.getElem?_append_right (by omega), hvl]; simp
            rw [e2, HX.out]
            exact HRD.out
          · have e2 : (vs ++ [v]).getD i 0 = vs.getD i 0 := by rw [List.getD_eq_getElem?_getD, List.getD_eq_getElem?_getD, List.getElem?_append_left (by omega)]
            rw [e2]
            exact HR.out i h1 (by omega)
        case measure => simp [intOf]; omega
      · have : k = n0 := by omega
        subst this
        have HF := hidOf (HVV.out vs (by rw [hvl, HN.out]) (fun i h => HR.out i h (by rw [← HN.out]; exact h)))
        go_wp2_with fail
        go_ret
        exact ⟨_, vs, rfl, HK.out, by omega, HF.out, hbel⟩
end Go.Proofs.YtjmgfpldjccilaaGreatDoor
