/- What a block asks for, as data; the model's l21Reads. -/
import Derived.Test.YtchemhjcknkbgaaGreatDoorBunY34
import Derived.Test.YtchemhjcknkbgaaGreatDoorInstImpl
import Derived.Maps.OwnSet
import Derived.StringKeys
import Derived.Test.YtchemhjcknkbgaaGreatDoorBunY36
import Derived.Test.YtchemhjcknkbgaaGreatDoorBunY1
namespace Go.Proofs.YtchemhjcknkbgaaGreatDoor
open Go Go.RowKit Go.PlainAid
set_option linter.unusedSimpArgs false
set_option linter.unusedVariables false

/-- the nodes of a text; none, if it is no sum -/
def ndsM (s : ByteArray) : List Nd := (getM s).getD []
theorem wtSt_parts (s : St) : s.moves.length ≤ wtSt s ∧ wsum wtMo s.moves ≤ wtSt s ∧ s.acts.length ≤ wtSt s ∧ wsum wtAc s.acts ≤ wtSt s := by unfold wtSt; omega
theorem wtMo_cond (m : Mo) : m.cond.size ≤ wtMo m := by unfold wtMo; omega
theorem wtAc_sum (a : Ac) : a.sum.size ≤ wtAc a := by unfold wtAc; omega
theorem bk_sums {x : Bk} (h : wtBk x ≤ 1048576) : ∀ s ∈ x.states, s.moves.length ≤ 1048576 ∧ s.acts.length ≤ 1048576 ∧ (∀ m ∈ s.moves, m.cond.size ≤ 1048576) ∧ ∀ a ∈ s.acts, a.sum.size ≤ 1048576 := by
  intro s hs
  have p8 := (wtBk_parts h).2.2.2.2.2.2.2.2.1
  have h1 := wsum_mem (f := wtSt) hs
  obtain ⟨q1, q2, q3, q4⟩ := wtSt_parts s
  refine ⟨by omega, by omega, fun m hm => ?_, fun a ha => ?_⟩
  · have h2 := wsum_mem (f := wtMo) hm
    have := wtMo_cond m
    omega
  · have h2 := wsum_mem (f := wtAc) ha
    have := wtAc_sum a
    omega
def isNm (x : Nd) : Bool := decide (x.1 = 2)
/-- names of nodes -/
def nmsOf (l : List Nd) : List ByteArray := (l.filter isNm).map fun x => x.2.2
def readsM (s : ByteArray) : List ByteArray := nmsOf (ndsM s)
def sumsSt (s : St) : List ByteArray := s.moves.map Mo.cond ++ s.acts.map Ac.sum
def sumsM (x : Bk) : List ByteArray := x.states.flatMap sumsSt
/-- whether a name stands in one of some sums -/
def askB (l : List ByteArray) (y : ByteArray) : Bool := l.any fun s => (readsM s).any fun z => decide (z = y)
def needsM (x : Bk) : List ByteArray := if checkM x = 0 then (namesM x).filter (askB (sumsM x)) else []
theorem ndsM_len (s : ByteArray) : (ndsM s).length ≤ 24 := by
  unfold ndsM
  cases h : getM s with
  | none => simp
  | some l => exact getM_len h
theorem ndsM_small (s : ByteArray) : ∀ x ∈ ndsM s, x.2.2.size ≤ 60 := by
  unfold ndsM
  cases h : getM s with
  | none => simp
  | some l => exact getM_names h
theorem nmsOf_len (l : List Nd) : (nmsOf l).length ≤ l.length := by
  unfold nmsOf
  rw [List.length_map]
  exact List.length_filter_le _ _
theorem nmsOf_take (l : List Nd) {k : Nat} (h : k < l.length) : nmsOf (l.take (k + 1)) = nmsOf (l.take k) ++ if isNm l[k] then [l[k].2.2] else [] := by
  unfold nmsOf
  rw [List.take_succ_eq_append_getElem h, List.filter_append, List.map_append]
  congr 1
  by_cases e : isNm l[k]
  · rw [if_pos e, List.filter_cons_of_pos e]; rfl
  · rw [if_neg e, List.filter_cons_of_neg e]; rfl
theorem mem_nmsOf {l : List Nd} {y : ByteArray} : y ∈ nmsOf l ↔ ∃ x ∈ l, isNm x = true ∧ x.2.2 = y := by
  unfold nmsOf
  simp [and_assoc]
theorem addM_append (o a b : List ByteArray) : addM o (a ++ b) = addM (addM o a) b := by unfold addM; rw [List.foldl_append]
theorem readsM_small {s : ByteArray} : ∀ y ∈ readsM s, y.size ≤ 60 := by
  intro y hy
  obtain ⟨x, hx, _, rfl⟩ := mem_nmsOf.1 hy
  exact ndsM_small s x hx
theorem readsM_len (s : ByteArray) : (readsM s).length ≤ 24 := Nat.le_trans (nmsOf_len _) (ndsM_len s)

theorem needs_step (f : ByteArray → Bool) (l : List ByteArray) {k : Nat} (h : k < l.length) : (l.take (k + 1)).filter f = (l.take k).filter f ++ if f l[k] then [l[k]] else [] := by
  rw [List.take_succ_eq_append_getElem h, List.filter_append]
  congr 1
  by_cases e : f l[k]
  · rw [if_pos e, List.filter_cons_of_pos e]; rfl
  · rw [if_neg e, List.filter_cons_of_neg e]; rfl
theorem OwnS.far {B : Nat} {w : World} {a : Option Addr} {n c : Nat} {l : List ByteArray} (h : OwnS B w (.slice a n c) l) : n = l.length ∧ (n = 0 ∨ ∃ q off, a = some ⟨q, off, none⟩ ∧ B ≤ q ∧ q < w.heap.size ∧ ∀ i, (h : i < l.length) → w.cell? ⟨q, off + i, none⟩ = some (.string l[i])) := by
  obtain ⟨a', c', e, hc', hz, hown⟩ := h.form
  cases e
  refine ⟨rfl, ?_⟩
  rcases hz.2 with h0 | ⟨q, off, rfl, hlt, hc⟩
  · exact .inl h0
  · exact .inr ⟨q, off, rfl, (World.ownsRow.lt h q (hown q off rfl)).1, hlt, hc⟩

set_option maxHeartbeats 1600000 in
set_option maxRecDepth 100000 in
theorem l21Reads_any (s : ByteArray) (w : World) (hs : s.size ≤ 1048576) :
    Calls Tryz.prog 32 #[.string s] w fun e w' => ∃ u, e = .returned u ∧ OwnS w.heap.size w' u (addM [] (readsM s)) ∧ Below w.heap.size w w' := by
  have HG2 : Hid (Calls Tryz.prog 67 #[.string s] w fun e w' => ∃ a1 c1 b, e = .returned (.tuple #[.slice a1 (ndsM s).length c1, .bool b]) ∧ IsNds w'.heap.size w' a1 (ndsM s).length (ndsM s) ∧ Below w.heap.size w w') := by
    refine (l1Get_any s w hs).mono ?_
    rintro e w1 ⟨v, b, rfl, h1, h2, hb1⟩
    unfold ndsM
    cases h : getM s with
    | none =>
      obtain ⟨rfl, rfl⟩ := h1 h
      exact ⟨none, 0, false, rfl, ⟨rfl, .inl rfl⟩, hb1⟩
    | some l =>
      obtain ⟨rfl, ho⟩ := h2 l h
      obtain ⟨a1, c1, rfl, hi⟩ := ho.nds'
      exact ⟨a1, c1, true, rfl, hi, hb1⟩
  have h24 := ndsM_len s
  have HSM := hidOf (ndsM_small s)
  have HR : Hid (readsM s = nmsOf (ndsM s)) := rfl
  obtain ⟨R, hR⟩ : ∃ R, readsM s = R := ⟨_, rfl⟩
  rw [hR] at HR ⊢
  obtain ⟨l, hl⟩ : ∃ l, ndsM s = l := ⟨_, rfl⟩
  rw [hl] at HG2 h24 HSM HR
  clear hR hl
  obtain ⟨n, hn⟩ : ∃ n, l.length = n := ⟨_, rfl⟩
  rw [hn] at HG2 h24
  have HN := hidOf hn
  clear hn
  go_enter Tryz.func32, Tryz.ntmps32
  go_wp2_with fail
  refine HG2.out.mono ?_
  rintro e w1 ⟨a1, c1, bo, rfl, hi1, hb1⟩
  have HI1 := hidOf hi1
  have HB1 := hidOf hb1
  have hs1 := hb1.size
  clear hi1 hb1 HG2
  go_wp2_with fail
  go_loopw [5, 6] (fun u i wr => ∃ k : Nat, k ≤ n ∧ i = .int .i64 k ∧ Hid (OwnS w1.heap.size wr u (addM [] (nmsOf (l.take k)))) ∧ Below w1.heap.size w1 wr) (fun _ i _ => n - (intOf i).toNat)
  case atStart => exact ⟨0, Nat.zero_le _, rfl, World.ownsRow_made w1 #[] 0 (Nat.le_refl _) (Nat.zero_le _) rfl, (Below.refl _ _).alloc (Nat.le_refl _) _⟩
  case round =>
    obtain ⟨k, hk, rfl, HK, hbel⟩ := hrel
    by_cases hlt : k < n
    · have hkl : k < l.length := by have := HN.out; omega
      rcases (HI1.out.below hbel).2 with h0 | ⟨b, off, rfl, hb, hcell⟩
      · omega
      obtain ⟨k0, k1, k2⟩ := hcell k hkl
      have hws := hbel.size
      have hbr : b < wr.heap.size := by omega
      have ht := nmsOf_take l hkl
      have hsz := HSM.out _ (List.getElem_mem hkl)
      have hcl := nmsOf_len (l.take k)
      rw [List.length_take] at hcl
      have hcs : ∀ y ∈ addM [] (nmsOf (l.take k)), y.size ≤ 1048576 := by
        intro y hy
        rcases mem_addM.1 hy with h | h
        · simp at h
        · obtain ⟨x, hx, _, rfl⟩ := mem_nmsOf.1 h
          have := HSM.out x (List.mem_of_mem_take hx)
          omega
      have hal := addM_len [] (nmsOf (l.take k))
      simp only [List.length_nil] at hal
      obtain ⟨⟨x0, x1, x2⟩, hx⟩ : ∃ x, l[k] = x := ⟨_, rfl⟩
      rw [hx] at k0 k1 k2 ht hsz
      simp only at k0 k1 k2 ht hsz
      have HLT : Hid (∀ q, u5.ownBlock = some q → q < wr.heap.size) := fun q hq => (World.ownsRow.lt HK.out q hq).2
      obtain ⟨cur, hcur⟩ : ∃ cur, addM [] (nmsOf (l.take k)) = cur := ⟨_, rfl⟩
      have HL : Hid (Calls Tryz.prog 31 #[u5, .slice (some ⟨wr.heap.size, 0, none⟩) 1 1] (wr.alloc (.cells #[.string x2] 9)) fun e w' => ∃ v', e = .returned v' ∧ OwnS w1.heap.size w' v' (addM cur [x2]) ∧ Gr u5 (wr.alloc (.cells #[.string x2] 9)) w' v') := by
        refine l3Add_any w1.heap.size u5 cur (some ⟨wr.heap.size, 0, none⟩) 1 1 [x2] _ (by simp; omega) ?_ ⟨rfl, .inr ⟨_, 0, rfl, by simp, fun i hi => ?_⟩⟩ ?_ (by rw [hcur] at hal; simp; omega) (by rw [← hcur]; exact hcs) (by intro y hy; simp at hy; subst hy; omega)
        · rw [← hcur]; exact HK.out.keep ((Below.refl _ _).alloc (Nat.le_refl _) _)
        · have : i = 0 := by simp at hi; omega
          subst this
          simp
        · intro q o e _
          cases e
          intro e2
          have := HLT.out _ e2.symm
          omega
      rw [hcur] at HK
      clear hcell hx hcs
      by_cases hx0 : x0 = 2
      · subst hx0
        have HT : Hid (addM [] (nmsOf (l.take (k + 1))) = addM cur [x2]) := by
          show _ = _
          rw [ht, if_pos (by simp [isNm]), addM_append, hcur]
        clear ht hcur hal hcl
        go_wp2_with fail
        refine HL.out.mono ?_
        rintro e w4 ⟨v', rfl, o4, g4⟩
        have HO4 := hidOf o4
        have HB4 : Hid (Below w1.heap.size w1 w4) := hbel.trans ((Gr.alloc0 g4).below hws (fun q hq => (World.ownsRow.lt HK.out q hq).1))
        clear o4 g4
        go_wp2_with fail
        go_roundw
        case rel => exact ⟨k + 1, by omega, by go_num, by show OwnS _ _ _ _; rw [HT.out]; exact HO4.out, HB4.out⟩
        case measure => simp [intOf]; omega
      · have hx1 : (x0 == 2) = false := by simp [hx0]
        have HT : Hid (addM [] (nmsOf (l.take (k + 1))) = cur) := by
          show _ = _
          rw [ht, if_neg (by simp [isNm, hx0]), List.append_nil, hcur]
        clear ht hcur hal hcl
        go_wp2_with fail
        go_roundw
        case rel => exact ⟨k + 1, by omega, by go_num, by show OwnS _ _ _ _; rw [HT.out]; exact HK.out, hbel⟩
        case measure => simp [intOf]; omega
    · have : k = n := by omega
      subst this
      have e : nmsOf (l.take k) = R := by rw [HR.out, List.take_of_length_le (by have := HN.out; omega)]
      rw [e] at HK
      go_wp2_with fail
      go_ret
      exact ⟨_, rfl, HK.out.low hs1, HB1.out.trans (hbel.mono hs1)⟩
end Go.Proofs.YtchemhjcknkbgaaGreatDoor

/- The program's those at names, by whether they stand in a set. -/
namespace Go.Proofs.YtchemhjcknkbgaaGreatDoor
open Go Go.RowKit Go.PlainAid Go.Maps Go.WideMaps
set_option linter.unusedSimpArgs false
set_option linter.unusedVariables false

def kLit (s : ByteArray) : Lit := .string s.data.toList
theorem kLit_inj {s t : ByteArray} (h : kLit s = kLit t) : s = t := by
  unfold kLit at h
  injection h with h
  exact ByteArray.ext (Array.toList_inj.1 h)
/-- block b is a set of names, at most n, of just those that P says -/
def SetIs (w : World) (b n : Nat) (P : ByteArray → Bool) : Prop := ∃ D, w.ownsMap Tryz.prog 9 (unitElem (H := Unit)) b n D ∧ Maps.IsMap D ∧ ∀ s, Maps.has D (kLit s) = P s
theorem SetIs.below {w w' : World} {b n : Nat} {P : ByteArray → Bool} (h : SetIs w b n P) (hb : Below w.heap.size w w') : SetIs w' b n P := by
  obtain ⟨D, ho, hm, hp⟩ := h
  exact ⟨D, ho.kept (row := none) ⟨hb.os, hb.tape, hb.output, hb.size, fun i hi _ => hb.block i hi⟩ (by simp), hm, hp⟩
theorem SetIs.lt {w : World} {b n : Nat} {P : ByteArray → Bool} (h : SetIs w b n P) : b < w.heap.size := by
  obtain ⟨D, ho, _⟩ := h
  exact ho.lt
theorem lawK : Maps.Keyed Tryz.prog 9 := Maps.string_keyed Tryz.underlying9
theorem zeroU (w : World) : (zeroValue 79).run Tryz.prog w = .ok (.agg #[]) w := by kernel_rfl
theorem keyS {s : ByteArray} (h : s.size ≤ maxLen) : keyOf Tryz.prog 9 (.string s) = some (kLit s) := keyOf_string_mk Tryz.underlying9 h

set_option maxHeartbeats 800000 in
set_option maxRecDepth 100000 in
theorem needs1_any (s : ByteArray) (bx mb n : Nat) (P : ByteArray → Bool) (w : World) (hs : s.size ≤ 1048576) (hS : SetIs w mb n P) (hc : w.cell? ⟨bx, 0, none⟩ = some (.map (some mb))) :
    Calls Tryz.prog 42 #[.string s, .pointer (some ⟨bx, 0, none⟩)] w fun e w' => e = .returned (.bool (P s)) ∧ Below w.heap.size w w' := by
  obtain ⟨D, ho, hm, hp⟩ := hS
  have HK : Hid (keyOf Tryz.prog 9 (.string s) = some (kLit s)) := keyS (by unfold maxLen; omega)
  have HP := hidOf (hp s)
  obtain ⟨R, hR⟩ : ∃ b, P s = b := ⟨_, rfl⟩
  rw [hR] at HP ⊢
  have HO := hidOf ho
  clear hp hR ho hm
  go_enter Tryz.func42, Tryz.ntmps42
  go_wp2_with (first
    | (at_lookup; refine wpList_lookup_own_unit _ rfl _ _ 76 rfl 9 79 lawK Tryz.underlying76 (zeroU _) mb n D rfl HO.out _ _ rfl HK.out ?_; rw [HP.out])
    | go_in)
  go_ret
  exact ⟨rfl, by go_grown⟩

set_option maxHeartbeats 1600000 in
set_option maxRecDepth 100000 in
theorem thoseS_any (B : Nat) (a : Option Addr) (n c : Nat) (l : List ByteArray) (bx : Nat) (P : ByteArray → Bool) (w : World) (hB : B ≤ w.heap.size) (hn : n ≤ 1048576) (hls : ∀ y ∈ l, y.size ≤ 1048576) (hz : IsStrs B w a n l)
    (HC : ∀ W s, s.size ≤ 1048576 → Below w.heap.size w W → Calls Tryz.prog 42 #[.string s, .pointer (some ⟨bx, 0, none⟩)] W fun e w' => e = .returned (.bool (P s)) ∧ Below W.heap.size W w') :
    Calls Tryz.prog 40 #[.slice a n c, .func (Fn.func 42) #[] #[.pointer (some ⟨bx, 0, none⟩)]] w fun e w' => ∃ u, e = .returned u ∧ OwnS w.heap.size w' u (l.filter P) ∧ Below w.heap.size w w' := by
  obtain ⟨i0, hi, hz0, hz1, hz2⟩ := info_parts infoStr'
  have hlen := hz.1
  have HZ := hidOf hz
  have HLS := hidOf hls
  have HCC := hidOf HC
  clear hz hls HC
  go_enter Tryz.func40, Tryz.ntmps40
  go_wp2_with fail
  go_loopw [5, 10] (fun u i wr => ∃ k : Nat, k ≤ n ∧ i = .int .i64 k ∧ Hid (OwnS w.heap.size wr u ((l.take k).filter P)) ∧ Hid (Below w.heap.size w wr)) (fun _ i _ => n - (intOf i).toNat)
  case atStart => exact ⟨0, Nat.zero_le _, rfl, ⟨rfl, .inl ⟨rfl, rfl⟩⟩, Below.refl _ _⟩
  case round =>
    obtain ⟨k, hk, rfl, HK, HB⟩ := hrel
    by_cases hlt : k < n
    · have hkl : k < l.length := by omega
      rcases (HZ.out.below (HB.out.mono hB)).2 with h0 | ⟨b, off, rfl, hb, hcell⟩
      · omega
      have c0 := hcell k hkl
      have hbr : b < wr.heap.size := by have := HB.out.size; omega
      have HST := hidOf (needs_step P l hkl)
      have hys := HLS.out _ (List.getElem_mem hkl)
      have hfl : ((l.take k).filter P).length ≤ k := by
        have := List.length_filter_le P (l.take k)
        rw [List.length_take] at this
        omega
      obtain ⟨y, hy⟩ : ∃ y, l[k] = y := ⟨_, rfl⟩
      rw [hy] at c0 HST hys
      have HE := hidOf (HCC.out wr y hys HB.out)
      obtain ⟨R, hR⟩ : ∃ b, P y = b := ⟨_, rfl⟩
      rw [hR] at HE HST
      obtain ⟨F, hF⟩ : ∃ F, (l.take k).filter P = F := ⟨_, rfl⟩
      rw [hF] at HK HST hfl
      have hws := HB.out.size
      clear hcell hy hR hF
      cases R with
      | false =>
        rw [if_neg (by simp), List.append_nil] at HST
        go_wp2_with fail
        refine HE.out.mono ?_
        rintro e w1 ⟨rfl, b1⟩
        have HB1 : Hid (Below w.heap.size w w1) := HB.out.trans (b1.mono HB.out.size)
        have HK1 := hidOf (HK.out.keep b1)
        clear b1
        go_wp2_with fail
        go_roundw
        case rel => exact ⟨k + 1, by omega, by go_num, by show OwnS _ _ _ _; rw [HST.out]; exact HK1.out, HB1⟩
        case measure => simp [intOf]; omega
      | true =>
        rw [if_pos rfl] at HST
        obtain ⟨m, hm⟩ : ∃ m, F.length = m := ⟨_, rfl⟩
        have HM := hidOf hm
        rw [hm] at hfl
        go_wp2_with fail
        refine HE.out.mono ?_
        rintro e w1 ⟨rfl, b1⟩
        have HB1 : Hid (Below w.heap.size w w1) := HB.out.trans (b1.mono HB.out.size)
        have hk1 := HK.out.keep b1
        unfold OwnS at hk1
        rw [hm] at hk1
        have HO1 := hidOf hk1
        have hs1 := HB1.out.size
        clear b1 hk1 hm
        go_wp2_with (at_builtin; (refine wpList_append_own _ rfl (.tmp 17) (.tmp 19) 28 rfl w.heap.size 9 i0 (.string ByteArray.empty) 1 16 Tryz.underlying28 hi hz0 hz1 hz2 rfl (by decide) _ m (F.map Value.string) rfl (by exact (HO1.out.alloc _)) ⟨w1.heap.size, 0, none⟩ 1 1 [.string y] rfl rfl (by exact one_new _ _ _) (by intro u hu; simp at hu; subst hu; rfl) (by unfold maxLen; omega) (by omega) (by simp; omega) ?_))
        intro v' w2 hown' hgrow' _
        have HB2 : Hid (Below w.heap.size w w2) := (HB1.out.alloc (by omega) _).grown hgrow' (by simp; omega) (fun q hq => (World.ownsRow.lt HO1.out q hq).1)
        have HO2 : Hid (OwnS w.heap.size w2 v' (F ++ [y])) := by
          show World.ownsRow _ _ _ _ _ _ _
          rw [List.length_append, HM.out, List.map_append]
          exact hown'
        clear hown' hgrow'
        go_wp2_with fail
        go_roundw
        case rel => exact ⟨k + 1, by omega, by go_num, by show OwnS _ _ _ _; rw [HST.out]; exact HO2.out, HB2⟩
        case measure => simp [intOf]; omega
    · have hkn : k = n := by omega
      subst hkn
      rw [List.take_of_length_le (by omega)] at HK
      go_wp2_with fail
      go_ret
      exact ⟨_, rfl, HK.out, HB.out⟩
end Go.Proofs.YtchemhjcknkbgaaGreatDoor

/- The program's listOf at sums of moves and acts. -/
namespace Go.Proofs.YtchemhjcknkbgaaGreatDoor
open Go Go.RowKit Go.PlainAid
set_option linter.unusedSimpArgs false
set_option linter.unusedVariables false

theorem sumsOf1_any (y0 y1 y2 : ByteArray) (w : World) : Calls Tryz.prog 134 #[.agg #[.string y0, .string y1, .string y2]] w fun e w' => e = .returned (.string y1) ∧ Below w.heap.size w w' := by
  go_enter Tryz.func134, Tryz.ntmps134
  go_wp2
  go_ret
  refine ⟨rfl, ?_⟩
  go_grown
set_option maxHeartbeats 1600000 in
set_option maxRecDepth 100000 in
theorem listOfMoveSum_any (B : Nat) (a : Option Addr) (n c : Nat) (l : List Mo) (w : World) (hB : B ≤ w.heap.size) (hn : n ≤ 1048576) (hz : IsArr 3 QMo B w a n l) :
    Calls Tryz.prog 133 #[.slice a n c, .func (Fn.func 134) #[] #[]] w fun e w' => ∃ u, e = .returned u ∧ OwnS w.heap.size w' u (l.map Mo.cond) ∧ Below w.heap.size w w' := by
  obtain ⟨i0, hi, hz0, hz1, hz2⟩ := info_parts infoStr'
  have hlen := hz.1
  have HZ := hidOf hz
  clear hz
  go_enter Tryz.func133, Tryz.ntmps133
  go_wp2_with fail
  go_loopw [5, 10] (fun u i wr => ∃ k : Nat, k ≤ n ∧ i = .int .i64 k ∧ Hid (OwnS w.heap.size wr u ((l.take k).map Mo.cond)) ∧ Below w.heap.size w wr) (fun _ i _ => n - (intOf i).toNat)
  case atStart => exact ⟨0, Nat.zero_le _, rfl, ⟨rfl, .inl ⟨rfl, rfl⟩⟩, Below.refl _ _⟩
  case round =>
    obtain ⟨k, hk, rfl, HK, hbel⟩ := hrel
    by_cases hlt : k < n
    · obtain ⟨b, off, cs, rfl, hb, hq, hcell⟩ := IsArr.at (HZ.out.below (QMo.lift (hbel.mono hB)) (hbel.mono hB)) hlt (show k < l.length by omega)
      have hws := hbel.size
      have hbr : b < wr.heap.size := by omega
      have ht : (l.take (k + 1)).map Mo.cond = (l.take k).map Mo.cond ++ [(l[k]'(by omega)).cond] := by rw [List.take_succ_eq_append_getElem (by omega), List.map_append]; rfl
      have hml : ((l.take k).map Mo.cond).length = k := by simp; omega
      obtain ⟨x, hx⟩ : ∃ x, l[k]'(by omega) = x := ⟨_, rfl⟩
      rw [hx] at hq ht
      unfold QMo at hq
      subst hq
      have c0 : wr.cell? ⟨b, off + k * 3, none⟩ = some (.string x.event) := hcell 0 _ rfl
      have c1 : wr.cell? ⟨b, off + k * 3 + 1, none⟩ = some (.string x.cond) := hcell 1 _ rfl
      have c2 : wr.cell? ⟨b, off + k * 3 + 1 + 1, none⟩ = some (.string x.to) := hcell 2 _ rfl
      have HT := hidOf ht
      have how := HK.out
      unfold OwnS at how
      rw [hml] at how
      have HOW := hidOf how
      have HCL := hidOf (fun W => sumsOf1_any x.event x.cond x.to W)
      clear how hcell hx ht
      go_wp2_with fail
      refine (HCL.out _).mono ?_
      rintro e w1 ⟨rfl, hb1⟩
      have hB1 : Below wr.heap.size wr w1 := ((Below.refl _ _).alloc (Nat.le_refl _) _).trans (hb1.mono (by simp))
      have HBW : Hid (Below w.heap.size w w1) := hbel.trans (hB1.mono hws)
      have HO1 := hidOf (own_of_block HOW.out (fun q hq => hB1.block q (World.ownsRow.lt HOW.out q hq).2))
      have hs1 := hB1.size
      clear hb1 hB1
      go_wp2_with (at_builtin; (refine wpList_append_own _ rfl (.tmp 14) (.tmp 18) 28 rfl w.heap.size 9 i0 (.string ByteArray.empty) 1 16 Tryz.underlying28 hi hz0 hz1 hz2 rfl (by decide) _ k (((l.take k).map Mo.cond).map Value.string) rfl (by exact (HO1.out.alloc _)) ⟨w1.heap.size, 0, none⟩ 1 1 [.string x.cond] rfl rfl (by exact one_new _ _ _) (by intro u hu; simp at hu; subst hu; rfl) (by unfold maxLen; omega) (by omega) (by simp; omega) ?_))
      intro v' w2 hown' hgrow' _
      have HB2 : Hid (Below w.heap.size w w2) := (HBW.out.alloc (by omega) _).grown hgrow' (by simp; omega) (fun q hq => (World.ownsRow.lt HO1.out q hq).1)
      have HO2 : Hid (OwnS w.heap.size w2 v' ((l.take k).map Mo.cond ++ [x.cond])) := by
        show World.ownsRow _ _ _ _ _ _ _
        rw [List.length_append, hml, List.map_append]
        have e : List.take k (List.map (Value.string ∘ Mo.cond) l) = ((l.take k).map Mo.cond).map Value.string := by simp [List.map_take]
        first
          | exact hown'
          | (rw [e] at hown'; exact hown')
      clear hown' hgrow'
      go_wp2_with fail
      go_roundw
      case rel => exact ⟨k + 1, by omega, by go_num, by show OwnS _ _ _ _; rw [HT.out]; exact HO2.out, HB2.out⟩
      case measure => simp [intOf]; omega
    · have : k = n := by omega
      subst this
      rw [List.take_of_length_le (by omega)] at HK
      go_wp2_with fail
      go_ret
      exact ⟨_, rfl, HK.out, hbel⟩

theorem sumsOf2_any (y0 : Int) (y1 y2 : ByteArray) (w : World) : Calls Tryz.prog 136 #[.agg #[.int .i64 y0, .string y1, .string y2]] w fun e w' => e = .returned (.string y2) ∧ Below w.heap.size w w' := by
  go_enter Tryz.func136, Tryz.ntmps136
  go_wp2
  go_ret
  refine ⟨rfl, ?_⟩
  go_grown
set_option maxHeartbeats 1600000 in
set_option maxRecDepth 100000 in
theorem listOfActSum_any (B : Nat) (a : Option Addr) (n c : Nat) (l : List Ac) (w : World) (hB : B ≤ w.heap.size) (hn : n ≤ 1048576) (hz : IsArr 3 QAc B w a n l) :
    Calls Tryz.prog 135 #[.slice a n c, .func (Fn.func 136) #[] #[]] w fun e w' => ∃ u, e = .returned u ∧ OwnS w.heap.size w' u (l.map Ac.sum) ∧ Below w.heap.size w w' := by
  obtain ⟨i0, hi, hz0, hz1, hz2⟩ := info_parts infoStr'
  have hlen := hz.1
  have HZ := hidOf hz
  clear hz
  go_enter Tryz.func135, Tryz.ntmps135
  go_wp2_with fail
  go_loopw [5, 10] (fun u i wr => ∃ k : Nat, k ≤ n ∧ i = .int .i64 k ∧ Hid (OwnS w.heap.size wr u ((l.take k).map Ac.sum)) ∧ Below w.heap.size w wr) (fun _ i _ => n - (intOf i).toNat)
  case atStart => exact ⟨0, Nat.zero_le _, rfl, ⟨rfl, .inl ⟨rfl, rfl⟩⟩, Below.refl _ _⟩
  case round =>
    obtain ⟨k, hk, rfl, HK, hbel⟩ := hrel
    by_cases hlt : k < n
    · obtain ⟨b, off, cs, rfl, hb, hq, hcell⟩ := IsArr.at (HZ.out.below (QAc.lift (hbel.mono hB)) (hbel.mono hB)) hlt (show k < l.length by omega)
      have hws := hbel.size
      have hbr : b < wr.heap.size := by omega
      have ht : (l.take (k + 1)).map Ac.sum = (l.take k).map Ac.sum ++ [(l[k]'(by omega)).sum] := by rw [List.take_succ_eq_append_getElem (by omega), List.map_append]; rfl
      have hml : ((l.take k).map Ac.sum).length = k := by simp; omega
      obtain ⟨x, hx⟩ : ∃ x, l[k]'(by omega) = x := ⟨_, rfl⟩
      rw [hx] at hq ht
      unfold QAc at hq
      subst hq
      have c0 : wr.cell? ⟨b, off + k * 3, none⟩ = some (.int .i64 x.kind) := hcell 0 _ rfl
      have c1 : wr.cell? ⟨b, off + k * 3 + 1, none⟩ = some (.string x.name) := hcell 1 _ rfl
      have c2 : wr.cell? ⟨b, off + k * 3 + 1 + 1, none⟩ = some (.string x.sum) := hcell 2 _ rfl
      have HT := hidOf ht
      have how := HK.out
      unfold OwnS at how
      rw [hml] at how
      have HOW := hidOf how
      have HCL := hidOf (fun W => sumsOf2_any x.kind x.name x.sum W)
      clear how hcell hx ht
      go_wp2_with fail
      refine (HCL.out _).mono ?_
      rintro e w1 ⟨rfl, hb1⟩
      have hB1 : Below wr.heap.size wr w1 := ((Below.refl _ _).alloc (Nat.le_refl _) _).trans (hb1.mono (by simp))
      have HBW : Hid (Below w.heap.size w w1) := hbel.trans (hB1.mono hws)
      have HO1 := hidOf (own_of_block HOW.out (fun q hq => hB1.block q (World.ownsRow.lt HOW.out q hq).2))
      have hs1 := hB1.size
      clear hb1 hB1
      go_wp2_with (at_builtin; (refine wpList_append_own _ rfl (.tmp 14) (.tmp 18) 28 rfl w.heap.size 9 i0 (.string ByteArray.empty) 1 16 Tryz.underlying28 hi hz0 hz1 hz2 rfl (by decide) _ k (((l.take k).map Ac.sum).map Value.string) rfl (by exact (HO1.out.alloc _)) ⟨w1.heap.size, 0, none⟩ 1 1 [.string x.sum] rfl rfl (by exact one_new _ _ _) (by intro u hu; simp at hu; subst hu; rfl) (by unfold maxLen; omega) (by omega) (by simp; omega) ?_))
      intro v' w2 hown' hgrow' _
      have HB2 : Hid (Below w.heap.size w w2) := (HBW.out.alloc (by omega) _).grown hgrow' (by simp; omega) (fun q hq => (World.ownsRow.lt HO1.out q hq).1)
      have HO2 : Hid (OwnS w.heap.size w2 v' ((l.take k).map Ac.sum ++ [x.sum])) := by
        show World.ownsRow _ _ _ _ _ _ _
        rw [List.length_append, hml, List.map_append]
        have e : List.take k (List.map (Value.string ∘ Ac.sum) l) = ((l.take k).map Ac.sum).map Value.string := by simp [List.map_take]
        first
          | exact hown'
          | (rw [e] at hown'; exact hown')
      clear hown' hgrow'
      go_wp2_with fail
      go_roundw
      case rel => exact ⟨k + 1, by omega, by go_num, by show OwnS _ _ _ _; rw [HT.out]; exact HO2.out, HB2.out⟩
      case measure => simp [intOf]; omega
    · have : k = n := by omega
      subst this
      rw [List.take_of_length_le (by omega)] at HK
      go_wp2_with fail
      go_ret
      exact ⟨_, rfl, HK.out, hbel⟩
end Go.Proofs.YtchemhjcknkbgaaGreatDoor

/- The program's sumsOf: all texts of sums of a block. -/
namespace Go.Proofs.YtchemhjcknkbgaaGreatDoor
open Go Go.RowKit Go.PlainAid
set_option linter.unusedSimpArgs false
set_option linter.unusedVariables false

theorem wpList_append_fromG {P : Program} {w : World} {ops : Array Oper} {rest : List Oper} {o : Oper} {a : Act} {Q : Exit → Act → World → Prop} (hgd : o.guard = none) (s x : Operand) (t : TypeId)
    (ho : o.op = .call { callee := .builtin .append, args := #[s, x], argTypes := #[t, t] })
    (base : Nat) (e : TypeId) (i : TypeInfo) (z : Value) (size bytes : Nat) (ht : P.underlying t = some (.slice e)) (hi : P.info? e = some i) (hz : i.zero = some z)
    (hsize : i.size = size) (hby : i.bytes = bytes) (hzs : z.cells.size = size) (hsz : 0 < size)
    (v : Value) (n : Nat) (xs : List Value) (hs : a.eval s = v) (hown : w.ownsRow base e size v n xs)
    (ax : Option Addr) (m c : Nat) (news : List Value) (hx : a.eval x = .slice ax m c) (hl : news.length = m * size) (hsrc : m = 0 ∧ ax = none ∨ ∃ ad, ax = some ad ∧ ∀ j u, news[j]? = some u → w.cell? (ad.add j) = some u) (h1 : ∀ u ∈ news, u.oneCell' = true)
    (h63 : n + m ≤ maxLen) (hbytes : (n + m) * bytes ≤ 140737488355328) (hbase : base ≤ w.heap.size)
    (h : ∀ v' w', w'.ownsRow base e size v' (n + m) (xs ++ news) → w.grownBy w' v.ownBlock → wpList P ops Q rest (a.put o.dst v') w') : wpList P ops Q (o :: rest) a w := by
  rcases hsrc with ⟨rfl, rfl⟩ | ⟨ad, rfl, hnews⟩
  · have hn0 : news = [] := List.eq_nil_of_length_eq_zero (by simpa using hl)
    subst hn0
    obtain ⟨b0, cp, hv, hle⟩ : ∃ b0 cp, v = .slice b0 n cp ∧ n ≤ cp := by
      rcases hown.2 with ⟨h1, h2⟩ | ⟨g, cp, cur, h1, _, _, h4, _⟩
      · exact ⟨none, 0, by rw [h1, h2], by omega⟩
      · exact ⟨_, cp, h1, h4⟩
    refine wpList_plain hgd fun K hK' => ?_
    have hrun := run_append_nothing (P := P) w t t o.type e i ht hi b0 n cp hle (.slice none 0 c) (by rw [hsize]; exact Src.ofNil w ht c)
    rw [← hv] at hrun
    unfold Oper.wp
    simp [execOp, ho, resolve, invoke, builtin, hs, hx, hrun, Result.andThen]
    exact hK' _ _ (h v w (by simpa using hown) (World.grownBy.refl _ _))
  · refine wpList_append_own w hgd s x t ho base e i z size bytes ht hi hz hsize hby hzs hsz v n xs hs hown ad m c news hx hl hnews h1 h63 hbytes hbase ?_
    intro v' w' h2 h3 _
    exact h v' w' h2 h3

theorem OwnS.src {B : Nat} {w : World} {a : Option Addr} {n c : Nat} {l : List ByteArray} (h : OwnS B w (.slice a n c) l) : n = l.length ∧ (n = 0 ∧ a = none ∨ ∃ ad, a = some ad ∧ ∀ j u, (l.map Value.string)[j]? = some u → w.cell? (ad.add j) = some u) := by
  have h0 := h
  obtain ⟨h1, h2⟩ := h
  rcases h2 with ⟨hv, hn⟩ | ⟨g, cap, cur, hv, h3⟩
  · cases hv
    exact ⟨hn.symm, .inl ⟨rfl, rfl⟩⟩
  · cases hv
    refine ⟨rfl, .inr ⟨_, rfl, fun j u hu => ?_⟩⟩
    have hj : j < (l.map Value.string).length := (List.getElem?_eq_some_iff.1 hu).1
    rw [WideShapes.add_plain, Nat.zero_add, World.ownsRow.cellAt h0 j (by simpa using hj)]
    exact hu
theorem sums_step (x : Bk) {k : Nat} (h : k < x.states.length) : (x.states.take (k + 1)).flatMap sumsSt = ((x.states.take k).flatMap sumsSt ++ x.states[k].moves.map Mo.cond) ++ x.states[k].acts.map Ac.sum := by
  rw [List.take_succ_eq_append_getElem h, List.flatMap_append, List.flatMap_cons, List.flatMap_nil, List.append_nil, List.append_assoc]
  rfl
theorem sums_len (l : List St) : (l.flatMap sumsSt).length ≤ wsum wtSt l := by
  induction l with
  | nil => simp [wsum]
  | cons s r ih =>
    rw [List.flatMap_cons, List.length_append]
    have e : wsum wtSt (s :: r) = wtSt s + wsum wtSt r := by simp [wsum]
    have : (sumsSt s).length = s.moves.length + s.acts.length := by simp [sumsSt]
    have h1 : s.moves.length + s.acts.length ≤ wtSt s := by unfold wtSt; omega
    omega
theorem sums_take_len (l : List St) (k : Nat) : ((l.take k).flatMap sumsSt).length ≤ wsum wtSt l := Nat.le_trans (sums_len _) (wsum_le wtSt l k)

set_option maxHeartbeats 3200000 in
set_option maxRecDepth 100000 in
theorem sumsOf_any (B : Nat) (v : BkV) (x : Bk) (w : World) (hB : B ≤ w.heap.size) (hwt : wtBk x ≤ 1048576) (hx : IsBk B w v x) :
    Calls Tryz.prog 82 #[v.val x.name] w fun e w' => ∃ u, e = .returned u ∧ OwnS w.heap.size w' u (sumsM x) ∧ Below w.heap.size w w' := by
  obtain ⟨i0, hi, hz0, hz1, hz2⟩ := info_parts infoStr'
  obtain ⟨p0, p1, p2, p3, p4, p5, p6, p7, p8, p9⟩ := wtBk_parts hwt
  have HX := hidOf hx
  have HQS : Hid (∀ W, Below w.heap.size w W → IsArr 3 QSt B W v.at_ v.nt x.states) := fun W hb => (HX.out.below (hb.mono hB)).states
  have HLT : Hid (x.states.length = v.nt) := hx.states.1
  have HW8 := hidOf p8
  have hnt : v.nt ≤ 1048576 := by have := HLT.out; omega
  have HSS : Hid (∀ s ∈ x.states, s.moves.length ≤ 1048576 ∧ s.acts.length ≤ 1048576) := fun s hs => ⟨(bk_sums hwt s hs).1, (bk_sums hwt s hs).2.1⟩
  clear hx HX hwt p0 p1 p2 p3 p4 p5 p6 p7 p8 p9
  obtain ⟨ai, ni, ci, ao, no, co, av, nv, cv, at_, nt, ct⟩ := v
  obtain ⟨xn, hxn⟩ : ∃ n, x.name = n := ⟨_, rfl⟩
  simp only [BkV.val] at HQS HLT hnt ⊢
  rw [hxn]
  clear hxn
  have BX0 := hidOf (boxAt_new w [.string xn, .slice ai ni ci, .slice ao no co, .slice av nv cv, .slice at_ nt ct] 34)
  have HB0 : Hid (Below w.heap.size w (w.alloc (.cells #[.string xn, .slice ai ni ci, .slice ao no co, .slice av nv cv, .slice at_ nt ct] 34))) := (Below.refl _ _).alloc (Nat.le_refl _) _
  go_enter Tryz.func82, Tryz.ntmps82
  go_wp2_with fail
  go_loopw [3, 9] (fun u i wr => ∃ k : Nat, k ≤ nt ∧ i = .int .i64 k ∧ Hid (OwnS w.heap.size wr u ((x.states.take k).flatMap sumsSt)) ∧ Hid (Below w.heap.size w wr)) (fun _ i _ => nt - (intOf i).toNat)
  case atStart => exact ⟨0, Nat.zero_le _, rfl, ⟨rfl, .inl ⟨rfl, rfl⟩⟩, HB0⟩
  case round =>
    obtain ⟨k, hk, rfl, HK, HB⟩ := hrel
    by_cases hlt : k < nt
    · have hkl : k < x.states.length := by have h1 : x.states.length = nt := HLT.out; omega
      obtain ⟨sb, soff, cs, rfl, hsb, hq, hcell⟩ := IsArr.at (HQS.out w (Below.refl _ _)) hlt hkl
      obtain ⟨ma, mn, mc, ra, rn, rc, rfl, q1, q2, q3, q4, q5, q6⟩ := hq
      have hsbw : sb < w.heap.size := by omega
      have hsbr : sb < wr.heap.size := by have := HB.out.size; omega
      have hss := HSS.out _ (List.getElem_mem hkl)
      have lm := q5.1
      have lr := q6.1
      have HST := hidOf (sums_step x hkl)
      have hl1 := sums_take_len x.states (k + 1)
      have hw8 := HW8.out
      rw [HST.out, List.length_append, List.length_append, List.length_map, List.length_map] at hl1
      have hws := HB.out.size
      have HM : Hid (∀ W, Below w.heap.size w W → Calls Tryz.prog 133 #[.slice ma mn mc, .func (Fn.func 134) #[] #[]] W fun e w' => ∃ u, e = .returned u ∧ OwnS W.heap.size w' u (x.states[k].moves.map Mo.cond) ∧ Below W.heap.size W w') := fun W hb => listOfMoveSum_any B ma mn mc _ W (by have := hb.size; omega) (by omega) (q5.below (QMo.lift (hb.mono hB)) (hb.mono hB))
      have HA : Hid (∀ W, Below w.heap.size w W → Calls Tryz.prog 135 #[.slice ra rn rc, .func (Fn.func 136) #[] #[]] W fun e w' => ∃ u, e = .returned u ∧ OwnS W.heap.size w' u (x.states[k].acts.map Ac.sum) ∧ Below W.heap.size W w') := fun W hb => listOfActSum_any B ra rn rc _ W (by have := hb.size; omega) (by omega) (q6.below (QAc.lift (hb.mono hB)) (hb.mono hB))
      obtain ⟨sn, hsn⟩ : ∃ n, x.states[k].name = n := ⟨_, rfl⟩
      rw [hsn] at hcell
      obtain ⟨ML, hML⟩ : ∃ l, x.states[k].moves.map Mo.cond = l := ⟨_, rfl⟩
      obtain ⟨AL, hAL⟩ : ∃ l, x.states[k].acts.map Ac.sum = l := ⟨_, rfl⟩
      obtain ⟨PL, hPL⟩ : ∃ l, (x.states.take k).flatMap sumsSt = l := ⟨_, rfl⟩
      rw [← List.length_map (f := Mo.cond), hML, hPL] at hl1
      rw [← List.length_map (f := Ac.sum), hAL] at hl1
      rw [hPL] at HK HST
      rw [hML] at HM HST
      rw [hAL] at HA HST
      have s0 : wr.cell? ⟨sb, soff + k * 3, none⟩ = some (.string sn) := (HB.out.cell (p := ⟨sb, soff + k * 3, none⟩) hsbw).trans (hcell 0 _ rfl)
      have s1 : wr.cell? ⟨sb, soff + k * 3 + 1, none⟩ = some (.slice ma mn mc) := (HB.out.cell (p := ⟨sb, soff + k * 3 + 1, none⟩) hsbw).trans (hcell 1 _ rfl)
      have s2 : wr.cell? ⟨sb, soff + k * 3 + 1 + 1, none⟩ = some (.slice ra rn rc) := (HB.out.cell (p := ⟨sb, soff + k * 3 + 1 + 1, none⟩) hsbw).trans (hcell 2 _ rfl)
      clear hcell hsn hML hAL hPL q1 q2 q3 q4 q5 q6 hss lm lr hsb
      have BX := hidOf (boxAt_new wr [.string sn, .slice ma mn mc, .slice ra rn rc] 65)
      have HBX : Hid (Below wr.heap.size wr (wr.alloc (.cells #[.string sn, .slice ma mn mc, .slice ra rn rc] 65))) := (Below.refl _ _).alloc (Nat.le_refl _) _
      go_wp2_with fail
      refine (HM.out _ (HB.out.trans (HBX.out.mono hws))).mono ?_
      rintro e w1 ⟨u1, rfl, o1, b1⟩
      have HB1 : Hid (Below wr.heap.size wr w1) := HBX.out.trans (b1.mono HBX.out.size)
      obtain ⟨a1, c1, e1, _⟩ := o1.form
      subst e1
      obtain ⟨_, hsrc1⟩ := o1.src
      have HSRC1 := hidOf hsrc1
      have BX1 := hidOf (BX.out.below b1)
      have d0 : w1.cell? ⟨wr.heap.size, 0, none⟩ = some (.string sn) := (BX1.out.2 0 _ rfl).1
      have d1 : w1.cell? ⟨wr.heap.size, 1, none⟩ = some (.slice ma mn mc) := (BX1.out.2 1 _ rfl).1
      have d2 : w1.cell? ⟨wr.heap.size, 2, none⟩ = some (.slice ra rn rc) := (BX1.out.2 2 _ rfl).1
      have dx : wr.heap.size < w1.heap.size := BX1.out.1
      obtain ⟨pn, hpn⟩ : ∃ n, PL.length = n := ⟨_, rfl⟩
      obtain ⟨mm, hmm⟩ : ∃ n, ML.length = n := ⟨_, rfl⟩
      obtain ⟨am, ham⟩ : ∃ n, AL.length = n := ⟨_, rfl⟩
      rw [hpn, hmm, ham] at hl1
      rw [hmm] at HSRC1 ⊢
      have hk1 := HK.out.keep HB1.out
      unfold OwnS at hk1
      rw [hpn] at hk1
      have HO1 := hidOf hk1
      have HML : Hid ((ML.map Value.string).length = mm * 1) := by show _ = _; simp [hmm]
      have HAL : Hid ((AL.map Value.string).length = am * 1) := by show _ = _; simp [ham]
      have HPN := hidOf hpn
      have HMN := hidOf hmm
      have HAN := hidOf ham
      have HBw1 : Hid (Below w.heap.size w w1) := HB.out.trans (HB1.out.mono hws)
      have hs1 : w.heap.size ≤ w1.heap.size := HBw1.out.size
      have h63 : pn + mm ≤ maxLen := by unfold maxLen; omega
      have hby : (pn + mm) * 16 ≤ 140737488355328 := by omega
      clear hsrc1 o1 b1 hk1 hpn hmm ham BX HBX HM s0 s1 s2
      go_wp2_with (at_builtin; refine wpList_append_fromG rfl (.tmp 13) (.tmp 16) 28 rfl w.heap.size 9 i0 (.string ByteArray.empty) 1 16 Tryz.underlying28 hi hz0 hz1 hz2 rfl (by decide) _ pn (PL.map Value.string) rfl HO1.out a1 mm c1 (ML.map Value.string) rfl HML.out HSRC1.out (by intro u hu; obtain ⟨y, _, rfl⟩ := List.mem_map.1 hu; rfl) h63 hby hs1 ?_)
      intro v2 w2 own2 g2
      have hox : some wr.heap.size ≠ u3.ownBlock := fun e => by have := (World.ownsRow.lt HK.out _ e.symm).2; omega
      have BX2 : Hid (BoxAt wr.heap.size [.string sn, .slice ma mn mc, .slice ra rn rc] w2) := ⟨Nat.lt_of_lt_of_le dx g2.size, fun jj u hu => ⟨(World.cell?_of_block (g2.block _ dx hox)).trans (BX1.out.2 jj u hu).1, (World.frozen?_of_block (g2.block _ dx hox)).trans (BX1.out.2 jj u hu).2⟩⟩
      have HO2 : Hid (OwnS w.heap.size w2 v2 (PL ++ ML)) := by
        show World.ownsRow _ _ _ _ _ _ _
        rw [List.length_append, HPN.out, HMN.out, List.map_append]
        exact own2
      have HBw2 : Hid (Below w.heap.size w w2) := HBw1.out.grown g2 hs1 (fun q hq => (World.ownsRow.lt HO1.out q hq).1)
      have HB2 : Hid (w1.heap.size ≤ w2.heap.size) := g2.size
      clear own2 g2 d0 d1 d2 dx HSRC1 HML hox
      have d0 : w2.cell? ⟨wr.heap.size, 0, none⟩ = some (.string sn) := (BX2.out.2 0 _ rfl).1
      have d1 : w2.cell? ⟨wr.heap.size, 1, none⟩ = some (.slice ma mn mc) := (BX2.out.2 1 _ rfl).1
      have d2 : w2.cell? ⟨wr.heap.size, 2, none⟩ = some (.slice ra rn rc) := (BX2.out.2 2 _ rfl).1
      have dx : wr.heap.size < w2.heap.size := BX2.out.1
      go_wp2_with fail
      refine (HA.out _ HBw2.out).mono ?_
      rintro e w3 ⟨u4, rfl, o3, b3⟩
      obtain ⟨a3, c3, e3, _⟩ := o3.form
      subst e3
      obtain ⟨_, hsrc3⟩ := o3.src
      have HSRC3 := hidOf hsrc3
      have hk3 := HO2.out.keep b3
      unfold OwnS at hk3
      obtain ⟨pm, hpm⟩ : ∃ n, (PL ++ ML).length = n := ⟨_, rfl⟩
      have HPM := hidOf hpm
      have hpm2 : pm = pn + mm := by rw [← hpm, List.length_append, HPN.out, HMN.out]
      rw [hpm] at hk3
      rw [HAN.out] at HSRC3 ⊢
      have HO3 := hidOf hk3
      have HBw3 : Hid (Below w.heap.size w w3) := HBw2.out.trans (b3.mono HBw2.out.size)
      have hs3 : w.heap.size ≤ w3.heap.size := HBw3.out.size
      have h63' : pm + am ≤ maxLen := by unfold maxLen; omega
      have hby' : (pm + am) * 16 ≤ 140737488355328 := by omega
      clear hsrc3 o3 b3 hk3 hpm d0 d1 d2 dx HA
      go_wp2_with (at_builtin; refine wpList_append_fromG rfl (.tmp 18) (.tmp 21) 28 rfl w.heap.size 9 i0 (.string ByteArray.empty) 1 16 Tryz.underlying28 hi hz0 hz1 hz2 rfl (by decide) _ pm ((PL ++ ML).map Value.string) rfl HO3.out a3 am c3 (AL.map Value.string) rfl HAL.out HSRC3.out (by intro u hu; obtain ⟨y, _, rfl⟩ := List.mem_map.1 hu; rfl) h63' hby' hs3 ?_)
      intro v4 w4 own4 g4
      have HO4 : Hid (OwnS w.heap.size w4 v4 ((PL ++ ML) ++ AL)) := by
        show World.ownsRow _ _ _ _ _ _ _
        rw [List.length_append, HPM.out, HAN.out, List.map_append, List.map_append, List.append_assoc, hpm2]
        exact own4
      have HBw4 : Hid (Below w.heap.size w w4) := HBw3.out.grown g4 hs3 (fun q hq => (World.ownsRow.lt HO3.out q hq).1)
      clear own4 g4
      go_wp2_with fail
      go_roundw
      case rel => exact ⟨k + 1, by omega, by go_num, by show OwnS _ _ _ _; rw [HST.out]; exact HO4.out, HBw4⟩
      case measure => simp [intOf]; omega
    · have hkn : k = nt := by omega
      subst hkn
      have HE : Hid ((x.states.take k).flatMap sumsSt = sumsM x) := by show _ = _; rw [List.take_of_length_le (by have h1 : x.states.length = k := HLT.out; omega)]; rfl
      rw [HE.out] at HK
      go_wp2_with fail
      go_ret
      exact ⟨_, rfl, HK.out, HB.out⟩
end Go.Proofs.YtchemhjcknkbgaaGreatDoor

/- The program's namesAsked and ReachNeeds. -/
namespace Go.Proofs.YtchemhjcknkbgaaGreatDoor
open Go Go.RowKit Go.PlainAid Go.Maps Go.WideMaps
set_option linter.unusedSimpArgs false
set_option linter.unusedVariables false

/-- nodes in memory, in a block from L on -/
def NdsFar (L : Nat) (w : World) (a : Option Addr) (l : List Nd) : Prop := l.length = 0 ∨ ∃ q off, a = some ⟨q, off, none⟩ ∧ L ≤ q ∧ q < w.heap.size ∧ ∀ i, (h : i < l.length) → w.cell? ⟨q, off + i * 3, none⟩ = some (.int .i64 l[i].1) ∧ w.cell? ⟨q, off + i * 3 + 1, none⟩ = some (.int .i64 l[i].2.1) ∧ w.cell? ⟨q, off + i * 3 + 1 + 1, none⟩ = some (.string l[i].2.2)
theorem OwnNd.far {B : Nat} {w : World} {v : Value} {l : List Nd} (h : OwnNd B w v l) : ∃ a c, v = .slice a l.length c ∧ NdsFar B w a l := by
  have h0 := h
  obtain ⟨h1, h2⟩ := h
  rcases h2 with ⟨hv, hn⟩ | ⟨g, cap, cur, hv, h3, h4, h5⟩
  · exact ⟨none, 0, by rw [hv, hn], .inl hn⟩
  · subst hv
    have hlt := World.ownsRow.lt h0 g rfl
    refine ⟨_, cap, rfl, .inr ⟨g, 0, rfl, hlt.1, hlt.2, fun i hi => ?_⟩⟩
    obtain ⟨e1, e2, e3⟩ := ndCells_at l i hi
    rw [Nat.zero_add]
    exact ⟨(World.ownsRow.cellAt h0 (i * 3) (by omega)).trans e1, (World.ownsRow.cellAt h0 (i * 3 + 1) (by omega)).trans e2, (World.ownsRow.cellAt h0 (i * 3 + 1 + 1) (by omega)).trans e3⟩
theorem readSum_nds (s : ByteArray) (w : World) (hs : s.size ≤ maxLen) (hg : Signs w) :
    Calls Tryz.prog 83 #[.string s] w fun e w' => ∃ a c b, e = .returned (.tuple #[.slice a (ndsM s).length c, .bool b]) ∧ NdsFar w.heap.size w' a (ndsM s) ∧ Below w.heap.size w w' := by
  refine (readSum_any s w hs hg).mono ?_
  rintro e w1 ⟨hb, h⟩
  unfold ndsM
  cases hm : getM s with
  | none =>
    rw [hm] at h
    exact ⟨none, 0, false, h, .inl rfl, hb⟩
  | some l =>
    rw [hm] at h
    obtain ⟨v, rfl, ho⟩ := h
    obtain ⟨a, c, rfl, hf⟩ := ho.far
    exact ⟨a, c, true, rfl, hf, hb⟩
theorem ask_step (L : List ByteArray) {k : Nat} (h : k < L.length) (y : ByteArray) : askB (L.take (k + 1)) y = (askB (L.take k) y || (readsM L[k]).any fun z => decide (z = y)) := by
  unfold askB
  rw [List.take_succ_eq_append_getElem h, List.any_append]
  simp
theorem SetIs.put {w' : World} {b n : Nat} {P Q : ByteArray → Bool} {D : DataW Unit} {s : ByteArray} (hm : Maps.IsMap D) (hp : ∀ t, Maps.has D (kLit t) = P t) (ho : w'.ownsMap Tryz.prog 9 (unitElem (H := Unit)) b n (D.put (kLit s) (.agg []))) (hq : ∀ t, Q t = (P t || decide (s = t))) : SetIs w' b n Q := by
  refine ⟨_, ho, hm.put _ _, fun t => ?_⟩
  rw [hq]
  by_cases e : s = t
  · subst e
    rw [Maps.has_put_same (k := kLit s) hm (by unfold kLit; exact trivial)]
    simp
  · rw [Maps.has_put_other (fun h => e (kLit_inj h).symm), hp]
    simp [e]

set_option maxHeartbeats 3200000 in
set_option maxRecDepth 100000 in
theorem namesAsked_any (B : Nat) (v : BkV) (x : Bk) (w : World) (hw : Tabs w) (hB : B ≤ w.heap.size) (hwt : wtBk x ≤ 1048576) (hx : IsBk B w v x) :
    Calls Tryz.prog 39 #[v.val x.name] w fun e w' => ∃ mb n, e = .returned (.map (some mb)) ∧ SetIs w' mb n (askB (sumsM x)) ∧ Below w.heap.size w w' := by
  have HX := hidOf hx
  have HS : Hid (∀ W, Below w.heap.size w W → Calls Tryz.prog 82 #[v.val x.name] W fun e w' => ∃ u, e = .returned u ∧ OwnS W.heap.size w' u (sumsM x) ∧ Below W.heap.size W w') := fun W hb => sumsOf_any B v x W (by have := hb.size; omega) hwt (HX.out.below (hb.mono hB))
  have HTB : Hid (∀ W, Below w.heap.size w W → Signs W) := fun W hb => (hw.below hb).1
  have hsl : (sumsM x).length ≤ 1048576 := by
    have := sums_len x.states
    have h2 := (wtBk_parts hwt).2.2.2.2.2.2.2.2.1
    unfold sumsM
    omega
  have hsm : ∀ s ∈ sumsM x, s.size ≤ maxLen := by
    intro s hs
    unfold sumsM at hs
    obtain ⟨t, ht, h⟩ := List.mem_flatMap.1 hs
    have h0 := bk_sums hwt t ht
    unfold sumsSt at h
    unfold maxLen
    rcases List.mem_append.1 h with h | h
    · obtain ⟨m, hm, rfl⟩ := List.mem_map.1 h
      have := h0.2.2.1 m hm
      omega
    · obtain ⟨a, ha, rfl⟩ := List.mem_map.1 h
      have := h0.2.2.2 a ha
      omega
  obtain ⟨SL, hSL⟩ : ∃ l, sumsM x = l := ⟨_, rfl⟩
  rw [hSL] at HS hsl hsm ⊢
  have HSM := hidOf hsm
  clear hSL hsm hx HX hwt hw
  obtain ⟨ai, ni, ci, ao, no, co, av, nv, cv, at_, nt, ct⟩ := v
  obtain ⟨xn, hxn⟩ : ∃ n, x.name = n := ⟨_, rfl⟩
  simp only [BkV.val] at HS ⊢
  rw [hxn] at HS ⊢
  clear hxn
  have hmm := @run_makeMap Tryz.prog
  obtain ⟨W0, hW0⟩ : ∃ W, (w.alloc (.cells #[.string xn, .slice ai ni ci, .slice ao no co, .slice av nv cv, .slice at_ nt ct] 34)).alloc (.map #[] 0) = W := ⟨_, rfl⟩
  have HB0 : Hid (Below w.heap.size w W0) := by show Below _ _ _; rw [← hW0]; exact ((Below.refl _ _).alloc (Nat.le_refl _) _).alloc (by simp) _
  have HM0 : Hid (SetIs W0 (w.heap.size + 1) 0 (fun _ => false)) := by
    show SetIs _ _ _ _
    rw [← hW0]
    have := World.ownsMap_made (H := Unit) (w.alloc (.cells #[.string xn, .slice ai ni ci, .slice ao no co, .slice av nv cv, .slice at_ nt ct] 34)) Tryz.prog 9 unitElem
    rw [show (w.alloc (.cells #[.string xn, .slice ai ni ci, .slice ao no co, .slice av nv cv, .slice at_ nt ct] 34)).heap.size = w.heap.size + 1 from by simp] at this
    exact ⟨_, this, Maps.isMap_empty, fun s => rfl⟩
  have hs0 : W0.heap.size = w.heap.size + 2 := by rw [← hW0]; simp
  have HW0 := hidOf hW0
  clear hW0
  go_enter Tryz.func39, Tryz.ntmps39
  go_wp2_with fail
  refine (HS.out _ (by first | exact HW0.out ▸ HB0.out | (rw [HW0.out]; exact HB0.out))).mono ?_
  rintro e w2 ⟨u, rfl, o2, b2⟩
  obtain ⟨au, cu, eu, _⟩ := o2.form
  subst eu
  rw [HW0.out] at o2 b2
  have HB2 : Hid (Below w.heap.size w w2) := HB0.out.trans (b2.mono (by omega))
  have HM2 := hidOf (HM0.out.below b2)
  have hs2 : w.heap.size + 2 ≤ w2.heap.size := by have := b2.size; omega
  have HU := hidOf o2.far.2
  obtain ⟨N, hN⟩ : ∃ N, SL.length = N := ⟨_, rfl⟩
  have HN := hidOf hN
  rw [hN] at hsl ⊢
  clear o2 b2 hN HS HM0 HW0
  go_wp2_with fail
  go_loopw [14] (fun i wr => ∃ k : Nat, k ≤ N ∧ i = .int .i64 k ∧ Hid (SetIs wr (w.heap.size + 1) (24 * k) (askB (SL.take k))) ∧ Hid (w2.grownBy wr (some (w.heap.size + 1)))) (fun i _ => N - (intOf i).toNat)
  case atStart => exact ⟨0, Nat.zero_le _, rfl, HM2, World.grownBy.refl _ _⟩
  case round =>
    obtain ⟨k, hk, rfl, HM, HG⟩ := hrel
    have HBw : Hid (Below w.heap.size w wr) := HB2.out.grown HG.out HB2.out.size (fun q hq => by cases hq; omega)
    by_cases hlt : k < N
    · have hkl : k < SL.length := by have := HN.out; omega
      rcases HU.out with h0 | ⟨q, off, rfl, hq1, hq2, hcell⟩
      · have := HN.out; omega
      have c0 : wr.cell? ⟨q, off + k, none⟩ = some (.string SL[k]) := (World.cell?_of_block (HG.out.block q hq2 (by intro e; cases e; omega))).trans (hcell k hkl)
      have hqr : q < wr.heap.size := Nat.lt_of_lt_of_le hq2 HG.out.size
      have HRS := hidOf (readSum_nds SL[k] wr (HSM.out _ (List.getElem_mem hkl)) (HTB.out wr HBw.out))
      have HST := hidOf (ask_step SL hkl)
      have h24 := ndsM_len SL[k]
      have HRM : Hid (readsM SL[k] = nmsOf (ndsM SL[k])) := rfl
      have HS6 := hidOf (ndsM_small SL[k])
      obtain ⟨s, hs⟩ : ∃ s, SL[k] = s := ⟨_, rfl⟩
      rw [hs] at c0 HRS HST h24 HRM HS6
      obtain ⟨l, hl⟩ : ∃ l, ndsM s = l := ⟨_, rfl⟩
      rw [hl] at HRS h24 HRM HS6
      rw [HRM.out] at HST
      obtain ⟨n, hn⟩ : ∃ n, l.length = n := ⟨_, rfl⟩
      have HNL := hidOf hn
      rw [hn] at HRS h24
      clear hcell hs hl hn HRM
      go_wp2_with fail
      refine HRS.out.mono ?_
      rintro e w3 ⟨a3, c3, bo, rfl, hf3, hb3⟩
      have HF3 := hidOf hf3
      have HB3 : Hid (Below w.heap.size w w3) := HBw.out.trans (hb3.mono HBw.out.size)
      have HM3 := hidOf (HM.out.below hb3)
      have HG3 : Hid (w2.grownBy w3 (some (w.heap.size + 1))) := HG.out.trans ⟨hb3.os, hb3.tape, hb3.output, hb3.size, fun i hi _ => hb3.block i hi⟩
      have hr3 : w.heap.size + 2 ≤ wr.heap.size := Nat.le_trans hs2 HG.out.size
      clear hf3 hb3 HRS HM HG HBw
      go_wp2_with fail
      clear c0
      go_loopw [25] (fun i wi => ∃ j : Nat, j ≤ n ∧ i = .int .i64 j ∧ Hid (SetIs wi (w.heap.size + 1) (24 * k + j) (fun t => askB (SL.take k) t || (nmsOf (l.take j)).any fun z => decide (z = t))) ∧ Hid (w3.grownBy wi (some (w.heap.size + 1)))) (fun i _ => n - (intOf i).toNat)
      case atStart =>
        refine ⟨0, Nat.zero_le _, rfl, ?_, World.grownBy.refl _ _⟩
        obtain ⟨D, d1, d2, d3⟩ := HM3.out
        exact ⟨D, d1, d2, fun t => by rw [d3]; simp [nmsOf]⟩
      case round =>
        obtain ⟨j, hj, rfl, HM, HGi⟩ := hrel
        by_cases hlj : j < n
        · have hjl : j < l.length := by have := HNL.out; omega
          rcases HF3.out with h0 | ⟨b, bo2, rfl, hb1, hb2, hnd⟩
          · omega
          obtain ⟨k0, k1, k2⟩ := hnd j hjl
          have hbr : b < wr.heap.size := Nat.lt_of_lt_of_le hb2 HGi.out.size
          have hbk : wr.heap[b]? = w3.heap[b]? := HGi.out.block b hb2 (by intro e; cases e; omega)
          have e0 := (World.cell?_of_block (a := ⟨b, bo2 + j * 3, none⟩) hbk).trans k0
          have e1 := (World.cell?_of_block (a := ⟨b, bo2 + j * 3 + 1, none⟩) hbk).trans k1
          have e2 := (World.cell?_of_block (a := ⟨b, bo2 + j * 3 + 1 + 1, none⟩) hbk).trans k2
          have hsz := HS6.out _ (List.getElem_mem hjl)
          have HNT := hidOf (nmsOf_take l hjl)
          obtain ⟨⟨x0, x1, x2⟩, hx⟩ : ∃ x, l[j] = x := ⟨_, rfl⟩
          rw [hx] at e0 e1 e2 hsz HNT
          simp only at e0 e1 e2 hsz HNT
          obtain ⟨D, d1, d2, d3⟩ := HM.out
          have HD1 := hidOf (d1.alloc (.cells #[.int .i64 x0, .int .i64 x1, .string x2] 121))
          have HD2 := hidOf d2
          have HD3 := hidOf d3
          have HKY : Hid (keyOf Tryz.prog 9 (.string x2) = some (kLit x2)) := keyS (by unfold maxLen; omega)
          have hnn : 24 * k + j < maxLen := by unfold maxLen; omega
          clear hnd k0 k1 k2 hbk hx d1 d2 d3
          have BX := hidOf (boxAt_new wr [.int .i64 x0, .int .i64 x1, .string x2] 121)
          by_cases hx0 : x0 = 2
          · subst hx0
            go_wp2_with (first
              | (at_mapUpdate; refine wpList_mapUpdate_own _ rfl _ _ _ 76 rfl 9 79 lawK Tryz.underlying76 (unitElem (H := Unit)) (w.heap.size + 1) (24 * k + j) D rfl HD1.out hnn _ _ (kLit x2) rfl rfl HKY.out _ [] unitElem_mk ?_)
              | go_in)
            intro w4 hown4 hgrow4
            have HS4 : Hid (SetIs w4 (w.heap.size + 1) (24 * k + (j + 1)) (fun t => askB (SL.take k) t || (nmsOf (l.take (j + 1))).any fun z => decide (z = t))) := by
              refine SetIs.put HD2.out HD3.out hown4 (fun t => ?_)
              rw [HNT.out, if_pos (by simp [isNm]), List.any_append, Bool.or_assoc]
              simp
            have HG4 : Hid (w3.grownBy w4 (some (w.heap.size + 1))) := (HGi.out.trans (World.grownBy_alloc _ _ _)).trans hgrow4
            clear hown4 hgrow4
            go_wp2_with fail
            go_roundw
            case rel => exact ⟨j + 1, by omega, by go_num, HS4, HG4⟩
            case measure => simp [intOf]; omega
          · have hx1 : (x0 == 2) = false := by simp [hx0]
            go_wp2_with fail
            go_roundw
            case rel =>
              refine ⟨j + 1, by omega, by go_num, ?_, HGi.out.trans (World.grownBy_alloc _ _ _)⟩
              refine ⟨D, HD1.out.mono (by omega), HD2.out, fun t => ?_⟩
              rw [HNT.out, if_neg (by simp [isNm, hx0]), List.append_nil]
              exact HD3.out t
            case measure => simp [intOf]; omega
        · have HE : Hid (l.take j = l) := by
            show _ = _
            have h1 : l.length = n := HNL.out
            exact List.take_of_length_le (by omega)
          rw [HE.out] at HM
          have HMk : Hid (SetIs wr (w.heap.size + 1) (24 * (k + 1)) (askB (SL.take (k + 1)))) := by
            obtain ⟨D, d1, d2, d3⟩ := HM.out
            exact ⟨D, d1.mono (by omega), d2, fun t => by rw [d3, HST.out]⟩
          go_wp2_with fail
          go_roundw
          case rel => exact ⟨k + 1, by omega, by go_num, HMk, HG3.out.trans HGi.out⟩
          case measure => simp [intOf]; omega
    · have hkn : k = N := by omega
      subst hkn
      have HE : Hid (SL.take k = SL) := List.take_of_length_le (by have := HN.out; omega)
      rw [HE.out] at HM
      go_wp2_with fail
      go_ret
      exact ⟨_, _, rfl, HM.out, HBw.out⟩
end Go.Proofs.YtchemhjcknkbgaaGreatDoor
