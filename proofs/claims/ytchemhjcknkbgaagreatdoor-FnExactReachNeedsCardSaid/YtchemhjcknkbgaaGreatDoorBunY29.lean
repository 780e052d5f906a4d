/- The program's sumOf, ExprPut and ExprGet: what they take for a sum is what the model takes for one. -/
import Derived.Test.YtchemhjcknkbgaaGreatDoorBunY26
import Derived.Test.YtchemhjcknkbgaaGreatDoorBunY13
import Derived.Test.YtchemhjcknkbgaaGreatDoorBunY23
import Derived.Test.YtchemhjcknkbgaaGreatDoorBunY27
import Derived.Test.YtchemhjcknkbgaaGreatDoorNodes
namespace Go.Proofs.YtchemhjcknkbgaaGreatDoor
open Go Go.RowKit Go.PlainAid
set_option linter.unusedSimpArgs false
set_option linter.unusedVariables false

/-- numbers of nodes are Go's -/
def Nums64 (l : List Nd) : Prop := ∀ x ∈ l, -9223372036854775808 ≤ x.2.1 ∧ x.2.1 ≤ 9223372036854775807
theorem below_up {B : Nat} {a b c : World} (h : Below B a b) (hB : B ≤ b.heap.size) (k : Below b.heap.size b c) : Below B a c := h.trans (k.mono hB)
theorem Tabs.up {w w' : World} (h : Tabs w) (hb : Below w.heap.size w w') : Tabs w' := h.below hb
theorem ReadPost.none' {w w' : World} {e : Ending} (h : ReadPost w none e w') : Below w.heap.size w w' ∧ e = .returned (.tuple #[.slice none 0 0, .bool false]) := h
theorem ReadPost.some' {w w' : World} {e : Ending} {l : List Nd} (h : ReadPost w (some l) e w') : Below w.heap.size w w' ∧ ∃ v, e = .returned (.tuple #[v, .bool true]) ∧ OwnNd w.heap.size w' v l := h

set_option maxHeartbeats 1600000 in
set_option maxRecDepth 100000 in
theorem sumOf_any (B0 : Nat) (a : Option Addr) (n cap : Nat) (l : List Nd) (w : World) (hw : Tabs w) (hn : n ≤ 1048576) (hB0 : B0 ≤ w.heap.size) (hsz : ∀ x ∈ l, x.2.2.size ≤ 1048576) (h64 : Nums64 l) (hz : IsNds B0 w a n l) :
    Calls Tryz.prog 215 #[.slice a n cap] w fun e w' => TreePost w (sumM l) e w' := by
  have hlen := hz.1
  have HZ : Hid (IsNds B0 w a n l) := hz
  have HW : Hid (Tabs w) := hw
  have HT : Hid (Calls Tryz.prog 236 #[.slice a n cap] w fun e w' => TreePost w (treeM l) e w') := treeOf_any B0 a n cap l w hn hB0 hsz hz
  obtain ⟨R, hR⟩ : ∃ R, sumM l = R := ⟨_, rfl⟩
  have HRR : Hid (sumM l = R) := hR
  rw [hR]
  clear hR hz hw hsz
  cases ht : treeM l with
  | none =>
    have hRn : R = none := by rw [← HRR.out]; unfold sumM; rw [ht]
    subst hRn
    rw [ht] at HT
    go_enter Tryz.func215, Tryz.ntmps215
    go_wp2_with fail
    refine HT.out.mono ?_
    rintro e w1 ⟨hb1, v, hv, rfl⟩
    rcases hv with rfl | ⟨tv, xv, rfl⟩
    · go_wp2_with fail
      go_ret2
      exact ⟨hb1, _, .inl rfl, rfl⟩
    · go_wp2_with fail
      go_ret2
      exact ⟨hb1, _, .inl rfl, rfl⟩
  | some t =>
    rw [ht] at HT
    obtain ⟨hwf, hl24⟩ := treeM_wf h64 ht
    have HTX : Hid (TextOk t) := text_ok t hwf (by omega)
    have hts := text_size t hwf
    have hRt : R = if getM (textT t) = some l then some t else none := by rw [← HRR.out]; unfold sumM; rw [ht]
    have HPV : Hid (partV t = .iface (partT t) (partX t)) := partV_eq t
    have HCM : Hid (∀ u, (callMethod (.iface (partT t) (partX t)) "loop.example/telltale/impl.text" #[]).run Tryz.prog u = .ok (.enter (textFn t) #[partX t]) u) := text_method t
    unfold TextOk at HTX
    have HRS : Hid (∀ w, Signs w → Calls Tryz.prog 83 #[.string (textT t)] w fun e w' => ReadPost w (getM (textT t)) e w') := fun w h => readSum_any (textT t) w (by unfold maxLen; omega) h
    obtain ⟨G, hG⟩ : ∃ G, getM (textT t) = G := ⟨_, rfl⟩
    have HG : Hid (getM (textT t) = G) := hG
    rw [hG] at HRS hRt
    clear ht hwf hG HRR h64
    go_enter Tryz.func215, Tryz.ntmps215
    go_wp2_with fail
    refine HT.out.mono ?_
    rintro e w1 ⟨hb1, rfl⟩
    have HB1 : Hid (Below w.heap.size w w1) := hb1
    have HW1 : Hid (Tabs w1) := HW.out.up hb1
    have hs1 := hb1.size
    have HX : Hid (Calls Tryz.prog (textFn t) #[partX t] w1 fun e w' => e = .returned (.string (textT t)) ∧ Below w1.heap.size w1 w') := HTX.out w1 HW1.out
    clear hb1 HT HTX
    rw [HPV.out]
    have HPT : Hid (partV t = .iface (partT t) (partX t)) := HPV.out
    generalize partX t = px at *
    generalize partT t = pt at *
    generalize textFn t = fn at *
    generalize hT : textT t = x at *
    clear hT
    go_wp2_with (refine wpList_invoke0 rfl (.tmp 15) _ _ rfl pt px fn rfl (HCM.out _) HX.out ?_)
    intro e w2 he hb2
    subst he
    refine ⟨_, rfl, ?_⟩
    have HB2 : Hid (Below w.heap.size w w2) := below_up HB1.out hs1 hb2
    have HW2 : Hid (Tabs w2) := HW1.out.up hb2
    have hs2 := hb2.size
    clear hb2 HX HCM
    go_wp2_with fail
    refine (HRS.out w2 HW2.out.signs).mono ?_
    intro e w3 hp
    cases G with
    | none =>
      obtain ⟨hb3, rfl⟩ := hp.none'
      rw [if_neg (by simp)] at hRt
      subst hRt
      have HB3 : Hid (Below w.heap.size w w3) := below_up HB2.out (by omega) hb3
      clear hb3 hp
      go_wp2_with fail
      go_ret2
      exact ⟨HB3.out, _, .inl rfl, rfl⟩
    | some l' =>
      obtain ⟨hb3, v, rfl, hown⟩ := hp.some'
      have hl' := getM_len HG.out
      have HB3 : Hid (Below w.heap.size w w3) := below_up HB2.out (by omega) hb3
      obtain ⟨a', cap', rfl, hi'⟩ := hown.is
      have HI' : Hid (IsNds w3.heap.size w3 a' l'.length l') := hi'
      have HI : Hid (IsNds w3.heap.size w3 a n l) := ((HZ.out.below (HB3.out.mono hB0)).mono (by have := hb3.size; omega))
      clear hb3 hp hown hi'
      have HE : Hid (Calls Tryz.prog 237 #[.slice a' l'.length cap', .slice a n cap] w3 fun e w' => e = .returned (.bool (decide (l' = l))) ∧ Below w3.heap.size w3 w') := eqNds_any w3.heap.size a' a l'.length n cap' cap l' l w3 (by omega) hn HI'.out HI.out
      obtain ⟨n', hn'⟩ : ∃ n', l'.length = n' := ⟨_, rfl⟩
      rw [hn'] at HE ⊢
      clear hn'
      have hs3 := HB3.out.size
      by_cases hll : l' = l
      · rw [if_pos (by rw [hll])] at hRt
        subst hRt
        have hd : decide (l' = l) = true := decide_eq_true hll
        rw [hd] at HE
        clear hd hll
        go_wp2_with (go_at_call 237; refine HE.out.mono ?_; rintro e w4 ⟨rfl, hb4⟩; have HB4 : Hid (Below w.heap.size w w4) := below_up HB3.out hs3 hb4; clear hb4)
        go_ret2
        exact ⟨HB4.out, by show _ = _; rw [HPT.out]; rfl⟩
      · rw [if_neg (by simpa using hll)] at hRt
        subst hRt
        have hd : decide (l' = l) = false := decide_eq_false hll
        rw [hd] at HE
        clear hd hll
        go_wp2_with (go_at_call 237; refine HE.out.mono ?_; rintro e w4 ⟨rfl, hb4⟩; have HB4 : Hid (Below w.heap.size w w4) := below_up HB3.out hs3 hb4; clear hb4)
        go_ret2
        exact ⟨HB4.out, _, .inl rfl, rfl⟩

theorem sumM_wf {l : List Nd} {t : Tree} (h64 : Nums64 l) (h : sumM l = some t) : Wf t ∧ t.nodes.length ≤ 24 := by
  unfold sumM at h
  split at h
  · cases h
  · rename_i t' he
    split at h
    · cases h; exact treeM_wf h64 he
    · cases h

set_option maxHeartbeats 800000 in
set_option maxRecDepth 100000 in
theorem implPut_any (B0 : Nat) (a : Option Addr) (n cap : Nat) (l : List Nd) (w : World) (hw : Tabs w) (hn : n ≤ 1048576) (hB0 : B0 ≤ w.heap.size) (hsz : ∀ x ∈ l, x.2.2.size ≤ 1048576) (h64 : Nums64 l) (hz : IsNds B0 w a n l) :
    Calls Tryz.prog 228 #[.slice a n cap] w fun e w' => e = .returned (.string (putM l)) ∧ Below w.heap.size w w' := by
  rw [putM_sumM]
  have HW : Hid (Tabs w) := hw
  have HT : Hid (Calls Tryz.prog 215 #[.slice a n cap] w fun e w' => TreePost w (sumM l) e w') := sumOf_any B0 a n cap l w hw hn hB0 hsz h64 hz
  clear hz hw hsz
  cases ht : sumM l with
  | none =>
    rw [ht] at HT
    simp only
    go_enter Tryz.func228, Tryz.ntmps228
    go_wp2_with fail
    refine HT.out.mono ?_
    rintro e w1 ⟨hb1, v, hv, rfl⟩
    rcases hv with rfl | ⟨tv, xv, rfl⟩
    · go_wp2_with fail
      go_ret
      exact ⟨rfl, hb1⟩
    · go_wp2_with fail
      go_ret
      exact ⟨rfl, hb1⟩
  | some t =>
    rw [ht] at HT
    simp only
    obtain ⟨hwf, hl24⟩ := sumM_wf h64 ht
    have HTX : Hid (TextOk t) := text_ok t hwf (by omega)
    have HCM : Hid (∀ u, (callMethod (.iface (partT t) (partX t)) "loop.example/telltale/impl.text" #[]).run Tryz.prog u = .ok (.enter (textFn t) #[partX t]) u) := text_method t
    unfold TextOk at HTX
    clear ht hwf h64
    go_enter Tryz.func228, Tryz.ntmps228
    go_wp2_with fail
    refine HT.out.mono ?_
    rintro e w1 ⟨hb1, rfl⟩
    have HB1 : Hid (Below w.heap.size w w1) := hb1
    have HW1 : Hid (Tabs w1) := HW.out.up hb1
    have hs1 := hb1.size
    have HX : Hid (Calls Tryz.prog (textFn t) #[partX t] w1 fun e w' => e = .returned (.string (textT t)) ∧ Below w1.heap.size w1 w') := HTX.out w1 HW1.out
    clear hb1 HT HTX
    rw [partV_eq]
    generalize partX t = px at *
    generalize partT t = pt at *
    generalize textFn t = fn at *
    obtain ⟨x, hx⟩ : ∃ x, textT t = x := ⟨_, rfl⟩
    have HXT : Hid (textT t = x) := hx
    rw [hx] at HX
    clear hx
    go_wp2_with (refine wpList_invoke0 rfl (.tmp 12) _ _ rfl pt px fn rfl (HCM.out _) HX.out ?_)
    intro e w2 he hb2
    subst he
    refine ⟨_, rfl, ?_⟩
    have HB2 : Hid (Below w.heap.size w w2) := below_up HB1.out hs1 hb2
    clear hb2 HX HCM
    go_wp2_with fail
    go_ret
    exact ⟨ret_txt HXT.out.symm, HB2.out⟩

theorem getM_64 {s : ByteArray} {l : List Nd} (h : getM s = some l) : Nums64 l := fun x hx => by
  obtain ⟨o1, o2, o3⟩ := getM_ok h x hx
  by_cases e1 : x.1 = 1
  · have := (o1 e1).1; omega
  · by_cases e2 : x.1 = 2
    · have := o2 e2; omega
    · have := (o3 e1 e2).1; omega
end Go.Proofs.YtchemhjcknkbgaaGreatDoor

/- The model's walks over names of a block: l3Twice, l3Add, l3Vals, l3Vars, l3Ports, l3States, l3All, l3Apart. -/
namespace Go.Proofs.YtchemhjcknkbgaaGreatDoor
open Go Go.RowKit Go.PlainAid
set_option linter.unusedSimpArgs false
set_option linter.unusedVariables false

theorem infoStr' : (Tryz.prog.info? 9).map (fun i => (i.zero, i.size, i.bytes)) = some (some (.string ByteArray.empty), 1, 16) := by kernel_rfl
/-- texts in memory, a row of one's own -/
def OwnS (B : Nat) (w : World) (v : Value) (l : List ByteArray) : Prop := w.ownsRow B 9 1 v l.length (l.map Value.string)
theorem OwnS.form {B : Nat} {w : World} {v : Value} {l : List ByteArray} (h : OwnS B w v l) : ∃ a c, v = .slice a l.length c ∧ l.length ≤ c ∧ IsStrs w.heap.size w a l.length l ∧ (∀ q o, a = some ⟨q, o, none⟩ → v.ownBlock = some q) := by
  have h0 := h
  obtain ⟨h1, h2⟩ := h
  rcases h2 with ⟨hv, hn⟩ | ⟨g, cap, cur, hv, h3, h4, h5, h6⟩
  · exact ⟨none, 0, by rw [hv, hn], by omega, ⟨rfl, .inl hn⟩, fun q o e => by cases e⟩
  · subst hv
    have hlt := (World.ownsRow.lt h0 g rfl).2
    refine ⟨_, cap, rfl, h5, ⟨rfl, .inr ⟨g, 0, rfl, hlt, fun i hi => ?_⟩⟩, fun q o e => by cases e; rfl⟩
    rw [Nat.zero_add, World.ownsRow.cellAt h0 i (by omega)]
    simp [hi]
theorem IsStrs.gr {v v' : Value} {w w' : World} {a : Option Addr} {n : Nat} {l : List ByteArray} (h : IsStrs w.heap.size w a n l) (hg : Gr v w w' v') (hne : ∀ q o, a = some ⟨q, o, none⟩ → n ≠ 0 → some q ≠ v.ownBlock) : IsStrs w'.heap.size w' a n l := by
  obtain ⟨h1, h2⟩ := h
  refine ⟨h1, ?_⟩
  by_cases h0 : n = 0
  · exact .inl h0
  rcases h2 with h2 | ⟨b, off, rfl, hlt, hc⟩
  · exact .inl h2
  · have he := hg.block b hlt (hne b off rfl h0)
    exact .inr ⟨b, off, rfl, Nat.lt_of_lt_of_le hlt hg.size, fun i hi => (World.cell?_of_block he).trans (hc i hi)⟩
theorem list_ne {x y : ByteArray} (h : x ≠ y) : (x.toList == y.toList) = false := by
  simp only [beq_eq_false_iff_ne, ne_eq]
  intro e; exact h (by rw [Lib.toList_data, Lib.toList_data] at e; exact ByteArray.ext (Array.toList_inj.1 e))
theorem addM_take (o more : List ByteArray) {k : Nat} (h : k < more.length) : addM o (more.take (k + 1)) = addS (addM o (more.take k)) more[k] := foldl_take addS o more h
theorem addM_len (o : List ByteArray) : ∀ more : List ByteArray, (addM o more).length ≤ o.length + more.length := by
  intro more
  unfold addM
  induction more generalizing o with
  | nil => simp
  | cons x r ih =>
    rw [List.foldl_cons]
    have h1 := ih (addS o x)
    have h2 : (addS o x).length ≤ o.length + 1 := by unfold addS; split <;> simp
    simp only [List.length_cons]
    omega

set_option maxHeartbeats 1600000 in
set_option maxRecDepth 100000 in
theorem l3Twice_any (B : Nat) (a : Option Addr) (n c : Nat) (l : List ByteArray) (w : World) (hB : B ≤ w.heap.size) (hn : n ≤ 1048576) (hz : IsStrs B w a n l) :
    Calls Tryz.prog 156 #[.slice a n c] w fun e w' => e = .returned (.bool (!decide l.Nodup)) ∧ Below w.heap.size w w' := by
  have hlen := hz.1
  have HZ := hidOf hz
  obtain ⟨D, hD⟩ : ∃ D, (!decide l.Nodup) = D := ⟨_, rfl⟩
  have HD := hidOf hD
  rw [hD]
  clear hz hD
  go_enter Tryz.func156, Tryz.ntmps156
  go_wp2_with fail
  go_loopw [3] (fun i wr => ∃ k : Nat, k ≤ n ∧ i = .int .i64 k ∧ Hid (∀ p q, (hp : p < l.length) → (hq : q < l.length) → p < q → q < k → l[p] ≠ l[q]) ∧ Below w.heap.size w wr) (fun i _ => n - (intOf i).toNat)
  case atStart => exact ⟨0, Nat.zero_le _, rfl, fun p q _ _ _ h => absurd h (Nat.not_lt_zero _), Below.refl _ _⟩
  case round =>
    obtain ⟨k, hk, rfl, HK, hbel⟩ := hrel
    by_cases hlt : k < n
    · go_wp2_with fail
      go_loopw [4] (fun i wr => ∃ m : Nat, m ≤ k ∧ i = .int .i64 m ∧ Hid (∀ p, (hp : p < l.length) → (hq : k < l.length) → p < m → l[p] ≠ l[k]) ∧ Below w.heap.size w wr) (fun i _ => k - (intOf i).toNat)
      case atStart => exact ⟨0, Nat.zero_le _, rfl, fun p _ _ h => absurd h (Nat.not_lt_zero _), hbel⟩
      case round =>
        obtain ⟨m, hm, rfl, HM, hbel2⟩ := hrel
        by_cases hlt2 : m < k
        · rcases HZ.out.2 with h0 | ⟨b, off, rfl, hb, hc⟩
          · omega
          have hbw : b < w.heap.size := by omega
          have c0 := (hbel2.cell (p := ⟨b, off + k, none⟩) hbw).trans (hc k (by omega))
          have c1 := (hbel2.cell (p := ⟨b, off + m, none⟩) hbw).trans (hc m (by omega))
          obtain ⟨x, hx⟩ : ∃ x, l[k]'(by omega) = x := ⟨_, rfl⟩
          obtain ⟨y, hy⟩ : ∃ y, l[m]'(by omega) = y := ⟨_, rfl⟩
          have HX := hidOf hx
          have HY := hidOf hy
          rw [hx] at c0
          rw [hy] at c1
          have hbr : b < wr.heap.size := by have := hbel2.size; omega
          clear hc hx hy
          by_cases hxy : x = y
          · subst hxy
            have hDt : D = true := by
              rw [← HD.out]
              have hnd : ¬ l.Nodup := fun h => by
                have := List.pairwise_iff_getElem.1 h m k (by omega) (by omega) hlt2
                exact this (HY.out.trans HX.out.symm)
              simp [hnd]
            subst hDt
            go_wp2_with fail
            go_quiet (fail)
            go_wp2_with fail
            go_ret
            exact ⟨rfl, drewN hbel2 _⟩
          · have hne := list_ne hxy
            have HXY := hidOf hxy
            clear hxy
            go_wp2_with fail
            go_quiet (fail)
            go_wp2_with fail
            go_roundw
            case rel =>
              refine ⟨m + 1, by omega, by go_num, fun p hp hq hpm => ?_, drewN hbel2 _⟩
              by_cases e : p = m
              · subst e; rw [HY.out, HX.out]; exact fun h => HXY.out h.symm
              · exact HM.out p hp hq (by omega)
            case measure => simp [intOf]; omega
        · have : m = k := by omega
          subst this
          go_wp2_with fail
          go_roundw
          case rel =>
            refine ⟨m + 1, by omega, by go_num, fun p q hp hq hpq hqk => ?_, hbel2⟩
            by_cases e : q = m
            · subst e; exact HM.out p hp hq hpq
            · exact HK.out p q hp hq hpq (by omega)
          case measure => simp [intOf]; omega
    · have hDf : D = false := by
        rw [← HD.out]
        have hnd : l.Nodup := List.pairwise_iff_getElem.2 fun p q hp hq hpq => HK.out p q hp hq hpq (by omega)
        simp [hnd]
      subst hDf
      go_wp2_with fail
      go_ret
      exact ⟨rfl, hbel⟩

set_option maxHeartbeats 1600000 in
set_option maxRecDepth 100000 in
theorem l3Add_any (B : Nat) (v : Value) (o : List ByteArray) (a : Option Addr) (n c : Nat) (more : List ByteArray) (w : World) (hB : B ≤ w.heap.size) (h : OwnS B w v o) (hz : IsStrs w.heap.size w a n more) (hne : ∀ q off, a = some ⟨q, off, none⟩ → n ≠ 0 → some q ≠ v.ownBlock)
    (hon : o.length + n ≤ 1048576) (hso : ∀ y ∈ o, y.size ≤ 1048576) (hsm : ∀ y ∈ more, y.size ≤ 1048576) :
    Calls Tryz.prog 31 #[v, .slice a n c] w fun e w' => ∃ v', e = .returned v' ∧ OwnS B w' v' (addM o more) ∧ Gr v w w' v' := by
  obtain ⟨i0, hi, hz0, hz1, hz2⟩ := info_parts infoStr'
  have hlen := hz.1
  have HZ := hidOf hz
  have HO := hidOf h
  have HNE := hidOf hne
  have HSO := hidOf hso
  have HSM := hidOf hsm
  clear hz h hne hso hsm
  go_enter Tryz.func31, Tryz.ntmps31
  go_wp2_with fail
  go_loopw [0, 5] (fun u i wr => ∃ k : Nat, k ≤ n ∧ i = .int .i64 k ∧ Hid (OwnS B wr u (addM o (more.take k))) ∧ Hid (Gr v w wr u)) (fun _ i _ => n - (intOf i).toNat)
  case atStart => exact ⟨0, Nat.zero_le _, rfl, HO.out, ⟨rfl, rfl, rfl, Nat.le_refl _, fun _ _ _ => rfl, .inl rfl⟩⟩
  case round =>
    obtain ⟨k, hk, rfl, HK, HG⟩ := hrel
    by_cases hlt : k < n
    · rcases (HZ.out.gr HG.out HNE.out).2 with h0 | ⟨b, off, rfl, hb, hc⟩
      · omega
      have c0 := hc k (by omega)
      obtain ⟨x, hx⟩ : ∃ x, more[k]'(by omega) = x := ⟨_, rfl⟩
      have hxs : x.size ≤ 1048576 := by rw [← hx]; exact HSM.out _ (List.getElem_mem _)
      have HT : Hid (addM o (more.take (k + 1)) = addS (addM o (more.take k)) x) := by
        show _ = _
        rw [← hx]; exact addM_take o more (by omega)
      rw [hx] at c0
      obtain ⟨cur, hcur⟩ : ∃ cur, addM o (more.take k) = cur := ⟨_, rfl⟩
      have hcl : cur.length ≤ o.length + k := by
        rw [← hcur]
        have := addM_len o (more.take k)
        simp at this
        omega
      have hcs : ∀ y ∈ cur, y.size ≤ 1048576 := by
        intro y hy
        rw [← hcur] at hy
        rcases mem_addM.1 hy with h | h
        · exact HSO.out y h
        · exact HSM.out y (List.mem_of_mem_take h)
      rw [hcur] at HK HT
      obtain ⟨ua, uc, rfl, huc, huz, hub⟩ := HK.out.form
      have HF := hidOf (l1Find_any wr.heap.size ua cur.length uc cur x wr (by omega) hxs hcs huz)
      obtain ⟨m, hm⟩ : ∃ m, cur.length = m := ⟨_, rfl⟩
      have HM := hidOf hm
      rw [hm] at HF HK HG huc hcl ⊢
      obtain ⟨Fd, hFd⟩ : ∃ Fd, findM cur x = Fd := ⟨_, rfl⟩
      have HFD := hidOf hFd
      rw [hFd] at HF
      clear hc hx hcs huz hm hFd hcur
      by_cases hF : Fd < 0
      · have hadd : addS cur x = cur ++ [x] := by unfold addS; rw [if_pos (by rw [HFD.out]; exact hF)]
        have HOW : Hid (wr.ownsRow B 9 1 (.slice ua m uc) m (cur.map Value.string)) := by
          have := HK.out
          unfold OwnS at this
          rw [HM.out] at this
          exact this
        have hws := HG.out.size
        go_wp2_with (first
          | (go_at_call 34; refine HF.out.mono ?_; rintro e w' ⟨rfl, hw'⟩; rw [hw']; clear hw' w')
          | (at_builtin; (refine wpList_append_lies _ rfl (.tmp 19) (.tmp 24) 28 rfl B 9 i0 (.string ByteArray.empty) 1 16 Tryz.underlying28 hi hz0 hz1 hz2 rfl (by decide) (.slice ua m uc) m (cur.map Value.string) rfl (by exact (HOW.out.alloc _)) ⟨wr.heap.size, 0, none⟩ 1 1 [.string x] rfl rfl (by exact one_new _ _ _) (by intro u hu; simp at hu; subst hu; rfl) (by decide) (by unfold maxLen; omega) (by omega) (by simp; omega) _ rfl ?_)))
        intro g cap' w1 hown' hgrow hat hlt'
        have hgr : Gr (.slice ua m uc) wr w1 (.slice (some ⟨g, 0, none⟩) (m + 1) cap') := Gr.alloc0 (Gr.of hgrow (by simpa using hat))
        have HG2 : Hid (Gr v w w1 (.slice (some ⟨g, 0, none⟩) (m + 1) cap')) := HG.out.trans hgr
        have HO2 : Hid (OwnS B w1 (.slice (some ⟨g, 0, none⟩) (m + 1) cap') (cur ++ [x])) := by
          show World.ownsRow _ _ _ _ _ _ _
          rw [List.length_append, HM.out, List.map_append]
          exact hown'
        clear hgrow hown' hgr hat
        go_wp2_with fail
        go_roundw
        case rel => exact ⟨k + 1, by omega, by go_num, by show OwnS _ _ _ _; rw [HT.out, hadd]; exact HO2.out, HG2⟩
        case measure => simp [intOf]; omega
      · have hadd : addS cur x = cur := by unfold addS; rw [if_neg (by rw [HFD.out]; exact hF)]
        go_wp2_with (go_at_call 34; refine HF.out.mono ?_; rintro e w' ⟨rfl, hw'⟩; rw [hw']; clear hw' w')
        go_roundw
        case rel => exact ⟨k + 1, by omega, by go_num, by show OwnS _ _ _ _; rw [HT.out, hadd]; exact HK.out, HG⟩
        case measure => simp [intOf]; omega
    · have : k = n := by omega
      subst this
      rw [List.take_of_length_le (by omega)] at HK
      go_wp2_with fail
      go_ret
      exact ⟨_, rfl, HK.out, HG.out⟩
end Go.Proofs.YtchemhjcknkbgaaGreatDoor

/- The model's walks over names of a block, on: l3Vals, l3Ports, l3All, l3Apart. -/
namespace Go.Proofs.YtchemhjcknkbgaaGreatDoor
open Go Go.RowKit Go.PlainAid
set_option linter.unusedSimpArgs false
set_option linter.unusedVariables false

theorem valsM_take (ps : List Pt) {k : Nat} (h : k < ps.length) : valsM (ps.take (k + 1)) = addM (valsM (ps.take k)) ps[k].vals := foldl_take (fun o (p : Pt) => addM o p.vals) [] ps h
theorem wsum_le {α : Type} (f : α → Nat) (l : List α) : ∀ k, wsum f (l.take k) ≤ wsum f l := by
  intro k
  unfold wsum
  have h : ((l.take k).map f).sum + ((l.drop k).map f).sum = (l.map f).sum := by rw [← List.sum_append, ← List.map_append, List.take_append_drop]
  omega
theorem valsM_len (ps : List Pt) : ∀ k, k ≤ ps.length → (valsM (ps.take k)).length ≤ wsum wtPt (ps.take k) := by
  intro k
  induction k with
  | zero => intro _; simp [valsM]
  | succ k ih =>
    intro hk
    rw [valsM_take ps (by omega), wsum_take wtPt ps (by omega)]
    have h1 := ih (by omega)
    have h2 := addM_len (valsM (ps.take k)) ps[k].vals
    have e1 : wtPt ps[k] = ps[k].name.size + (ps[k].vals.length + wsum wtS ps[k].vals) := rfl
    omega
theorem valsM_small {ps : List Pt} {N : Nat} (h : wsum wtPt ps ≤ N) : ∀ y ∈ valsM ps, y.size ≤ N := by
  intro y hy
  obtain ⟨p, hp, hy⟩ := mem_valsM.1 hy
  have h1 := wsum_mem (f := wtPt) hp
  have h2 := wsum_mem (f := wtS) hy
  have e1 : wtPt p = p.name.size + (p.vals.length + wsum wtS p.vals) := rfl
  have e2 : wtS y = y.size := rfl
  omega
theorem valsM_sub (ps : List Pt) (k : Nat) : ∀ y ∈ valsM (ps.take k), y ∈ valsM ps := by
  intro y hy
  obtain ⟨p, hp, hy⟩ := mem_valsM.1 hy
  exact mem_valsM.2 ⟨p, List.mem_of_mem_take hp, hy⟩

set_option maxHeartbeats 1600000 in
set_option maxRecDepth 100000 in
theorem l3Vals_any (B : Nat) (a : Option Addr) (n c : Nat) (ps : List Pt) (w : World) (hB : B ≤ w.heap.size) (hn : n ≤ 1048576) (hw : wsum wtPt ps ≤ 1048576) (hz : IsArr 2 QPt B w a n ps) :
    Calls Tryz.prog 68 #[.slice a n c] w fun e w' => ∃ v, e = .returned v ∧ OwnS w.heap.size w' v (valsM ps) ∧ Below w.heap.size w w' := by
  have hlen := hz.1
  have HZ := hidOf hz
  clear hz
  go_enter Tryz.func68, Tryz.ntmps68
  go_wp2_with fail
  go_loopw [3, 4] (fun u i wr => ∃ k : Nat, k ≤ n ∧ i = .int .i64 k ∧ Hid (OwnS w.heap.size wr u (valsM (ps.take k))) ∧ Below w.heap.size w wr) (fun _ i _ => n - (intOf i).toNat)
  case atStart => exact ⟨0, Nat.zero_le _, rfl, World.ownsRow_made w #[] 0 (Nat.le_refl _) (Nat.zero_le _) rfl, (Below.refl _ _).alloc (Nat.le_refl _) _⟩
  case round =>
    obtain ⟨k, hk, rfl, HK, hbel⟩ := hrel
    by_cases hlt : k < n
    · obtain ⟨b, off, cs, rfl, hb, hq, hcell⟩ := IsArr.at (HZ.out.below (QPt.lift (hbel.mono hB)) (hbel.mono hB)) hlt (show k < ps.length by omega)
      have hws := hbel.size
      have hbr : b < wr.heap.size := by omega
      have ht := valsM_take ps (show k < ps.length by omega)
      have h1 := valsM_len ps k (by omega)
      have h2 := wsum_take wtPt ps (show k < ps.length by omega)
      have h3 := wsum_le wtPt ps (k + 1)
      have hso : ∀ y ∈ valsM (ps.take k), y.size ≤ 1048576 := fun y hy => valsM_small hw y (valsM_sub ps k y hy)
      have hsm : ∀ y ∈ (ps[k]'(by omega)).vals, y.size ≤ 1048576 := fun y hy => valsM_small hw y (mem_valsM.2 ⟨_, List.getElem_mem _, hy⟩)
      obtain ⟨x, hx⟩ : ∃ x, ps[k]'(by omega) = x := ⟨_, rfl⟩
      rw [hx] at hq ht h2 hsm
      obtain ⟨pa, pn, pc, rfl, hp1, hp2, hp3⟩ := hq
      have c1 : wr.cell? ⟨b, off + k * 2 + 1, none⟩ = some (.slice pa pn pc) := hcell 1 _ rfl
      have hpl := hp3.1
      have HT := hidOf ht
      have HL := hidOf (l3Add_any w.heap.size _ (valsM (ps.take k)) pa pn pc x.vals wr hws HK.out (hp3.mono (by omega)) (fun q o e h0 => by
        rcases hp3.2 with h | ⟨q', o', e', hlt', _⟩
        · exact absurd h h0
        · rw [e'] at e
          cases e
          intro e2
          have := (World.ownsRow.lt HK.out q e2.symm).1
          omega) (by have e1 : wtPt x = x.name.size + (x.vals.length + wsum wtS x.vals) := rfl; omega) hso hsm)
      clear hcell hp3 hx hso hsm ht
      go_wp2_with fail
      refine HL.out.mono ?_
      rintro e w1 ⟨v', rfl, hown, hgr⟩
      have HO1 := hidOf hown
      have HB1 : Hid (Below w.heap.size w w1) := hbel.trans (hgr.below hws (fun k hk => (World.ownsRow.lt HK.out k hk).1))
      clear hown hgr
      go_wp2_with fail
      go_roundw
      case rel => exact ⟨k + 1, by omega, by go_num, by show OwnS _ _ _ _; rw [HT.out]; exact HO1.out, HB1.out⟩
      case measure => simp [intOf]; omega
    · have : k = n := by omega
      subst this
      rw [List.take_of_length_le (by omega)] at HK
      go_wp2_with fail
      go_ret
      exact ⟨_, rfl, HK.out, hbel⟩

set_option maxHeartbeats 1600000 in
set_option maxRecDepth 100000 in
theorem l3Apart_any (B : Nat) (a : Option Addr) (n c : Nat) (l : List ByteArray) (a' : Option Addr) (n' c' : Nat) (l' : List ByteArray) (w : World) (hB : B ≤ w.heap.size) (hn : n ≤ 1048576) (hn' : n' ≤ 1048576) (hs : ∀ y ∈ l, y.size ≤ 1048576) (hs' : ∀ y ∈ l', y.size ≤ 1048576) (hz : IsStrs B w a n l) (hz' : IsStrs B w a' n' l') :
    Calls Tryz.prog 113 #[.slice a n c, .slice a' n' c'] w fun e w' => e = .returned (.bool (decide (Apart l l'))) ∧ w' = w := by
  have hlen := hz.1
  have HZ := hidOf hz
  have HZ' := hidOf hz'
  have HS := hidOf hs
  have HS' := hidOf hs'
  obtain ⟨D, hD⟩ : ∃ D, decide (Apart l l') = D := ⟨_, rfl⟩
  have HD := hidOf hD
  rw [hD]
  clear hz hz' hD hs hs'
  go_enter Tryz.func113, Tryz.ntmps113
  go_wp2_with fail
  go_loopw [5] (fun i wr => ∃ k : Nat, k ≤ n ∧ i = .int .i64 k ∧ Hid (∀ j, (h : j < l.length) → j < k → findM l' l[j] < 0) ∧ wr = w) (fun i _ => n - (intOf i).toNat)
  case atStart => exact ⟨0, Nat.zero_le _, rfl, fun j _ h => absurd h (Nat.not_lt_zero _), rfl⟩
  case round =>
    obtain ⟨k, hk, rfl, HK, rfl⟩ := hrel
    by_cases hlt : k < n
    · rcases HZ.out.2 with h0 | ⟨b, off, rfl, hb, hc⟩
      · omega
      have c0 := hc k (by omega)
      have hxs := HS.out (l[k]'(by omega)) (List.getElem_mem _)
      obtain ⟨x, hx⟩ : ∃ x, l[k]'(by omega) = x := ⟨_, rfl⟩
      have HX := hidOf hx
      rw [hx] at c0 hxs
      have HF := hidOf (l1Find_any B a' n' c' l' x wr hn' hxs HS'.out HZ'.out)
      obtain ⟨F, hF⟩ : ∃ F, findM l' x = F := ⟨_, rfl⟩
      have HFF := hidOf hF
      rw [hF] at HF
      clear hc hx hF
      by_cases h0 : F < 0
      · go_wp2_with fail
        refine HF.out.mono ?_
        rintro e w' ⟨rfl, hw'⟩
        rw [hw']
        clear hw' w'
        go_wp2_with fail
        go_roundw
        case rel =>
          refine ⟨k + 1, by omega, by go_num, fun j hj hjk => ?_, by first | rfl | trivial⟩
          by_cases e : j = k
          · subst e; rw [HX.out, HFF.out]; exact h0
          · exact HK.out j hj (by omega)
        case measure => simp [intOf]; omega
      · have hDf : D = false := by
          rw [← HD.out]
          apply decide_eq_false
          intro hap
          have h1 := hap x (by rw [← HX.out]; exact List.getElem_mem _)
          rw [← findM_neg, HFF.out] at h1
          exact h0 h1
        subst hDf
        go_wp2_with fail
        refine HF.out.mono ?_
        rintro e w' ⟨rfl, hw'⟩
        rw [hw']
        clear hw' w'
        go_wp2_with fail
        go_ret
        exact ⟨rfl, rfl⟩
    · have hDt : D = true := by
        rw [← HD.out]
        apply decide_eq_true
        intro x hx
        obtain ⟨j, hj, rfl⟩ := List.getElem_of_mem hx
        exact findM_neg.1 (HK.out j hj (by omega))
      subst hDt
      go_wp2_with fail
      go_ret
      exact ⟨rfl, rfl⟩
end Go.Proofs.YtchemhjcknkbgaaGreatDoor
