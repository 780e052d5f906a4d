/- The program's sumOf, ExprPut and ExprGet: what they take for a sum is what the model takes for one. -/
import Derived.Test.YtcajjngjojegfaaGreatDoorSumM
import Derived.Test.YtcajjngjojegfaaGreatDoorEqNds
import Derived.Test.YtcajjngjojegfaaGreatDoorReadSum
namespace Go.Proofs.YtcajjngjojegfaaGreatDoor
open Go Go.RowKit Go.PlainAid
set_option linter.unusedSimpArgs false
set_option linter.unusedVariables false

/-- numbers of nodes are Go's -/
def Nums64 (l : List Nd) : Prop := ∀ x ∈ l, -9223372036854775808 ≤ x.2.1 ∧ x.2.1 ≤ 9223372036854775807
theorem below_up {B : Nat} {a b c : World} (h : Below B a b) (hB : B ≤ b.heap.size) (k : Below b.heap.size b c) : Below B a c := h.trans (k.mono hB)
theorem Tabs.up {w w' : World} (h : Tabs w) (hb : Below w.heap.size w w') : Tabs w' := h.below hb
theorem ReadPost.none' {w w' : World} {e : Ending} (h : ReadPost w none e w') : Below w.heap.size w w' ∧ e = .returned (.tuple #[.slice none 0 0, .bool false]) := h
theorem ReadPost.some' {w w' : World} {e : Ending} {l : List Nd} (h : ReadPost w (some l) e w') : Below w.heap.size w w' ∧ ∃ v, e = .returned (.tuple #[v, .bool true]) ∧ OwnNd w.heap.size w' v l := h

set_option maxHeartbeats 1600000 in
set_option maxRecDepth 100000 in
theorem sumOf_any (B0 : Nat) (a : Option Addr) (n cap : Nat) (l : List Nd) (w : World) (hw : Tabs w) (hn : n ≤ 1048576) (hB0 : B0 ≤ w.heap.size) (hsz : ∀ x ∈ l, x.2.2.size ≤ 1048576) (h64 : Nums64 l) (hz : IsNds B0 w a n l) :
    Calls Tryz.prog 45 #[.slice a n cap] w fun e w' => TreePost w (sumM l) e w' := by
  have hlen := hz.1
  have HZ : Hid (IsNds B0 w a n l) := hz
  have HW : Hid (Tabs w) := hw
  have HT : Hid (Calls Tryz.prog 68 #[.slice a n cap] w fun e w' => TreePost w (treeM l) e w') := treeOf_any B0 a n cap l w hn hB0 hsz hz
  obtain ⟨R, hR⟩ : ∃ R, sumM l = R := ⟨_, rfl⟩
  have HRR : Hid (sumM l = R) := hR
  rw [hR]
  clear hR hz hw hsz
  cases ht : treeM l with
  | none =>
    have hRn : R = none := by rw [← HRR.out]; unfold sumM; rw [ht]
    subst hRn
    rw [ht] at HT
    go_enter Tryz.func45, Tryz.ntmps45
    go_wp2_with fail
    refine HT.out.mono ?_
    rintro e w1 ⟨hb1, v, hv, rfl⟩
    rcases hv with rfl | ⟨tv, xv, rfl⟩
    · go_wp2_with fail
      go_ret2
      exact ⟨hb1, _, .inl rfl, rfl⟩
    · go_wp2_with fail
      go_ret2
      exact ⟨hb1, _, .inl rfl, rfl⟩
  | some t =>
    rw [ht] at HT
    obtain ⟨hwf, hl24⟩ := treeM_wf h64 ht
    have HTX : Hid (TextOk t) := text_ok t hwf (by omega)
    have hts := text_size t hwf
    have hRt : R = if getM (textT t) = some l then some t else none := by rw [← HRR.out]; unfold sumM; rw [ht]
    have HPV : Hid (partV t = .iface (partT t) (partX t)) := partV_eq t
    have HCM : Hid (∀ u, (callMethod (.iface (partT t) (partX t)) "loop.example/telltale/impl.text" #[]).run Tryz.prog u = .ok (.enter (textFn t) #[partX t]) u) := text_method t
    unfold TextOk at HTX
    have HRS : Hid (∀ w, Signs w → Calls Tryz.prog 47 #[.string (textT t)] w fun e w' => ReadPost w (getM (textT t)) e w') := fun w h => readSum_any (textT t) w (by unfold maxLen; omega) h
    obtain ⟨G, hG⟩ : ∃ G, getM (textT t) = G := ⟨_, rfl⟩
    have HG : Hid (getM (textT t) = G) := hG
    rw [hG] at HRS hRt
    clear ht hwf hG HRR h64
    go_enter Tryz.func45, Tryz.ntmps45
    go_wp2_with fail
    refine HT.out.mono ?_
    rintro e w1 ⟨hb1, rfl⟩
    have HB1 : Hid (Below w.heap.size w w1) := hb1
    have HW1 : Hid (Tabs w1) := HW.out.up hb1
    have hs1 := hb1.size
    have HX : Hid (Calls Tryz.prog (textFn t) #[partX t] w1 fun e w' => e = .returned (.string (textT t)) ∧ Below w1.heap.size w1 w') := HTX.out w1 HW1.out
    clear hb1 HT HTX
    rw [HPV.out]
    have HPT : Hid (partV t = .iface (partT t) (partX t)) := HPV.out
    generalize partX t = px at *
    generalize partT t = pt at *
    generalize textFn t = fn at *
    generalize hT : textT t = x at *
    clear hT
    go_wp2_with (refine wpList_invoke0 rfl (.tmp 15) _ _ rfl pt px fn rfl (HCM.out _) HX.out ?_)
    intro e w2 he hb2
    subst he
    refine ⟨_, rfl, ?_⟩
    have HB2 : Hid (Below w.heap.size w w2) := below_up HB1.out hs1 hb2
    have HW2 : Hid (Tabs w2) := HW1.out.up hb2
    have hs2 := hb2.size
    clear hb2 HX HCM
    go_wp2_with fail
    refine (HRS.out w2 HW2.out.signs).mono ?_
    intro e w3 hp
    cases G with
    | none =>
      obtain ⟨hb3, rfl⟩ := hp.none'
      rw [if_neg (by simp)] at hRt
      subst hRt
      have HB3 : Hid (Below w.heap.size w w3) := below_up HB2.out (by omega) hb3
      clear hb3 hp
      go_wp2_with fail
      go_ret2
      exact ⟨HB3.out, _, .inl rfl, rfl⟩
    | some l' =>
      obtain ⟨hb3, v, rfl, hown⟩ := hp.some'
      have hl' := getM_len HG.out
      have HB3 : Hid (Below w.heap.size w w3) := below_up HB2.out (by omega) hb3
      obtain ⟨a', cap', rfl, hi'⟩ := hown.is
      have HI' : Hid (IsNds w3.heap.size w3 a' l'.length l') := hi'
      have HI : Hid (IsNds w3.heap.size w3 a n l) := ((HZ.out.below (HB3.out.mono hB0)).mono (by have := hb3.size; omega))
      clear hb3 hp hown hi'
      have HE : Hid (Calls Tryz.prog 69 #[.slice a' l'.length cap', .slice a n cap] w3 fun e w' => e = .returned (.bool (decide (l' = l))) ∧ Below w3.heap.size w3 w') := eqNds_any w3.heap.size a' a l'.length n cap' cap l' l w3 (by omega) hn HI'.out HI.out
      obtain ⟨n', hn'⟩ : ∃ n', l'.length = n' := ⟨_, rfl⟩
      rw [hn'] at HE ⊢
      clear hn'
      have hs3 := HB3.out.size
      by_cases hll : l' = l
      · rw [if_pos (by rw [hll])] at hRt
        subst hRt
        have hd : decide (l' = l) = true := decide_eq_true hll
        rw [hd] at HE
        clear hd hll
        go_wp2_with (go_at_call 69; refine HE.out.mono ?_; rintro e w4 ⟨rfl, hb4⟩; have HB4 : Hid (Below w.heap.size w w4) := below_up HB3.out hs3 hb4; clear hb4)
        go_ret2
        exact ⟨HB4.out, by show _ = _; rw [HPT.out]; rfl⟩
      · rw [if_neg (by simpa using hll)] at hRt
        subst hRt
        have hd : decide (l' = l) = false := decide_eq_false hll
        rw [hd] at HE
        clear hd hll
        go_wp2_with (go_at_call 69; refine HE.out.mono ?_; rintro e w4 ⟨rfl, hb4⟩; have HB4 : Hid (Below w.heap.size w w4) := below_up HB3.out hs3 hb4; clear hb4)
        go_ret2
        exact ⟨HB4.out, _, .inl rfl, rfl⟩

theorem sumM_wf {l : List Nd} {t : Tree} (h64 : Nums64 l) (h : sumM l = some t) : Wf t ∧ t.nodes.length ≤ 24 := by
  unfold sumM at h
  split at h
  · cases h
  · rename_i t' he
    split at h
    · cases h; exact treeM_wf h64 he
    · cases h

set_option maxHeartbeats 800000 in
set_option maxRecDepth 100000 in
theorem implPut_any (B0 : Nat) (a : Option Addr) (n cap : Nat) (l : List Nd) (w : World) (hw : Tabs w) (hn : n ≤ 1048576) (hB0 : B0 ≤ w.heap.size) (hsz : ∀ x ∈ l, x.2.2.size ≤ 1048576) (h64 : Nums64 l) (hz : IsNds B0 w a n l) :
    Calls Tryz.prog 13 #[.slice a n cap] w fun e w' => e = .returned (.string (putM l)) ∧ Below w.heap.size w w' := by
  rw [putM_sumM]
  have HW : Hid (Tabs w) := hw
  have HT : Hid (Calls Tryz.prog 45 #[.slice a n cap] w fun e w' => TreePost w (sumM l) e w') := sumOf_any B0 a n cap l w hw hn hB0 hsz h64 hz
  clear hz hw hsz
  cases ht : sumM l with
  | none =>
    rw [ht] at HT
    simp only
    go_enter Tryz.func13, Tryz.ntmps13
    go_wp2_with fail
    refine HT.out.mono ?_
    rintro e w1 ⟨hb1, v, hv, rfl⟩
    rcases hv with rfl | ⟨tv, xv, rfl⟩
    · go_wp2_with fail
      go_ret
      exact ⟨rfl, hb1⟩
    · go_wp2_with fail
      go_ret
      exact ⟨rfl, hb1⟩
  | some t =>
    rw [ht] at HT
    simp only
    obtain ⟨hwf, hl24⟩ := sumM_wf h64 ht
    have HTX : Hid (TextOk t) := text_ok t hwf (by omega)
    have HCM : Hid (∀ u, (callMethod (.iface (partT t) (partX t)) "loop.example/telltale/impl.text" #[]).run Tryz.prog u = .ok (.enter (textFn t) #[partX t]) u) := text_method t
    unfold TextOk at HTX
    clear ht hwf h64
    go_enter Tryz.func13, Tryz.ntmps13
    go_wp2_with fail
    refine HT.out.mono ?_
    rintro e w1 ⟨hb1, rfl⟩
    have HB1 : Hid (Below w.heap.size w w1) := hb1
    have HW1 : Hid (Tabs w1) := HW.out.up hb1
    have hs1 := hb1.size
    have HX : Hid (Calls Tryz.prog (textFn t) #[partX t] w1 fun e w' => e = .returned (.string (textT t)) ∧ Below w1.heap.size w1 w') := HTX.out w1 HW1.out
    clear hb1 HT HTX
    rw [partV_eq]
    generalize partX t = px at *
    generalize partT t = pt at *
    generalize textFn t = fn at *
    obtain ⟨x, hx⟩ : ∃ x, textT t = x := ⟨_, rfl⟩
    have HXT : Hid (textT t = x) := hx
    rw [hx] at HX
    clear hx
    go_wp2_with (refine wpList_invoke0 rfl (.tmp 12) _ _ rfl pt px fn rfl (HCM.out _) HX.out ?_)
    intro e w2 he hb2
    subst he
    refine ⟨_, rfl, ?_⟩
    have HB2 : Hid (Below w.heap.size w w2) := below_up HB1.out hs1 hb2
    clear hb2 HX HCM
    go_wp2_with fail
    go_ret
    exact ⟨ret_txt HXT.out.symm, HB2.out⟩

theorem getM_64 {s : ByteArray} {l : List Nd} (h : getM s = some l) : Nums64 l := fun x hx => by
  obtain ⟨o1, o2, o3⟩ := getM_ok h x hx
  by_cases e1 : x.1 = 1
  · have := (o1 e1).1; omega
  · by_cases e2 : x.1 = 2
    · have := o2 e2; omega
    · have := (o3 e1 e2).1; omega

set_option maxHeartbeats 800000 in
set_option maxRecDepth 100000 in
theorem implGet_any (s : ByteArray) (w : World) (hw : Tabs w) (hs : s.size ≤ maxLen) : Calls Tryz.prog 15 #[.string s] w fun e w' => ∃ v b, e = .returned (.tuple #[v, .bool b]) ∧
    (exprM s = none → b = false ∧ v = .slice none 0 0) ∧ (∀ l, exprM s = some l → b = true ∧ OwnNd w.heap.size w' v l) ∧ Below w.heap.size w w' := by
  have HW : Hid (Tabs w) := hw
  have HRS : Hid (Calls Tryz.prog 47 #[.string s] w fun e w' => ReadPost w (getM s) e w') := readSum_any s w hs hw.signs
  clear hw
  cases hg : getM s with
  | none =>
    have HN : Hid (exprM s = none) := by
      show exprM s = none
      unfold exprM; rw [hg]
    rw [hg] at HRS
    clear hg
    go_enter Tryz.func15, Tryz.ntmps15
    go_wp2_with fail
    refine HRS.out.mono ?_
    intro e w1 hp
    obtain ⟨hb1, rfl⟩ := hp.none'
    have HB : Hid (Below w.heap.size w w1) := hb1
    clear hb1 hp HRS
    go_wp2_with fail
    go_ret2
    exact ⟨_, _, rfl, fun _ => ⟨rfl, rfl⟩, (fun l hl => by rw [HN.out] at hl; cases hl), HB.out⟩
  | some l =>
    have hl24 := getM_len hg
    have HSM : Hid (∀ x ∈ l, x.2.2.size ≤ 1048576) := fun x hx => Nat.le_trans (getM_names hg x hx) (by decide)
    have H64 : Hid (Nums64 l) := getM_64 hg
    have HE : Hid (exprM s = if (putM l).toList.isEmpty = true then none else some l) := by
      show exprM s = _
      unfold exprM; rw [hg]
    rw [hg] at HRS
    clear hg
    go_enter Tryz.func15, Tryz.ntmps15
    go_wp2_with fail
    refine HRS.out.mono ?_
    intro e w1 hp
    obtain ⟨hb1, v, rfl, ho⟩ := hp.some'
    have HO : Hid (OwnNd w.heap.size w1 v l) := ho
    obtain ⟨a, cap, rfl, hi⟩ := ho.is
    have HB : Hid (Below w.heap.size w w1) := hb1
    have HI : Hid (IsNds w1.heap.size w1 a l.length l) := hi
    have HW1 : Hid (Tabs w1) := HW.out.up hb1
    obtain ⟨n, hn⟩ : ∃ n, l.length = n := ⟨_, rfl⟩
    rw [hn] at HI hl24 HO
    rw [hn]
    clear hp hb1 ho hi hn HRS
    have HPP : Hid (Calls Tryz.prog 13 #[.slice a n cap] w1 fun e w' => e = .returned (.string (putM l)) ∧ Below w1.heap.size w1 w') := implPut_any w1.heap.size a n cap l w1 HW1.out (by omega) (Nat.le_refl _) HSM.out H64.out HI.out
    obtain ⟨P, hP⟩ : ∃ P, putM l = P := ⟨_, rfl⟩
    rw [hP] at HE HPP
    clear hP
    cases he : P.toList.isEmpty
    · have HN : Hid (exprM s = some l) := by
        show exprM s = _
        rw [HE.out, if_neg (by rw [he]; decide)]
      go_wp2_with (go_at_call 13; refine HPP.out.mono ?_; rintro e w2 ⟨rfl, hb2⟩; have HB2 : Hid (Below w.heap.size w w2) := below_up HB.out HB.out.size hb2; have HO2 : Hid (OwnNd w.heap.size w2 (.slice a n cap) l) := HO.out.old hb2; clear hb2)
      go_ret2
      exact ⟨_, _, rfl, (fun h => by rw [HN.out] at h; cases h), (fun l' hl => by rw [HN.out] at hl; cases hl; exact ⟨rfl, HO2.out⟩), HB2.out⟩
    · have HN : Hid (exprM s = none) := by
        show exprM s = _
        rw [HE.out, if_pos he]
      go_wp2_with (go_at_call 13; refine HPP.out.mono ?_; rintro e w2 ⟨rfl, hb2⟩; have HB2 : Hid (Below w.heap.size w w2) := below_up HB.out HB.out.size hb2; clear hb2)
      go_ret2
      exact ⟨_, _, rfl, fun _ => ⟨rfl, rfl⟩, (fun l' hl => by rw [HN.out] at hl; cases hl), HB2.out⟩
end Go.Proofs.YtcajjngjojegfaaGreatDoor
