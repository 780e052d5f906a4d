/- How a part is written, by its methods. -/
import Derived.Test.YtchemhjcknkbgaaGreatDoorNodes
import Derived.Test.YtchemhjcknkbgaaGreatDoorShelf
import Derived.Lib.AppendIntMem
import Derived.Deep.RegionHeld3
import Derived.Lib.ItoaLen
import Derived.Deep.RegionWith
namespace Go.Proofs.YtchemhjcknkbgaaGreatDoor
open Go Go.RowKit Go.PlainAid
set_option linter.unusedSimpArgs false
set_option linter.unusedVariables false

/-- the tables that the program reads -/
structure Tabs (w : World) : Prop where
  signs : Signs w
  tens : Lib.TabIs Tryz.prog w "internal/strconv.uint64pow10" .u64 Lib.pow10Tab
theorem Tabs.below {w w' : World} (h : Tabs w) (hb : Below w.heap.size w w') : Tabs w' :=
  ⟨fun k hk => ⟨(hb.cell h.signs.lt).trans (h.signs k hk).1, (hb.cell h.signs.lt).trans (h.signs k hk).2⟩, Lib.tabBelow_of_tabIs h.tens w' hb⟩

def tightT : Tree → Int
  | .num _ => 7
  | .name _ => 7
  | .ahead _ _ => 6
  | .pair k _ _ => lvl k
/-- a part within another one -/
def parT (t : Tree) (x : ByteArray) (least : Int) : ByteArray := if tightT t < least then lpar ++ x ++ rpar else x
def textT : Tree → ByteArray
  | .num n => ⟨(Lib.itoa n).toArray⟩
  | .name x => x
  | .ahead k t => sgI k.toNat ++ parT t (textT t) 6
  | .pair k l r => parT l (textT l) (lvl k) ++ sg k.toNat ++ parT r (textT r) (lvl k + 1)
/-- signs are signs, numbers are Go's -/
def Wf : Tree → Prop
  | .num n => -9223372036854775808 ≤ n ∧ n ≤ 9223372036854775807
  | .name x => x.size ≤ 6
  | .ahead k t => (k = 3 ∨ k = 4) ∧ Wf t
  | .pair k l r => (5 ≤ k ∧ k ≤ 13) ∧ Wf l ∧ Wf r
def tightFn : Tree → FuncId
  | .num _ => 333
  | .name _ => 329
  | .ahead _ _ => 324
  | .pair _ _ _ => 317
def textFn : Tree → FuncId
  | .num _ => 332
  | .name _ => 328
  | .ahead _ _ => 323
  | .pair _ _ _ => 316
theorem tight_method (t : Tree) (u : World) : (callMethod (.iface (partT t) (partX t)) "loop.example/telltale/impl.tight" #[]).run Tryz.prog u = .ok (.enter (tightFn t) #[partX t]) u := by
  cases t
  · kernel_rfl
  · kernel_rfl
  · kernel_rfl
  · kernel_rfl
theorem text_method (t : Tree) (u : World) : (callMethod (.iface (partT t) (partX t)) "loop.example/telltale/impl.text" #[]).run Tryz.prog u = .ok (.enter (textFn t) #[partX t]) u := by
  cases t
  · kernel_rfl
  · kernel_rfl
  · kernel_rfl
  · kernel_rfl
theorem wpList_invoke0 {P : Program} {w : World} {ops : Array Oper} {rest : List Oper} {o : Oper} {a : Act} {Q : Exit → Act → World → Prop} (hgd : o.guard = none) (recv : Operand) (name : String) (ts : Array TypeId)
    (ho : o.op = .call { callee := .invoke recv name, args := #[], argTypes := ts }) (pt : TypeId) (px : Value) (fn : FuncId) (hr : a.eval recv = .iface pt px)
    (hcm : (callMethod (.iface pt px) name #[]).run P w = .ok (.enter fn #[px]) w) {post : Ending → World → Prop} (hc : Calls P fn #[px] w post) (h : ∀ e w', post e w' → ∃ v, e = .returned v ∧ wpList P ops Q rest (a.put o.dst v) w') : wpList P ops Q (o :: rest) a w :=
  wpList_plain hgd fun K hK => by
    unfold Oper.wp execOp
    simp only [ho, resolve, invoke, Sem.run_bind, Sem.run_pure, Result.andThen_ok, List.map_toArray, List.map_cons, List.map_nil, hr]
    have e1 : (#[Value.iface pt px] ++ #[])[0]? = some (.iface pt px) := rfl
    have e2 : (#[Value.iface pt px] ++ #[]).extract 1 = #[] := rfl
    rw [e1, e2]
    simp only [hcm]
    refine hc.mono ?_
    intro e w' he
    obtain ⟨v, rfl, hk⟩ := h e w' he
    exact hK _ _ hk

theorem tight_any (t : Tree) (w : World) (hg : Signs w) (hw : Wf t) : Calls Tryz.prog (tightFn t) #[partX t] w fun e w' => e = .returned (.int .i64 (tightT t)) ∧ Below w.heap.size w w' := by
  cases t with
  | num n =>
    show Calls Tryz.prog 333 #[.agg #[.int .i64 n]] w _
    go_enter Tryz.func333, Tryz.ntmps333
    go_wp2
    go_ret
    exact ⟨rfl, (Below.refl _ _).alloc (Nat.le_refl _) _⟩
  | name x =>
    show Calls Tryz.prog 329 #[.agg #[.string x]] w _
    go_enter Tryz.func329, Tryz.ntmps329
    go_wp2
    go_ret
    exact ⟨rfl, (Below.refl _ _).alloc (Nat.le_refl _) _⟩
  | ahead k t =>
    obtain ⟨hk, _⟩ := hw
    show Calls Tryz.prog 324 #[.agg #[.int .i64 k, partV t]] w fun e w' => e = .returned (.int .i64 6) ∧ Below w.heap.size w w'
    rw [partV_eq]
    generalize partX t = px
    generalize partT t = pt
    have h0 := hg.lt
    have g3 := (hg 3 (by omega)).2
    have g4 := (hg 4 (by omega)).2
    have e3 : tgI 3 = 6 := rfl
    have e4 : tgI 4 = 6 := rfl
    rw [e3] at g3
    rw [e4] at g4
    clear hg
    rcases hk with rfl | rfl
    · go_enter Tryz.func324, Tryz.ntmps324
      go_wp2
      go_ret
      exact ⟨rfl, (Below.refl _ _).alloc (Nat.le_refl _) _⟩
    · go_enter Tryz.func324, Tryz.ntmps324
      go_wp2
      go_ret
      exact ⟨rfl, (Below.refl _ _).alloc (Nat.le_refl _) _⟩
  | pair k l r =>
    obtain ⟨hk, _, _⟩ := hw
    show Calls Tryz.prog 317 #[.agg #[.int .i64 k, partV l, partV r]] w fun e w' => e = .returned (.int .i64 (lvl k)) ∧ Below w.heap.size w w'
    rw [partV_eq l, partV_eq r]
    generalize partX l = px
    generalize partT l = pt
    generalize partX r = qx
    generalize partT r = qt
    have h0 := hg.lt
    obtain ⟨n, rfl⟩ : ∃ n : Nat, k = n := ⟨k.toNat, by omega⟩
    have g := (hg n (by omega)).2
    have e : tgI n = lvl n := by unfold tgI; rw [if_neg (by omega), if_pos (by omega)]
    rw [e] at g
    have hn : n < 14 := by omega
    generalize lvl (n : Int) = lv at *
    clear hg e
    go_enter Tryz.func317, Tryz.ntmps317
    go_wp2
    go_ret
    exact ⟨rfl, (Below.refl _ _).alloc (Nat.le_refl _) _⟩
end Go.Proofs.YtchemhjcknkbgaaGreatDoor

/- How a part is written, by its methods: parentheses, numbers, names, signs. -/
namespace Go.Proofs.YtchemhjcknkbgaaGreatDoor
open Go Go.RowKit Go.PlainAid
set_option linter.unusedSimpArgs false
set_option linter.unusedVariables false

def TextOk (t : Tree) : Prop := ∀ (w : World), Tabs w → Calls Tryz.prog (textFn t) #[partX t] w fun e w' => e = .returned (.string (textT t)) ∧ Below w.heap.size w w'

set_option maxHeartbeats 800000 in
set_option maxRecDepth 100000 in
theorem textWithin_any (t : Tree) (least : Int) (w : World) (hw : Tabs w) (hf : Wf t) (hT : TextOk t) (hx : (textT t).size ≤ 100000) :
    Calls Tryz.prog 319 #[partV t, .int .i64 least] w fun e w' => e = .returned (.string (parT t (textT t) least)) ∧ Below w.heap.size w w' := by
  have HW : Hid (Tabs w) := hw
  have HTG : Hid (∀ w, Tabs w → Calls Tryz.prog (tightFn t) #[partX t] w fun e w' => e = .returned (.int .i64 (tightT t)) ∧ Below w.heap.size w w') := fun w h => tight_any t w h.signs hf
  have HTX : Hid (∀ w, Tabs w → Calls Tryz.prog (textFn t) #[partX t] w fun e w' => e = .returned (.string (textT t)) ∧ Below w.heap.size w w') := fun w h => hT w h
  have HC1 : Hid (∀ u, (callMethod (.iface (partT t) (partX t)) "loop.example/telltale/impl.tight" #[]).run Tryz.prog u = .ok (.enter (tightFn t) #[partX t]) u) := tight_method t
  have HC2 : Hid (∀ u, (callMethod (.iface (partT t) (partX t)) "loop.example/telltale/impl.text" #[]).run Tryz.prog u = .ok (.enter (textFn t) #[partX t]) u) := text_method t
  unfold parT
  rw [partV_eq]
  generalize partX t = px at *
  generalize partT t = pt at *
  generalize tightFn t = f1 at *
  generalize textFn t = f2 at *
  generalize tightT t = tg at *
  generalize textT t = x at *
  clear hw hf hT
  by_cases hlt : tg < least
  · rw [if_pos hlt]
    go_enter Tryz.func319, Tryz.ntmps319
    go_wp2_with (refine wpList_invoke0 rfl (.tmp 5) _ _ rfl pt px f1 rfl (HC1.out _) (HTG.out _ HW.out) ?_)
    intro e w1 he hb1
    subst he
    refine ⟨_, rfl, ?_⟩
    have HB1 : Hid (Below w.heap.size w w1) := hb1
    have HW1 : Hid (Tabs w1) := HW.out.below hb1
    clear hb1
    go_wp2_with (refine wpList_invoke0 rfl (.tmp 9) _ _ rfl pt px f2 rfl (HC2.out _) (HTX.out _ HW1.out) ?_)
    intro e w2 he hb2
    subst he
    refine ⟨_, rfl, ?_⟩
    have HB2 : Hid (Below w.heap.size w w2) := HB1.out.trans (hb2.mono HB1.out.size)
    clear hb2
    go_wp2_with fail
    go_ret
    exact ⟨rfl, HB2.out⟩
  · rw [if_neg hlt]
    go_enter Tryz.func319, Tryz.ntmps319
    go_wp2_with (refine wpList_invoke0 rfl (.tmp 5) _ _ rfl pt px f1 rfl (HC1.out _) (HTG.out _ HW.out) ?_)
    intro e w1 he hb1
    subst he
    refine ⟨_, rfl, ?_⟩
    have HB1 : Hid (Below w.heap.size w w1) := hb1
    have HW1 : Hid (Tabs w1) := HW.out.below hb1
    clear hb1
    go_wp2_with (refine wpList_invoke0 rfl (.tmp 13) _ _ rfl pt px f2 rfl (HC2.out _) (HTX.out _ HW1.out) ?_)
    intro e w2 he hb2
    subst he
    refine ⟨_, rfl, ?_⟩
    have HB2 : Hid (Below w.heap.size w w2) := HB1.out.trans (hb2.mono HB1.out.size)
    clear hb2
    go_wp2_with fail
    go_ret
    exact ⟨rfl, HB2.out⟩

theorem numText_any (n : Int) (h0 : -9223372036854775808 ≤ n) (h1 : n ≤ 9223372036854775807) : TextOk (.num n) := by
  intro w hw
  show Calls Tryz.prog 332 #[.agg #[.int .i64 n]] w fun e w' => e = .returned (.string ⟨(Lib.itoa n).toArray⟩) ∧ Below w.heap.size w w'
  have hb0 : Below w.heap.size w (w.alloc (.cells #[.int .i64 n] 312)) := (Below.refl _ _).alloc (Nat.le_refl _) _
  have HT : Hid (Tabs (w.alloc (.cells #[.int .i64 n] 312))) := hw.below hb0
  have HB0 : Hid (Below w.heap.size w (w.alloc (.cells #[.int .i64 n] 312))) := hb0
  have HI : Hid (∀ w, Tabs w → Calls Tryz.prog 282 #[.int .i64 n] w fun e w' => e = .returned (.string ⟨(Lib.itoa n).toArray⟩) ∧ Below w.heap.size w w') := fun w h =>
    (Tryz.strconv_Itoa n h0 h1 w h.tens).mono (by rintro e w' ⟨rfl, k, os, rfl⟩; exact ⟨rfl, Lib.below_grow _ _ (Nat.le_refl _) k os⟩)
  generalize (ByteArray.mk (Lib.itoa n).toArray) = x at *
  clear hw hb0
  go_enter Tryz.func332, Tryz.ntmps332
  go_wp2_with (go_at_call 282; refine (HI.out _ HT.out).mono ?_; rintro e w1 ⟨rfl, hb1⟩)
  go_ret
  exact ⟨rfl, HB0.out.trans (hb1.mono (by simp))⟩
theorem nameText_any (x : ByteArray) : TextOk (.name x) := by
  intro w hw
  show Calls Tryz.prog 328 #[.agg #[.string x]] w fun e w' => e = .returned (.string x) ∧ Below w.heap.size w w'
  clear hw
  go_enter Tryz.func328, Tryz.ntmps328
  go_wp2
  go_ret
  exact ⟨rfl, (Below.refl _ _).alloc (Nat.le_refl _) _⟩
theorem parT_size (t : Tree) {x : ByteArray} (hx : x.size ≤ 100000) (least : Int) : (parT t x least).size ≤ 100002 := by
  unfold parT
  split
  · rw [ByteArray.size_append, ByteArray.size_append]
    have e1 : lpar.size = 1 := rfl
    have e2 : rpar.size = 1 := rfl
    omega
  · omega
theorem wrap_small {n : Int} (h0 : 0 ≤ n) (h1 : n ≤ 1000) : IntKind.i64.wrap n = n := by rw [IntKind.wrap_i64]; omega
theorem below_dr {B : Nat} {a w : World} (h : Below B a w) : Below B a w.drew := ⟨h.os, h.tape, h.output, h.size, h.block⟩
theorem Tabs.drew {w : World} (h : Tabs w) : Tabs w.drew := ⟨h.signs, h.tens⟩

set_option maxHeartbeats 800000 in
set_option maxRecDepth 100000 in
theorem aheadText_any (k : Int) (t : Tree) (hk : k = 3 ∨ k = 4) (hf : Wf t) (hT : TextOk t) (hx : (textT t).size ≤ 100000) : TextOk (.ahead k t) := by
  intro w hw
  obtain ⟨n, rfl⟩ : ∃ n : Nat, k = n := ⟨k.toNat, by omega⟩
  have e0 : textT (.ahead n t) = sgI n ++ parT t (textT t) 6 := by rw [textT]; simp
  have hw0 : Tabs (w.alloc (.cells #[.int .i64 n, partV t] 270)) := hw.below ((Below.refl _ _).alloc (Nat.le_refl _) _)
  have HTG : Hid (∀ w, Tabs w → Calls Tryz.prog 324 #[.agg #[.int .i64 n, partV t]] w fun e w' => e = .returned (.int .i64 6) ∧ Below w.heap.size w w') := fun w h => tight_any (.ahead n t) w h.signs ⟨hk, hf⟩
  have HTW : Hid (∀ w, Tabs w → Calls Tryz.prog 319 #[partV t, .int .i64 6] w fun e w' => e = .returned (.string (parT t (textT t) 6)) ∧ Below w.heap.size w w') := fun w h => textWithin_any t 6 w h hf hT hx
  have g0 := (hw.signs n (by omega)).1
  have h0 := hw.signs.lt
  have hps : (parT t (textT t) 6).size ≤ 100002 := parT_size t hx 6
  have hsz := sgI_size n
  show Calls Tryz.prog 323 #[.agg #[.int .i64 n, partV t]] w fun e w' => e = .returned (.string (textT (.ahead n t))) ∧ Below w.heap.size w w'
  rw [e0]
  have hn14 : n < 14 := by omega
  have hnI : (n : Int) < 14 := by omega
  have hnJ : (0 : Int) ≤ n := by omega
  rw [partV_eq] at *
  generalize partX t = px at *
  generalize partT t = pt at *
  generalize parT t (textT t) 6 = y at *
  generalize sgI n = x at *
  have hcat : ¬ 9223372036854775807 < x.size + y.size := by omega
  clear hw e0 hT hx hf hk
  go_enter Tryz.func323, Tryz.ntmps323
  go_wp2_with fail
  go_region_held3 (fun w' => w'.cell? ⟨w.heap.size, 0, none⟩ = some (.int .i64 n) ∧ w'.cell? ⟨w.heap.size, 1, none⟩ = some (.iface pt px) ∧ w'.cell? ⟨0, n * 2, none⟩ = some (.string x)) (simp [go_sem, *])
    (first
     | (go_at_call 324; refine (HTG.out _ (by first | assumption | exact Tabs.drew (by assumption))).mono ?_; rintro e w1 ⟨rfl, hb1⟩; have hT1 : Tabs w1 := Tabs.below (by first | assumption | exact Tabs.drew (by assumption)) hb1; have hs1 : w.heap.size < w1.heap.size := (by have := hb1.size; simp at this; omega); have hz1 : 0 < w1.heap.size := (by omega); obtain ⟨hc1, hf1⟩ := bcell hb1)
     | (go_at_call 319; refine (HTW.out _ (by first | assumption | exact Tabs.drew (by assumption))).mono ?_; rintro e w2 ⟨rfl, hb2⟩; have hs2 : w.heap.size < w2.heap.size := (by have := hb2.size; omega); obtain ⟨hc2, hf2⟩ := bcell hb2))
  all_goals
    go_wp2_with fail
    go_ret
    have B0 : Below w.heap.size w (w.alloc (.cells #[.int .i64 n, .iface pt px] 270)) := (Below.refl _ _).alloc (Nat.le_refl _) _
    exact ⟨rfl, (B0.trans ((undrew hb1).mono (by simp))).trans (hb2.mono (by omega))⟩

set_option maxHeartbeats 3200000 in
set_option maxRecDepth 100000 in
theorem pairText_any (k : Int) (t r : Tree) (hk : 5 ≤ k ∧ k ≤ 13) (hf : Wf t) (hT : TextOk t) (hx : (textT t).size ≤ 100000) (hfr : Wf r) (hR : TextOk r) (hxr : (textT r).size ≤ 100000) : TextOk (.pair k t r) := by
  intro w hw
  obtain ⟨n, rfl⟩ : ∃ n : Nat, k = n := ⟨k.toNat, by omega⟩
  have e0 : textT (.pair n t r) = parT t (textT t) (lvl n) ++ sg n ++ parT r (textT r) (lvl n + 1) := by rw [textT]; simp
  have hb0 : Below w.heap.size w (w.alloc (.cells #[.int .i64 n, partV t, partV r] 239)) := (Below.refl _ _).alloc (Nat.le_refl _) _
  have hw0 : Tabs (w.alloc (.cells #[.int .i64 n, partV t, partV r] 239)) := hw.below hb0
  have HTG : Hid (∀ w, Tabs w → Calls Tryz.prog 317 #[.agg #[.int .i64 n, partV t, partV r]] w fun e w' => e = .returned (.int .i64 (lvl n)) ∧ Below w.heap.size w w') := fun w h => tight_any (.pair n t r) w h.signs ⟨hk, hf, hfr⟩
  have HTW : Hid (∀ w, Tabs w → Calls Tryz.prog 319 #[partV t, .int .i64 (lvl n)] w fun e w' => e = .returned (.string (parT t (textT t) (lvl n))) ∧ Below w.heap.size w w') := fun w h => textWithin_any t (lvl n) w h hf hT hx
  have HRW : Hid (∀ w, Tabs w → Calls Tryz.prog 319 #[partV r, .int .i64 (lvl n + 1)] w fun e w' => e = .returned (.string (parT r (textT r) (lvl n + 1))) ∧ Below w.heap.size w w') := fun w h => textWithin_any r (lvl n + 1) w h hfr hR hxr
  have g0 := (hw.signs n (by omega)).1
  have esg : sgI n = sg n := by unfold sgI; rw [if_neg (by omega), if_neg (by omega)]
  rw [esg] at g0
  have h0 := hw.signs.lt
  have hps := parT_size t hx (lvl n)
  have hqs := parT_size r hxr (lvl n + 1)
  have hsz := sg_size n
  have hlv := lvl_range n
  obtain ⟨hlv1, hlv2⟩ := hlv
  show Calls Tryz.prog 316 #[.agg #[.int .i64 n, partV t, partV r]] w fun e w' => e = .returned (.string (textT (.pair n t r))) ∧ Below w.heap.size w w'
  rw [e0]
  have hn14 : n < 14 := by omega
  have hnI : (n : Int) < 14 := by omega
  have hnJ : (0 : Int) ≤ n := by omega
  rw [partV_eq t, partV_eq r] at *
  generalize partX t = px at *
  generalize partT t = pt at *
  generalize partX r = qx at *
  generalize partT r = qt at *
  generalize parT t (textT t) (lvl n) = y at *
  generalize parT r (textT r) (lvl n + 1) = z at *
  generalize sg n = x at *
  generalize lvl (n : Int) = lv at *
  have hwr : IntKind.i64.wrap (lv + 1) = lv + 1 := wrap_small (by omega) (by omega)
  have hcat : ¬ 9223372036854775807 < y.size + x.size := by omega
  have hcat2 : ¬ 9223372036854775807 < (y ++ x).size + z.size := by rw [ByteArray.size_append]; omega
  have hcat3 : ¬ 9223372036854775807 < y.size + x.size + z.size := by omega
  clear hw e0 hT hx hf hk hfr hR hxr esg
  go_enter Tryz.func316, Tryz.ntmps316
  go_wp2_with fail
  go_region_held3 (fun w' => w'.cell? ⟨w.heap.size, 0, none⟩ = some (.int .i64 n) ∧ w'.cell? ⟨w.heap.size, 1, none⟩ = some (.iface pt px) ∧ w'.cell? ⟨w.heap.size, 2, none⟩ = some (.iface qt qx) ∧ w'.cell? ⟨0, n * 2, none⟩ = some (.string x)) (simp [go_sem, *])
    (first
     | (go_at_call 317; refine (HTG.out _ (by first | assumption | exact Tabs.drew (by assumption))).mono ?_; rintro e w1 ⟨rfl, hb1⟩; have hT1 : Tabs w1 := Tabs.below (by first | assumption | exact Tabs.drew (by assumption)) hb1; have hB1 : Below w.heap.size w w1 := Below.trans (by first | assumption | exact below_dr (by assumption)) (hb1.mono (by first | omega | (simp; omega) | simp)); have hs1 : w.heap.size < w1.heap.size := (by have := hb1.size; first | omega | (simp at this; omega)); have hz1 : 0 < w1.heap.size := (by omega); obtain ⟨hc1, hf1⟩ := bcell hb1; clear hb1 hf1)
     | (go_at_call_of 319 px; refine (HTW.out _ (by first | assumption | exact Tabs.drew (by assumption))).mono ?_; rintro e w2 ⟨rfl, hb2⟩; have hT2 : Tabs w2 := Tabs.below (by first | assumption | exact Tabs.drew (by assumption)) hb2; have hB2 : Below w.heap.size w w2 := Below.trans (by first | assumption | exact below_dr (by assumption)) (hb2.mono (by first | omega | (simp; omega) | simp)); have hs2 : w.heap.size < w2.heap.size := (by have := hb2.size; first | omega | (simp at this; omega)); have hz2 : 0 < w2.heap.size := (by omega); obtain ⟨hc2, hf2⟩ := bcell hb2; clear hb2 hf2)
     | (go_at_call_of 319 qx; refine (HRW.out _ (by first | assumption | exact Tabs.drew (by assumption))).mono ?_; rintro e w3 ⟨rfl, hb3⟩; have hT3 : Tabs w3 := Tabs.below (by first | assumption | exact Tabs.drew (by assumption)) hb3; have hB3 : Below w.heap.size w w3 := Below.trans (by first | assumption | exact below_dr (by assumption)) (hb3.mono (by first | omega | (simp; omega) | simp)); have hs3 : w.heap.size < w3.heap.size := (by have := hb3.size; first | omega | (simp at this; omega)); have hz3 : 0 < w3.heap.size := (by omega); obtain ⟨hc3, hf3⟩ := bcell hb3; clear hb3 hf3))
  all_goals
    go_wp2_with fail
    go_ret
    exact ⟨rfl, by assumption⟩

theorem parT_le (t : Tree) (x : ByteArray) (least : Int) : (parT t x least).size ≤ x.size + 2 := by
  unfold parT
  split
  · rw [ByteArray.size_append, ByteArray.size_append]
    have e1 : lpar.size = 1 := rfl
    have e2 : rpar.size = 1 := rfl
    omega
  · omega
theorem text_size (t : Tree) (h : Wf t) : (textT t).size ≤ 30 * t.nodes.length := by
  induction t with
  | num n =>
    have := Lib.itoa_length_le n h.1 h.2
    show (Lib.itoa n).toArray.size ≤ 30 * 1
    simp; omega
  | name x =>
    have : x.size ≤ 6 := h
    show x.size ≤ 30 * 1
    omega
  | ahead k t ih =>
    have h1 := ih h.2
    have h2 := parT_le t (textT t) 6
    have h3 := sgI_size k.toNat
    show (sgI k.toNat ++ parT t (textT t) 6).size ≤ 30 * (t.nodes ++ [sgn k]).length
    rw [ByteArray.size_append, List.length_append]
    simp
    omega
  | pair k l r ihl ihr =>
    have h1 := ihl h.2.1
    have h2 := ihr h.2.2
    have h3 := parT_le l (textT l) (lvl k)
    have h4 := parT_le r (textT r) (lvl k + 1)
    have h5 := sg_size k.toNat
    show (parT l (textT l) (lvl k) ++ sg k.toNat ++ parT r (textT r) (lvl k + 1)).size ≤ 30 * (l.nodes ++ r.nodes ++ [sgn k]).length
    rw [ByteArray.size_append, ByteArray.size_append, List.length_append, List.length_append]
    simp
    omega
theorem text_ok (t : Tree) (h : Wf t) (hl : t.nodes.length ≤ 1000) : TextOk t := by
  induction t with
  | num n => exact numText_any n h.1 h.2
  | name x => exact nameText_any x
  | ahead k t ih =>
    have hl' : t.nodes.length + 1 ≤ 1000 := by simpa [Tree.nodes] using hl
    have := text_size t h.2
    exact aheadText_any k t h.1 h.2 (ih h.2 (by omega)) (by omega)
  | pair k l r ihl ihr =>
    have hl' : l.nodes.length + (r.nodes.length + 1) ≤ 1000 := by simpa [Tree.nodes] using hl
    have h1 := text_size l h.2.1
    have h2 := text_size r h.2.2
    exact pairText_any k l r h.1 h.2.1 (ihl h.2.1 (by omega)) (by omega) h.2.2 (ihr h.2.2 (by omega)) (by omega)
end Go.Proofs.YtchemhjcknkbgaaGreatDoor

/- The program's stack of parts; the part that nodes are. -/
namespace Go.Proofs.YtchemhjcknkbgaaGreatDoor
open Go Go.RowKit Go.PlainAid
set_option linter.unusedSimpArgs false
set_option linter.unusedVariables false

theorem infoPart : (Tryz.prog.info? 187).map (fun i => (i.zero, i.size, i.bytes)) = some (some .nilIface, 1, 16) := by kernel_rfl

def partsV (st : List Tree) : List Value := st.reverse.map partV

/-- block p is a stack that holds st, its top first -/
def StkP (p : Nat) (w : World) (st : List Tree) : Prop :=
  ∃ v, w.cell? ⟨p, 0, none⟩ = some v ∧ w.frozen? ⟨p, 0, none⟩ = false ∧ w.ownsRow (p + 1) 187 1 v st.length (partsV st)

theorem StkP.lt {p : Nat} {w : World} {st : List Tree} (h : StkP p w st) : p < w.heap.size := by
  obtain ⟨v, hc, _⟩ := h
  exact World.block_lt_of_cell? w _ hc

theorem oneP_new (w : World) (v : Value) (t : TypeId) : ∀ j u, [v][j]? = some u → (w.alloc (.cells #[v] t)).cell? ((⟨w.heap.size, 0, none⟩ : Addr).add j) = some u := by
  intro j u hj
  match j, hj with
  | 0, hj => simp at hj; subst hj; simp [Addr.add]
theorem grownP_old {w w1 : World} {row : Option Nat} (hg : w.grownBy w1 row) {b : Nat} (o : Nat) (hb : b < w.heap.size) (hne : some b ≠ row) : w1.cell? ⟨b, o, none⟩ = w.cell? ⟨b, o, none⟩ ∧ w1.frozen? ⟨b, o, none⟩ = w.frozen? ⟨b, o, none⟩ :=
  ⟨World.cell?_of_block (hg.block b hb hne), World.frozen?_of_block (hg.block b hb hne)⟩
theorem partsV_cons (x : Tree) (st : List Tree) : partsV (x :: st) = partsV st ++ [partV x] := by simp [partsV]

set_option maxHeartbeats 800000 in
set_option maxRecDepth 100000 in
theorem pushP_any (p : Nat) (x : Tree) (st : List Tree) (w : World) (hs : StkP p w st) (hl : st.length ≤ 1048576) :
    Calls Tryz.prog 256 #[.pointer (some ⟨p, 0, none⟩), partV x] w fun e w' => e = .returned (.tuple #[]) ∧ StkP p w' (x :: st) ∧ Below p w w' := by
  have hlt := hs.lt
  obtain ⟨tv, xv, hpv⟩ := partV_form x
  have HPV : Hid (partV x = .iface tv xv) := hpv
  rw [hpv]
  clear hpv
  obtain ⟨v, hc, hf, hown⟩ := hs
  obtain ⟨i0, hi, hz0, hz1, hz2⟩ := info_parts infoPart
  go_enter Tryz.func256, Tryz.ntmps256
  go_wp2_with (at_builtin; refine wpList_append_own _ rfl _ _ 313 rfl (p + 1) 187 i0 (.nilIface) 1 16 Tryz.underlying313 hi hz0 hz1 hz2 rfl (by decide) _ _ _ rfl (hown.alloc _) ⟨w.heap.size, 0, none⟩ 1 1 [.iface tv xv] rfl rfl ?c1 ?c2 ?c3 ?c4 ?c5 ?_)
  case c1 => exact oneP_new _ _ _
  case c2 => intro u hu; simp at hu; subst hu; rfl
  case c3 => unfold maxLen; omega
  case c4 => omega
  case c5 => simp; omega
  · intro v' w1 hown' hgrow _
    have hne : some p ≠ v.ownBlock := fun e => by have := (hown.lt p e.symm).1; omega
    obtain ⟨g1, g2⟩ := grownP_old hgrow 0 (by simp; omega) hne
    have g1' : w1.cell? ⟨p, 0, none⟩ = some v := g1.trans ((World.cell?_alloc_past _ _ _ hlt).trans hc)
    have g2' : w1.frozen? ⟨p, 0, none⟩ = false := g2.trans ((World.frozen?_alloc_past _ _ _ hlt).trans hf)
    have hb : Below p w w1 := ((Below.refl p w).alloc (by omega) _).grown hgrow (by simp; omega) (fun k hk => by have := (hown.lt k hk).1; omega)
    obtain ⟨g, cap, hv⟩ : ∃ g cap, v' = .slice (some ⟨g, 0, none⟩) (st.length + 1) cap := by
      rcases hown'.2 with ⟨_, h⟩ | ⟨g, cap, cur, h, _⟩
      · simp at h
      · exact ⟨g, cap, h⟩
    subst hv
    have HO : Hid (w1.ownsRow (p + 1) 187 1 (.slice (some ⟨g, 0, none⟩) (st.length + 1) cap) (st.length + 1) (partsV st ++ [.iface tv xv])) := hown'
    clear hown' hgrow hown g1 g2
    go_wp2
    go_end0
    refine ⟨rfl, ⟨_, World.cell?_setCell_same _ _ _ g1', by simpa using g2', ?_⟩, hb.setCell (by simp) _⟩
    rw [partsV_cons, HPV.out]
    exact ownsRow_setCell_below HO.out (by simp) _

set_option maxHeartbeats 800000 in
set_option maxRecDepth 100000 in
theorem popP_any (p : Nat) (x : Tree) (st : List Tree) (w : World) (hs : StkP p w (x :: st)) (hl : st.length ≤ 1048576) :
    Calls Tryz.prog 257 #[.pointer (some ⟨p, 0, none⟩)] w fun e w' => e = .returned (.tuple #[partV x, .bool true]) ∧ StkP p w' st ∧ Below p w w' ∧ w'.heap.size = w.heap.size ∧ ∀ b o, b ≠ p → w'.cell? ⟨b, o, none⟩ = w.cell? ⟨b, o, none⟩ := by
  have hlt := hs.lt
  obtain ⟨tv, xv, hpv⟩ := partV_form x
  have HPV : Hid (partV x = .iface tv xv) := hpv
  rw [hpv]
  obtain ⟨v, hc, hf, hown⟩ := hs
  obtain ⟨g, cap, rfl⟩ : ∃ g cap, v = .slice (some ⟨g, 0, none⟩) (st.length + 1) cap := by
    rcases hown.2 with ⟨_, h⟩ | ⟨g, cap, cur, h, _⟩
    · simp at h
    · exact ⟨g, cap, h⟩
  rw [partsV_cons] at hown
  have hx : w.cell? ⟨g, st.length, none⟩ = some (.iface tv xv) := by
    rw [hown.cellAt st.length (by simp)]
    simp [partsV, hpv]
  have hpop := ownsRow_pop (n := st.length) (by simp [partsV]) hown
  have HP : Hid (w.ownsRow (p + 1) 187 1 (.slice (some ⟨g, 0, none⟩) st.length cap) st.length (partsV st)) := hpop
  have hcap : st.length + 1 ≤ cap := by
    rcases hown.2 with ⟨h, _⟩ | ⟨g', cap', cur, h, _, _, h3, _⟩
    · simp at h
    · simp at h; simp at h3; omega
  clear hown hpop hpv
  go_enter Tryz.func257, Tryz.ntmps257
  go_wp2
  go_ret2
  refine ⟨rfl, ⟨_, World.cell?_setCell_same _ _ _ hc, by simpa using hf, ownsRow_setCell_below HP.out (by simp) _⟩, (Below.refl _ _).setCell (by simp) _, by simp [World.setCell], fun b o hb => World.cell?_setCell_other _ _ _ _ (by intro h; injection h with h; exact hb h.symm)⟩
end Go.Proofs.YtchemhjcknkbgaaGreatDoor
