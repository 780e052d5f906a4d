/- How a part is written, by its methods. -/
import Derived.Test.YtbpfonmkbbnkcaaGreatDoorBunD
import Derived.Test.YtbpfonmkbbnkcaaGreatDoorShelf
import Derived.Lib.AppendIntMem
import Derived.Deep.RegionHeld3
import Derived.Lib.ItoaLen
import Derived.Deep.RegionWith
import Derived.Test.YtbpfonmkbbnkcaaGreatDoorBunB
namespace Go.Proofs.YtbpfonmkbbnkcaaGreatDoor
open Go Go.RowKit Go.PlainAid
set_option linter.unusedSimpArgs false
set_option linter.unusedVariables false

/-- the tables that the program reads -/
structure Tabs (w : World) : Prop where
  signs : Signs w
  tens : Lib.TabIs Tryz.prog w "internal/strconv.uint64pow10" .u64 Lib.pow10Tab
theorem Tabs.below {w w' : World} (h : Tabs w) (hb : Below w.heap.size w w') : Tabs w' :=
  ⟨fun k hk => ⟨(hb.cell h.signs.lt).trans (h.signs k hk).1, (hb.cell h.signs.lt).trans (h.signs k hk).2⟩, Lib.tabBelow_of_tabIs h.tens w' hb⟩

def tightT : Tree → Int
  | .num _ => 7
  | .name _ => 7
  | .ahead _ _ => 6
  | .pair k _ _ => lvl k
/-- a part within another one -/
def parT (t : Tree) (x : ByteArray) (least : Int) : ByteArray := if tightT t < least then lpar ++ x ++ rpar else x
def textT : Tree → ByteArray
  | .num n => ⟨(Lib.itoa n).toArray⟩
  | .name x => x
  | .ahead k t => sgI k.toNat ++ parT t (textT t) 6
  | .pair k l r => parT l (textT l) (lvl k) ++ sg k.toNat ++ parT r (textT r) (lvl k + 1)
/-- signs are signs, numbers are Go's -/
def Wf : Tree → Prop
  | .num n => -9223372036854775808 ≤ n ∧ n ≤ 9223372036854775807
  | .name x => x.size ≤ 6
  | .ahead k t => (k = 3 ∨ k = 4) ∧ Wf t
  | .pair k l r => (5 ≤ k ∧ k ≤ 13) ∧ Wf l ∧ Wf r
def tightFn : Tree → FuncId
  | .num _ => 200
  | .name _ => 204
  | .ahead _ _ => 208
  | .pair _ _ _ => 195
def textFn : Tree → FuncId
  | .num _ => 199
  | .name _ => 203
  | .ahead _ _ => 207
  | .pair _ _ _ => 194
theorem tight_method (t : Tree) (u : World) : (callMethod (.iface (partT t) (partX t)) "loop.example/telltale/impl.tight" #[]).run Tryz.prog u = .ok (.enter (tightFn t) #[partX t]) u := by
  cases t
  · kernel_rfl
  · kernel_rfl
  · kernel_rfl
  · kernel_rfl
theorem text_method (t : Tree) (u : World) : (callMethod (.iface (partT t) (partX t)) "loop.example/telltale/impl.text" #[]).run Tryz.prog u = .ok (.enter (textFn t) #[partX t]) u := by
  cases t
  · kernel_rfl
  · kernel_rfl
  · kernel_rfl
  · kernel_rfl
theorem wpList_invoke0 {P : Program} {w : World} {ops : Array Oper} {rest : List Oper} {o : Oper} {a : Act} {Q : Exit → Act → World → Prop} (hgd : o.guard = none) (recv : Operand) (name : String) (ts : Array TypeId)
    (ho : o.op = .call { callee := .invoke recv name, args := #[], argTypes := ts }) (pt : TypeId) (px : Value) (fn : FuncId) (hr : a.eval recv = .iface pt px)
    (hcm : (callMethod (.iface pt px) name #[]).run P w = .ok (.enter fn #[px]) w) {post : Ending → World → Prop} (hc : Calls P fn #[px] w post) (h : ∀ e w', post e w' → ∃ v, e = .returned v ∧ wpList P ops Q rest (a.put o.dst v) w') : wpList P ops Q (o :: rest) a w :=
  wpList_plain hgd fun K hK => by
    unfold Oper.wp execOp
    simp only [ho, resolve, invoke, Sem.run_bind, Sem.run_pure, Result.andThen_ok, List.map_toArray, List.map_cons, List.map_nil, hr]
    have e1 : (#[Value.iface pt px] ++ #[])[0]? = some (.iface pt px) := rfl
    have e2 : (#[Value.iface pt px] ++ #[]).extract 1 = #[] := rfl
    rw [e1, e2]
    simp only [hcm]
    refine hc.mono ?_
    intro e w' he
    obtain ⟨v, rfl, hk⟩ := h e w' he
    exact hK _ _ hk

theorem tight_any (t : Tree) (w : World) (hg : Signs w) (hw : Wf t) : Calls Tryz.prog (tightFn t) #[partX t] w fun e w' => e = .returned (.int .i64 (tightT t)) ∧ Below w.heap.size w w' := by
  cases t with
  | num n =>
    show Calls Tryz.prog 200 #[.agg #[.int .i64 n]] w _
    go_enter Tryz.func200, Tryz.ntmps200
    go_wp2
    go_ret
    exact ⟨rfl, (Below.refl _ _).alloc (Nat.le_refl _) _⟩
  | name x =>
    show Calls Tryz.prog 204 #[.agg #[.string x]] w _
    go_enter Tryz.func204, Tryz.ntmps204
    go_wp2
    go_ret
    exact ⟨rfl, (Below.refl _ _).alloc (Nat.le_refl _) _⟩
  | ahead k t =>
    obtain ⟨hk, _⟩ := hw
    show Calls Tryz.prog 208 #[.agg #[.int .i64 k, partV t]] w fun e w' => e = .returned (.int .i64 6) ∧ Below w.heap.size w w'
    rw [partV_eq]
    generalize partX t = px
    generalize partT t = pt
    have h0 := hg.lt
    have g3 := (hg 3 (by omega)).2
    have g4 := (hg 4 (by omega)).2
    have e3 : tgI 3 = 6 := rfl
    have e4 : tgI 4 = 6 := rfl
    rw [e3] at g3
    rw [e4] at g4
    clear hg
    rcases hk with rfl | rfl
    · go_enter Tryz.func208, Tryz.ntmps208
      go_wp2
      go_ret
      exact ⟨rfl, (Below.refl _ _).alloc (Nat.le_refl _) _⟩
    · go_enter Tryz.func208, Tryz.ntmps208
      go_wp2
      go_ret
      exact ⟨rfl, (Below.refl _ _).alloc (Nat.le_refl _) _⟩
  | pair k l r =>
    obtain ⟨hk, _, _⟩ := hw
    show Calls Tryz.prog 195 #[.agg #[.int .i64 k, partV l, partV r]] w fun e w' => e = .returned (.int .i64 (lvl k)) ∧ Below w.heap.size w w'
    rw [partV_eq l, partV_eq r]
    generalize partX l = px
    generalize partT l = pt
    generalize partX r = qx
    generalize partT r = qt
    have h0 := hg.lt
    obtain ⟨n, rfl⟩ : ∃ n : Nat, k = n := ⟨k.toNat, by omega⟩
    have g := (hg n (by omega)).2
    have e : tgI n = lvl n := by unfold tgI; rw [if_neg (by omega), if_pos (by omega)]
    rw [e] at g
    have hn : n < 14 := by omega
    generalize lvl (n : Int) = lv at *
    clear hg e
    go_enter Tryz.func195, Tryz.ntmps195
    go_wp2
    go_ret
    exact ⟨rfl, (Below.refl _ _).alloc (Nat.le_refl _) _⟩
end Go.Proofs.YtbpfonmkbbnkcaaGreatDoor

/- How a part is written, by its methods: parentheses, numbers, names, signs. -/
namespace Go.Proofs.YtbpfonmkbbnkcaaGreatDoor
open Go Go.RowKit Go.PlainAid
set_option linter.unusedSimpArgs false
set_option linter.unusedVariables false

def TextOk (t : Tree) : Prop := ∀ (w : World), Tabs w → Calls Tryz.prog (textFn t) #[partX t] w fun e w' => e = .returned (.string (textT t)) ∧ Below w.heap.size w w'

set_option maxHeartbeats 800000 in
set_option maxRecDepth 100000 in
theorem textWithin_any (t : Tree) (least : Int) (w : World) (hw : Tabs w) (hf : Wf t) (hT : TextOk t) (hx : (textT t).size ≤ 100000) :
    Calls Tryz.prog 197 #[partV t, .int .i64 least] w fun e w' => e = .returned (.string (parT t (textT t) least)) ∧ Below w.heap.size w w' := by
  have HW : Hid (Tabs w) := hw
  have HTG : Hid (∀ w, Tabs w → Calls Tryz.prog (tightFn t) #[partX t] w fun e w' => e = .returned (.int .i64 (tightT t)) ∧ Below w.heap.size w w') := fun w h => tight_any t w h.signs hf
  have HTX : Hid (∀ w, Tabs w → Calls Tryz.prog (textFn t) #[partX t] w fun e w' => e = .returned (.string (textT t)) ∧ Below w.heap.size w w') := fun w h => hT w h
  have HC1 : Hid (∀ u, (callMethod (.iface (partT t) (partX t)) "loop.example/telltale/impl.tight" #[]).run Tryz.prog u = .ok (.enter (tightFn t) #[partX t]) u) := tight_method t
  have HC2 : Hid (∀ u, (callMethod (.iface (partT t) (partX t)) "loop.example/telltale/impl.text" #[]).run Tryz.prog u = .ok (.enter (textFn t) #[partX t]) u) := text_method t
  unfold parT
  rw [partV_eq]
  generalize partX t = px at *
  generalize partT t = pt at *
  generalize tightFn t = f1 at *
  generalize textFn t = f2 at *
  generalize tightT t = tg at *
  generalize textT t = x at *
  clear hw hf hT
  by_cases hlt : tg < least
  · rw [if_pos hlt]
    go_enter Tryz.func197, Tryz.ntmps197
    go_wp2_with (refine wpList_invoke0 rfl (.tmp 5) _ _ rfl pt px f1 rfl (HC1.out _) (HTG.out _ HW.out) ?_)
    intro e w1 he hb1
    subst he
    refine ⟨_, rfl, ?_⟩
    have HB1 : Hid (Below w.heap.size w w1) := hb1
    have HW1 : Hid (Tabs w1) := HW.out.below hb1
    clear hb1
    go_wp2_with (refine wpList_invoke0 rfl (.tmp 9) _ _ rfl pt px f2 rfl (HC2.out _) (HTX.out _ HW1.out) ?_)
    intro e w2 he hb2
    subst he
    refine ⟨_, rfl, ?_⟩
    have HB2 : Hid (Below w.heap.size w w2) := HB1.out.trans (hb2.mono HB1.out.size)
    clear hb2
    go_wp2_with fail
    go_ret
    exact ⟨rfl, HB2.out⟩
  · rw [if_neg hlt]
    go_enter Tryz.func197, Tryz.ntmps197
    go_wp2_with (refine wpList_invoke0 rfl (.tmp 5) _ _ rfl pt px f1 rfl (HC1.out _) (HTG.out _ HW.out) ?_)
    intro e w1 he hb1
    subst he
    refine ⟨_, rfl, ?_⟩
    have HB1 : Hid (Below w.heap.size w w1) := hb1
    have HW1 : Hid (Tabs w1) := HW.out.below hb1
    clear hb1
    go_wp2_with (refine wpList_invoke0 rfl (.tmp 13) _ _ rfl pt px f2 rfl (HC2.out _) (HTX.out _ HW1.out) ?_)
    intro e w2 he hb2
    subst he
    refine ⟨_, rfl, ?_⟩
    have HB2 : Hid (Below w.heap.size w w2) := HB1.out.trans (hb2.mono HB1.out.size)
    clear hb2
    go_wp2_with fail
    go_ret
    exact ⟨rfl, HB2.out⟩

theorem numText_any (n : Int) (h0 : -9223372036854775808 ≤ n) (h1 : n ≤ 9223372036854775807) : TextOk (.num n) := by
  intro w hw
  show Calls Tryz.prog 199 #[.agg #[.int .i64 n]] w fun e w' => e = .returned (.string ⟨(Lib.itoa n).toArray⟩) ∧ Below w.heap.size w w'
  have hb0 : Below w.heap.size w (w.alloc (.cells #[.int .i64 n] 149)) := (Below.refl _ _).alloc (Nat.le_refl _) _
  have HT : Hid (Tabs (w.alloc (.cells #[.int .i64 n] 149))) := hw.below hb0
  have HB0 : Hid (Below w.heap.size w (w.alloc (.cells #[.int .i64 n] 149))) := hb0
  have HI : Hid (∀ w, Tabs w → Calls Tryz.prog 158 #[.int .i64 n] w fun e w' => e = .returned (.string ⟨(Lib.itoa n).toArray⟩) ∧ Below w.heap.size w w') := fun w h =>
    (Tryz.strconv_Itoa n h0 h1 w h.tens).mono (by rintro e w' ⟨rfl, k, os, rfl⟩; exact ⟨rfl, Lib.below_grow _ _ (Nat.le_refl _) k os⟩)
  generalize (ByteArray.mk (Lib.itoa n).toArray) = x at *
  clear hw hb0
  go_enter Tryz.func199, Tryz.ntmps199
  go_wp2_with (go_at_call 158; refine (HI.out _ HT.out).mono ?_; rintro e w1 ⟨rfl, hb1⟩)
  go_ret
  exact ⟨rfl, HB0.out.trans (hb1.mono (by simp))⟩
theorem nameText_any (x : ByteArray) : TextOk (.name x) := by
  intro w hw
  show Calls Tryz.prog 203 #[.agg #[.string x]] w fun e w' => e = .returned (.string x) ∧ Below w.heap.size w w'
  clear hw
  go_enter Tryz.func203, Tryz.ntmps203
  go_wp2
  go_ret
  exact ⟨rfl, (Below.refl _ _).alloc (Nat.le_refl _) _⟩
theorem parT_size (t : Tree) {x : ByteArray} (hx : x.size ≤ 100000) (least : Int) : (parT t x least).size ≤ 100002 := by
  unfold parT
  split
  · rw [ByteArray.size_append, ByteArray.size_append]
    have e1 : lpar.size = 1 := rfl
    have e2 : rpar.size = 1 := rfl
    omega
  · omega
theorem wrap_small {n : Int} (h0 : 0 ≤ n) (h1 : n ≤ 1000) : IntKind.i64.wrap n = n := by rw [IntKind.wrap_i64]; omega
theorem below_dr {B : Nat} {a w : World} (h : Below B a w) : Below B a w.drew := ⟨h.os, h.tape, h.output, h.size, h.block⟩
theorem Tabs.drew {w : World} (h : Tabs w) : Tabs w.drew := ⟨h.signs, h.tens⟩

set_option maxHeartbeats 800000 in
set_option maxRecDepth 100000 in
theorem aheadText_any (k : Int) (t : Tree) (hk : k = 3 ∨ k = 4) (hf : Wf t) (hT : TextOk t) (hx : (textT t).size ≤ 100000) : TextOk (.ahead k t) := by
  intro w hw
  obtain ⟨n, rfl⟩ : ∃ n : Nat, k = n := ⟨k.toNat, by omega⟩
  have e0 : textT (.ahead n t) = sgI n ++ parT t (textT t) 6 := by rw [textT]; simp
  have hw0 : Tabs (w.alloc (.cells #[.int .i64 n, partV t] 153)) := hw.below ((Below.refl _ _).alloc (Nat.le_refl _) _)
  have HTG : Hid (∀ w, Tabs w → Calls Tryz.prog 208 #[.agg #[.int .i64 n, partV t]] w fun e w' => e = .returned (.int .i64 6) ∧ Below w.heap.size w w') := fun w h => tight_any (.ahead n t) w h.signs ⟨hk, hf⟩
  have HTW : Hid (∀ w, Tabs w → Calls Tryz.prog 197 #[partV t, .int .i64 6] w fun e w' => e = .returned (.string (parT t (textT t) 6)) ∧ Below w.heap.size w w') := fun w h => textWithin_any t 6 w h hf hT hx
  have g0 := (hw.signs n (by omega)).1
  have h0 := hw.signs.lt
  have hps : (parT t (textT t) 6).size ≤ 100002 := parT_size t hx 6
  have hsz := sgI_size n
  show Calls Tryz.prog 207 #[.agg #[.int .i64 n, partV t]] w fun e w' => e = .returned (.string (textT (.ahead n t))) ∧ Below w.heap.size w w'
  rw [e0]
  have hn14 : n < 14 := by omega
  have hnI : (n : Int) < 14 := by omega
  have hnJ : (0 : Int) ≤ n := by omega
  rw [partV_eq] at *
  generalize partX t = px at *
  generalize partT t = pt at *
  generalize parT t (textT t) 6 = y at *
  generalize sgI n = x at *
  have hcat : ¬ 9223372036854775807 < x.size + y.size := by omega
  clear hw e0 hT hx hf hk
  go_enter Tryz.func207, Tryz.ntmps207
  go_wp2_with fail
  go_region_held3 (fun w' => w'.cell? ⟨w.heap.size, 0, none⟩ = some (.int .i64 n) ∧ w'.cell? ⟨w.heap.size, 1, none⟩ = some (.iface pt px) ∧ w'.cell? ⟨0, n * 2, none⟩ = some (.string x)) (simp [go_sem, *])
    (first
     | (go_at_call 208; refine (HTG.out _ (by first | assumption | exact Tabs.drew (by assumption))).mono ?_; rintro e w1 ⟨rfl, hb1⟩; have hT1 : Tabs w1 := Tabs.below (by first | assumption | exact Tabs.drew (by assumption)) hb1; have hs1 : w.heap.size < w1.heap.size := (by have := hb1.size; simp at this; omega); have hz1 : 0 < w1.heap.size := (by omega); obtain ⟨hc1, hf1⟩ := bcell hb1)
     | (go_at_call 197; refine (HTW.out _ (by first | assumption | exact Tabs.drew (by assumption))).mono ?_; rintro e w2 ⟨rfl, hb2⟩; have hs2 : w.heap.size < w2.heap.size := (by have := hb2.size; omega); obtain ⟨hc2, hf2⟩ := bcell hb2))
  all_goals
    go_wp2_with fail
    go_ret
    have B0 : Below w.heap.size w (w.alloc (.cells #[.int .i64 n, .iface pt px] 153)) := (Below.refl _ _).alloc (Nat.le_refl _) _
    exact ⟨rfl, (B0.trans ((undrew hb1).mono (by simp))).trans (hb2.mono (by omega))⟩

set_option maxHeartbeats 3200000 in
set_option maxRecDepth 100000 in
theorem pairText_any (k : Int) (t r : Tree) (hk : 5 ≤ k ∧ k ≤ 13) (hf : Wf t) (hT : TextOk t) (hx : (textT t).size ≤ 100000) (hfr : Wf r) (hR : TextOk r) (hxr : (textT r).size ≤ 100000) : TextOk (.pair k t r) := by
  intro w hw
  obtain ⟨n, rfl⟩ : ∃ n : Nat, k = n := ⟨k.toNat, by omega⟩
  have e0 : textT (.pair n t r) = parT t (textT t) (lvl n) ++ sg n ++ parT r (textT r) (lvl n + 1) := by rw [textT]; simp
  have hb0 : Below w.heap.size w (w.alloc (.cells #[.int .i64 n, partV t, partV r] 140)) := (Below.refl _ _).alloc (Nat.le_refl _) _
  have hw0 : Tabs (w.alloc (.cells #[.int .i64 n, partV t, partV r] 140)) := hw.below hb0
  have HTG : Hid (∀ w, Tabs w → Calls Tryz.prog 195 #[.agg #[.int .i64 n, partV t, partV r]] w fun e w' => e = .returned (.int .i64 (lvl n)) ∧ Below w.heap.size w w') := fun w h => tight_any (.pair n t r) w h.signs ⟨hk, hf, hfr⟩
  have HTW : Hid (∀ w, Tabs w → Calls Tryz.prog 197 #[partV t, .int .i64 (lvl n)] w fun e w' => e = .returned (.string (parT t (textT t) (lvl n))) ∧ Below w.heap.size w w') := fun w h => textWithin_any t (lvl n) w h hf hT hx
  have HRW : Hid (∀ w, Tabs w → Calls Tryz.prog 197 #[partV r, .int .i64 (lvl n + 1)] w fun e w' => e = .returned (.string (parT r (textT r) (lvl n + 1))) ∧ Below w.heap.size w w') := fun w h => textWithin_any r (lvl n + 1) w h hfr hR hxr
  have g0 := (hw.signs n (by omega)).1
  have esg : sgI n = sg n := by unfold sgI; rw [if_neg (by omega), if_neg (by omega)]
  rw [esg] at g0
  have h0 := hw.signs.lt
  have hps := parT_size t hx (lvl n)
  have hqs := parT_size r hxr (lvl n + 1)
  have hsz := sg_size n
  have hlv := lvl_range n
  obtain ⟨hlv1, hlv2⟩ := hlv
  show Calls Tryz.prog 194 #[.agg #[.int .i64 n, partV t, partV r]] w fun e w' => e = .returned (.string (textT (.pair n t r))) ∧ Below w.heap.size w w'
  rw [e0]
  have hn14 : n < 14 := by omega
  have hnI : (n : Int) < 14 := by omega
  have hnJ : (0 : Int) ≤ n := by omega
  rw [partV_eq t, partV_eq r] at *
  generalize partX t = px at *
  generalize partT t = pt at *
  generalize partX r = qx at *
  generalize partT r = qt at *
  generalize parT t (textT t) (lvl n) = y at *
  generalize parT r (textT r) (lvl n + 1) = z at *
  generalize sg n = x at *
  generalize lvl (n : Int) = lv at *
  have hwr : IntKind.i64.wrap (lv + 1) = lv + 1 := wrap_small (by omega) (by omega)
  have hcat : ¬ 9223372036854775807 < y.size + x.size := by omega
  have hcat2 : ¬ 9223372036854775807 < (y ++ x).size + z.size := by rw [ByteArray.size_append]; omega
  have hcat3 : ¬ 9223372036854775807 < y.size + x.size + z.size := by omega
  clear hw e0 hT hx hf hk hfr hR hxr esg
  go_enter Tryz.func194, Tryz.ntmps194
  go_wp2_with fail
  go_region_held3 (fun w' => w'.cell? ⟨w.heap.size, 0, none⟩ = some (.int .i64 n) ∧ w'.cell? ⟨w.heap.size, 1, none⟩ = some (.iface pt px) ∧ w'.cell? ⟨w.heap.size, 2, none⟩ = some (.iface qt qx) ∧ w'.cell? ⟨0, n * 2, none⟩ = some (.string x)) (simp [go_sem, *])
    (first
     | (go_at_call 195; refine (HTG.out _ (by first | assumption | exact Tabs.drew (by assumption))).mono ?_; rintro e w1 ⟨rfl, hb1⟩; have hT1 : Tabs w1 := Tabs.below (by first | assumption | exact Tabs.drew (by assumption)) hb1; have hB1 : Below w.heap.size w w1 := Below.trans (by first | assumption | exact below_dr (by assumption)) (hb1.mono (by first | omega | (simp; omega) | simp)); have hs1 : w.heap.size < w1.heap.size := (by have := hb1.size; first | omega | (simp at this; omega)); have hz1 : 0 < w1.heap.size := (by omega); obtain ⟨hc1, hf1⟩ := bcell hb1; clear hb1 hf1)
     | (go_at_call_of 197 px; refine (HTW.out _ (by first | assumption | exact Tabs.drew (by assumption))).mono ?_; rintro e w2 ⟨rfl, hb2⟩; have hT2 : Tabs w2 := Tabs.below (by first | assumption | exact Tabs.drew (by assumption)) hb2; have hB2 : Below w.heap.size w w2 := Below.trans (by first | assumption | exact below_dr (by assumption)) (hb2.mono (by first | omega | (simp; omega) | simp)); have hs2 : w.heap.size < w2.heap.size := (by have := hb2.size; first | omega | (simp at this; omega)); have hz2 : 0 < w2.heap.size := (by omega); obtain ⟨hc2, hf2⟩ := bcell hb2; clear hb2 hf2)
     | (go_at_call_of 197 qx; refine (HRW.out _ (by first | assumption | exact Tabs.drew (by assumption))).mono ?_; rintro e w3 ⟨rfl, hb3⟩; have hT3 : Tabs w3 := Tabs.below (by first | assumption | exact Tabs.drew (by assumption)) hb3; have hB3 : Below w.heap.size w w3 := Below.trans (by first | assumption | exact below_dr (by assumption)) (hb3.mono (by first | omega | (simp; omega) | simp)); have hs3 : w.heap.size < w3.heap.size := (by have := hb3.size; first | omega | (simp at this; omega)); have hz3 : 0 < w3.heap.size := (by omega); obtain ⟨hc3, hf3⟩ := bcell hb3; clear hb3 hf3))
  all_goals
    go_wp2_with fail
    go_ret
    exact ⟨rfl, by assumption⟩

theorem parT_le (t : Tree) (x : ByteArray) (least : Int) : (parT t x least).size ≤ x.size + 2 := by
  unfold parT
  split
  · rw [ByteArray.size_append, ByteArray.size_append]
    have e1 : lpar.size = 1 := rfl
    have e2 : rpar.size = 1 := rfl
    omega
  · omega
theorem text_size (t : Tree) (h : Wf t) : (textT t).size ≤ 30 * t.nodes.length := by
  induction t with
  | num n =>
    have := Lib.itoa_length_le n h.1 h.2
    show (Lib.itoa n).toArray.size ≤ 30 * 1
    simp; omega
  | name x =>
    have : x.size ≤ 6 := h
    show x.size ≤ 30 * 1
    omega
  | ahead k t ih =>
    have h1 := ih h.2
    have h2 := parT_le t (textT t) 6
    have h3 := sgI_size k.toNat
    show (sgI k.toNat ++ parT t (textT t) 6).size ≤ 30 * (t.nodes ++ [sgn k]).length
    rw [ByteArray.size_append, List.length_append]
    simp
    omega
  | pair k l r ihl ihr =>
    have h1 := ihl h.2.1
    have h2 := ihr h.2.2
    have h3 := parT_le l (textT l) (lvl k)
    have h4 := parT_le r (textT r) (lvl k + 1)
    have h5 := sg_size k.toNat
    show (parT l (textT l) (lvl k) ++ sg k.toNat ++ parT r (textT r) (lvl k + 1)).size ≤ 30 * (l.nodes ++ r.nodes ++ [sgn k]).length
    rw [ByteArray.size_append, ByteArray.size_append, List.length_append, List.length_append]
    simp
    omega
theorem text_ok (t : Tree) (h : Wf t) (hl : t.nodes.length ≤ 1000) : TextOk t := by
  induction t with
  | num n => exact numText_any n h.1 h.2
  | name x => exact nameText_any x
  | ahead k t ih =>
    have hl' : t.nodes.length + 1 ≤ 1000 := by simpa [Tree.nodes] using hl
    have := text_size t h.2
    exact aheadText_any k t h.1 h.2 (ih h.2 (by omega)) (by omega)
  | pair k l r ihl ihr =>
    have hl' : l.nodes.length + (r.nodes.length + 1) ≤ 1000 := by simpa [Tree.nodes] using hl
    have h1 := text_size l h.2.1
    have h2 := text_size r h.2.2
    exact pairText_any k l r h.1 h.2.1 (ihl h.2.1 (by omega)) (by omega) h.2.2 (ihr h.2.2 (by omega)) (by omega)
end Go.Proofs.YtbpfonmkbbnkcaaGreatDoor

/- The program's stack of parts; the part that nodes are. -/
namespace Go.Proofs.YtbpfonmkbbnkcaaGreatDoor
open Go Go.RowKit Go.PlainAid
set_option linter.unusedSimpArgs false
set_option linter.unusedVariables false

theorem infoPart : (Tryz.prog.info? 65).map (fun i => (i.zero, i.size, i.bytes)) = some (some .nilIface, 1, 16) := by kernel_rfl

def partsV (st : List Tree) : List Value := st.reverse.map partV

/-- block p is a stack that holds st, its top first -/
def StkP (p : Nat) (w : World) (st : List Tree) : Prop :=
  ∃ v, w.cell? ⟨p, 0, none⟩ = some v ∧ w.frozen? ⟨p, 0, none⟩ = false ∧ w.ownsRow (p + 1) 65 1 v st.length (partsV st)

theorem StkP.lt {p : Nat} {w : World} {st : List Tree} (h : StkP p w st) : p < w.heap.size := by
  obtain ⟨v, hc, _⟩ := h
  exact World.block_lt_of_cell? w _ hc

theorem oneP_new (w : World) (v : Value) (t : TypeId) : ∀ j u, [v][j]? = some u → (w.alloc (.cells #[v] t)).cell? ((⟨w.heap.size, 0, none⟩ : Addr).add j) = some u := by
  intro j u hj
  match j, hj with
  | 0, hj => simp at hj; subst hj; simp [Addr.add]
theorem grownP_old {w w1 : World} {row : Option Nat} (hg : w.grownBy w1 row) {b : Nat} (o : Nat) (hb : b < w.heap.size) (hne : some b ≠ row) : w1.cell? ⟨b, o, none⟩ = w.cell? ⟨b, o, none⟩ ∧ w1.frozen? ⟨b, o, none⟩ = w.frozen? ⟨b, o, none⟩ :=
  ⟨World.cell?_of_block (hg.block b hb hne), World.frozen?_of_block (hg.block b hb hne)⟩
theorem partsV_cons (x : Tree) (st : List Tree) : partsV (x :: st) = partsV st ++ [partV x] := by simp [partsV]

set_option maxHeartbeats 800000 in
set_option maxRecDepth 100000 in
theorem pushP_any (p : Nat) (x : Tree) (st : List Tree) (w : World) (hs : StkP p w st) (hl : st.length ≤ 1048576) :
    Calls Tryz.prog 93 #[.pointer (some ⟨p, 0, none⟩), partV x] w fun e w' => e = .returned (.tuple #[]) ∧ StkP p w' (x :: st) ∧ Below p w w' := by
  have hlt := hs.lt
  obtain ⟨tv, xv, hpv⟩ := partV_form x
  have HPV : Hid (partV x = .iface tv xv) := hpv
  rw [hpv]
  clear hpv
  obtain ⟨v, hc, hf, hown⟩ := hs
  obtain ⟨i0, hi, hz0, hz1, hz2⟩ := info_parts infoPart
  go_enter Tryz.func93, Tryz.ntmps93
  go_wp2_with (at_builtin; refine wpList_append_own _ rfl _ _ 124 rfl (p + 1) 65 i0 (.nilIface) 1 16 Tryz.underlying124 hi hz0 hz1 hz2 rfl (by decide) _ _ _ rfl (hown.alloc _) ⟨w.heap.size, 0, none⟩ 1 1 [.iface tv xv] rfl rfl ?c1 ?c2 ?c3 ?c4 ?c5 ?_)
  case c1 => exact oneP_new _ _ _
  case c2 => intro u hu; simp at hu; subst hu; rfl
  case c3 => unfold maxLen; omega
  case c4 => omega
  case c5 => simp; omega
  · intro v' w1 hown' hgrow _
    have hne : some p ≠ v.ownBlock := fun e => by have := (hown.lt p e.symm).1; omega
    obtain ⟨g1, g2⟩ := grownP_old hgrow 0 (by simp; omega) hne
    have g1' : w1.cell? ⟨p, 0, none⟩ = some v := g1.trans ((World.cell?_alloc_past _ _ _ hlt).trans hc)
    have g2' : w1.frozen? ⟨p, 0, none⟩ = false := g2.trans ((World.frozen?_alloc_past _ _ _ hlt).trans hf)
    have hb : Below p w w1 := ((Below.refl p w).alloc (by omega) _).grown hgrow (by simp; omega) (fun k hk => by have := (hown.lt k hk).1; omega)
    obtain ⟨g, cap, hv⟩ : ∃ g cap, v' = .slice (some ⟨g, 0, none⟩) (st.length + 1) cap := by
      rcases hown'.2 with ⟨_, h⟩ | ⟨g, cap, cur, h, _⟩
      · simp at h
      · exact ⟨g, cap, h⟩
    subst hv
    have HO : Hid (w1.ownsRow (p + 1) 65 1 (.slice (some ⟨g, 0, none⟩) (st.length + 1) cap) (st.length + 1) (partsV st ++ [.iface tv xv])) := hown'
    clear hown' hgrow hown g1 g2
    go_wp2
    go_end0
    refine ⟨rfl, ⟨_, World.cell?_setCell_same _ _ _ g1', by simpa using g2', ?_⟩, hb.setCell (by simp) _⟩
    rw [partsV_cons, HPV.out]
    exact ownsRow_setCell_below HO.out (by simp) _

set_option maxHeartbeats 800000 in
set_option maxRecDepth 100000 in
theorem popP_any (p : Nat) (x : Tree) (st : List Tree) (w : World) (hs : StkP p w (x :: st)) (hl : st.length ≤ 1048576) :
    Calls Tryz.prog 94 #[.pointer (some ⟨p, 0, none⟩)] w fun e w' => e = .returned (.tuple #[partV x, .bool true]) ∧ StkP p w' st ∧ Below p w w' ∧ w'.heap.size = w.heap.size ∧ ∀ b o, b ≠ p → w'.cell? ⟨b, o, none⟩ = w.cell? ⟨b, o, none⟩ := by
  have hlt := hs.lt
  obtain ⟨tv, xv, hpv⟩ := partV_form x
  have HPV : Hid (partV x = .iface tv xv) := hpv
  rw [hpv]
  obtain ⟨v, hc, hf, hown⟩ := hs
  obtain ⟨g, cap, rfl⟩ : ∃ g cap, v = .slice (some ⟨g, 0, none⟩) (st.length + 1) cap := by
    rcases hown.2 with ⟨_, h⟩ | ⟨g, cap, cur, h, _⟩
    · simp at h
    · exact ⟨g, cap, h⟩
  rw [partsV_cons] at hown
  have hx : w.cell? ⟨g, st.length, none⟩ = some (.iface tv xv) := by
    rw [hown.cellAt st.length (by simp)]
    simp [partsV, hpv]
  have hpop := ownsRow_pop (n := st.length) (by simp [partsV]) hown
  have HP : Hid (w.ownsRow (p + 1) 65 1 (.slice (some ⟨g, 0, none⟩) st.length cap) st.length (partsV st)) := hpop
  have hcap : st.length + 1 ≤ cap := by
    rcases hown.2 with ⟨h, _⟩ | ⟨g', cap', cur, h, _, _, h3, _⟩
    · simp at h
    · simp at h; simp at h3; omega
  clear hown hpop hpv
  go_enter Tryz.func94, Tryz.ntmps94
  go_wp2
  go_ret2
  refine ⟨rfl, ⟨_, World.cell?_setCell_same _ _ _ hc, by simpa using hf, ownsRow_setCell_below HP.out (by simp) _⟩, (Below.refl _ _).setCell (by simp) _, by simp [World.setCell], fun b o hb => World.cell?_setCell_other _ _ _ _ (by intro h; injection h with h; exact hb h.symm)⟩
end Go.Proofs.YtbpfonmkbbnkcaaGreatDoor

/- partOf, treeOf: the part that nodes are. -/
namespace Go.Proofs.YtbpfonmkbbnkcaaGreatDoor
open Go Go.RowKit Go.PlainAid
set_option linter.unusedSimpArgs false
set_option linter.unusedVariables false

theorem popP_none (p : Nat) (w : World) (hs : StkP p w []) : Calls Tryz.prog 94 #[.pointer (some ⟨p, 0, none⟩)] w fun e w' => e = .returned (.tuple #[.nilIface, .bool false]) ∧ w' = w := by
  obtain ⟨v, hc, hf, hown⟩ := hs
  obtain ⟨a, cap, rfl⟩ : ∃ a cap, v = .slice a 0 cap := by
    rcases hown.2 with ⟨h, _⟩ | ⟨g, cap, cur, h, _⟩
    · exact ⟨none, 0, h⟩
    · exact ⟨_, cap, h⟩
  clear hown hf
  go_enter Tryz.func94, Tryz.ntmps94
  go_wp2
  go_ret2
  exact ⟨rfl, rfl⟩
theorem StkP.alloc {p : Nat} {w : World} {st : List Tree} (h : StkP p w st) (o : Obj) : StkP p (w.alloc o) st := by
  have hlt := h.lt
  obtain ⟨v, hc, hf, hown⟩ := h
  exact ⟨v, (World.cell?_alloc_past _ _ _ hlt).trans hc, (World.frozen?_alloc_past _ _ _ hlt).trans hf, hown.alloc _⟩

/-- one node more: the part that it is, and what stays of those that stood -/
def treeStep (x : Nd) (st : List Tree) : Option (Tree × List Tree) :=
  if x.1 = 1 then some (.num x.2.1, st)
  else if x.1 = 2 then (if nmB x.2.2 = true then some (.name x.2.2, st) else none)
  else if x.1 = 3 ∨ x.1 = 4 then (match st with | t :: r => some (.ahead x.1 t, r) | [] => none)
  else if 5 ≤ x.1 ∧ x.1 ≤ 13 then (match st with | r :: l :: s => some (.pair x.1 l r, s) | _ => none)
  else none

/-- what partOf leaves -/
def PartPost (p : Nat) (w : World) (R : Option (Tree × List Tree)) (e : Ending) (w' : World) : Prop :=
  Below p w w' ∧ match R with
    | none => ∃ v, IsPart v ∧ e = .returned (.tuple #[v, .bool false])
    | some (t, st') => e = .returned (.tuple #[partV t, .bool true]) ∧ StkP p w' st'

theorem isAhead_is {k : Int} {b : Bool} (h : decide (k = 3 ∨ k = 4) = b) (w : World) : Calls Tryz.prog 86 #[.int .i64 k] w fun e w' => e = .returned (.bool b) ∧ w' = w := by
  subst h
  by_cases h : k = 3
  · subst h
    go_enter Tryz.func86, Tryz.ntmps86
    go_wp2
    go_ret
    exact ⟨rfl, rfl⟩
  · have h' : (k == 3) = false := by simp [h]
    go_enter Tryz.func86, Tryz.ntmps86
    go_wp2
    go_ret
    exact ⟨ret_bool (by simp [h]; by_cases h4 : k = 4 <;> simp [h4]), rfl⟩
theorem isPair_is {k : Int} {b : Bool} (h : decide (5 ≤ k ∧ k ≤ 13) = b) (w : World) : Calls Tryz.prog 87 #[.int .i64 k] w fun e w' => e = .returned (.bool b) ∧ w' = w := by
  subst h
  by_cases h : 5 ≤ k
  · go_enter Tryz.func87, Tryz.ntmps87
    go_wp2
    go_ret
    exact ⟨ret_bool (by simp [h]), rfl⟩
  · go_enter Tryz.func87, Tryz.ntmps87
    go_wp2
    go_ret
    exact ⟨ret_bool (by simp; omega), rfl⟩

set_option maxHeartbeats 1600000 in
set_option maxRecDepth 100000 in
theorem partOf_any (p : Nat) (k n : Int) (y : ByteArray) (st : List Tree) (w : World) (hs : StkP p w st) (hl : st.length ≤ 1000) (hy : y.size ≤ 1048576) :
    Calls Tryz.prog 92 #[.agg #[.int .i64 k, .int .i64 n, .string y], .pointer (some ⟨p, 0, none⟩)] w fun e w' => PartPost p w (treeStep (k, n, y) st) e w' := by
  have hlt := hs.lt
  have HS : Hid (StkP p w st) := hs
  have B0 : Hid (Below p w (w.alloc (.cells #[.int .i64 k, .int .i64 n, .string y] 38))) := (Below.refl _ _).alloc (by omega) _
  have HS0 : Hid (StkP p (w.alloc (.cells #[.int .i64 k, .int .i64 n, .string y] 38)) st) := hs.alloc _
  unfold treeStep
  simp only
  clear hs
  by_cases h1 : k = 1
  · rw [if_pos h1]
    subst h1
    go_enter Tryz.func92, Tryz.ntmps92
    go_wp2_with fail
    go_ret2
    exact ⟨B0.out, rfl, HS0.out⟩
  rw [if_neg h1]
  have e1 : (k == 1) = false := by simp [h1]
  by_cases h2 : k = 2
  · rw [if_pos h2]
    subst h2
    have HN : Hid (∀ w, Calls Tryz.prog 112 #[.string y] w fun e w' => e = .returned (.bool (nmB y)) ∧ w' = w) := fun w => implNameOk_any y w (by unfold maxLen; omega)
    cases hn : nmB y
    · rw [hn] at HN
      rw [if_neg (by decide)]
      go_enter Tryz.func92, Tryz.ntmps92
      go_wp2_with fail
      go_quiet ((go_at_call 112; exact Calls.quiet_of_same (HN.out _)))
      go_wp2_with fail
      go_ret2
      exact ⟨below_drewN B0.out _, _, partV_is (.name y), rfl⟩
    · rw [hn] at HN
      rw [if_pos rfl]
      go_enter Tryz.func92, Tryz.ntmps92
      go_wp2_with fail
      go_quiet ((go_at_call 112; exact Calls.quiet_of_same (HN.out _)))
      go_wp2_with fail
      go_ret2
      exact ⟨below_drewN B0.out _, rfl, HS0.out⟩
  rw [if_neg h2]
  have e2 : (k == 2) = false := by simp [h2]
  by_cases h3 : k = 3 ∨ k = 4
  · rw [if_pos h3]
    have d3 : decide (k = 3 ∨ k = 4) = true := decide_eq_true h3
    match st, HS0, hl with
    | [], HS0, _ =>
      simp only
      go_enter Tryz.func92, Tryz.ntmps92
      go_wp2_with (first | (go_at_call 86; refine (isAhead_is d3 _).mono ?_; rintro e w' ⟨rfl, hw'⟩; rw [hw']; clear hw' w') | (go_at_call 94; refine (popP_none p _ HS0.out).mono ?_; rintro e w' ⟨rfl, hw'⟩; rw [hw']; clear hw' w'))
      go_ret2
      exact ⟨B0.out, _, .inr ⟨_, _, rfl⟩, rfl⟩
    | t :: r, HS0, hl =>
      simp only
      simp only [List.length_cons] at hl
      obtain ⟨tv, xv, hpv⟩ := partV_form t
      have HPV : Hid (partV t = .iface tv xv) := hpv
      have HP : Hid (Calls Tryz.prog 94 #[.pointer (some ⟨p, 0, none⟩)] (w.alloc (.cells #[.int .i64 k, .int .i64 n, .string y] 38)) fun e w' => e = .returned (.tuple #[.iface tv xv, .bool true]) ∧ StkP p w' r ∧ Below p (w.alloc (.cells #[.int .i64 k, .int .i64 n, .string y] 38)) w' ∧ w'.heap.size = (w.alloc (.cells #[.int .i64 k, .int .i64 n, .string y] 38)).heap.size ∧ ∀ b o, b ≠ p → w'.cell? ⟨b, o, none⟩ = (w.alloc (.cells #[.int .i64 k, .int .i64 n, .string y] 38)).cell? ⟨b, o, none⟩) := by
        rw [← hpv]; exact popP_any p t r _ HS0.out (by omega)
      clear hpv
      go_enter Tryz.func92, Tryz.ntmps92
      go_wp2_with (first | (go_at_call 86; refine (isAhead_is d3 _).mono ?_; rintro e w' ⟨rfl, hw'⟩; rw [hw']; clear hw' w') | (go_at_call 94; refine HP.out.mono ?_; rintro e w1 ⟨rfl, hs1, hb1, hz1, hc1⟩; have HS1 : Hid (StkP p w1 r) := hs1; have HB1 : Hid (Below p w w1) := B0.out.trans hb1; have c0 := hc1 w.heap.size 0 (by omega); simp at c0; clear hs1 hb1 hz1 hc1))
      go_ret2
      exact ⟨HB1.out, by rw [partV, HPV.out]; rfl, HS1.out⟩
  rw [if_neg h3]
  have d3 : decide (k = 3 ∨ k = 4) = false := decide_eq_false h3
  by_cases h5 : 5 ≤ k ∧ k ≤ 13
  · rw [if_pos h5]
    have d5 : decide (5 ≤ k ∧ k ≤ 13) = true := decide_eq_true h5
    match st, HS0, hl with
    | [], HS0, _ =>
      simp only
      go_enter Tryz.func92, Tryz.ntmps92
      go_wp2_with (first | (go_at_call 86; refine (isAhead_is d3 _).mono ?_; rintro e w' ⟨rfl, hw'⟩; rw [hw']; clear hw' w') | (go_at_call 87; refine (isPair_is d5 _).mono ?_; rintro e w' ⟨rfl, hw'⟩; rw [hw']; clear hw' w') | (go_at_call 94; refine (popP_none p _ HS0.out).mono ?_; rintro e w' ⟨rfl, hw'⟩; rw [hw']; clear hw' w'))
      go_ret2
      exact ⟨B0.out, _, .inr ⟨_, _, rfl⟩, rfl⟩
    | [t], HS0, hl =>
      simp only
      obtain ⟨tv, xv, hpv⟩ := partV_form t
      have HP : Hid (Calls Tryz.prog 94 #[.pointer (some ⟨p, 0, none⟩)] (w.alloc (.cells #[.int .i64 k, .int .i64 n, .string y] 38)) fun e w' => e = .returned (.tuple #[.iface tv xv, .bool true]) ∧ StkP p w' [] ∧ Below p (w.alloc (.cells #[.int .i64 k, .int .i64 n, .string y] 38)) w' ∧ w'.heap.size = (w.alloc (.cells #[.int .i64 k, .int .i64 n, .string y] 38)).heap.size ∧ ∀ b o, b ≠ p → w'.cell? ⟨b, o, none⟩ = (w.alloc (.cells #[.int .i64 k, .int .i64 n, .string y] 38)).cell? ⟨b, o, none⟩) := by
        rw [← hpv]; exact popP_any p t [] _ HS0.out (by simp)
      clear hpv
      go_enter Tryz.func92, Tryz.ntmps92
      go_wp2_with (first | (go_at_call 86; refine (isAhead_is d3 _).mono ?_; rintro e w' ⟨rfl, hw'⟩; rw [hw']; clear hw' w') | (go_at_call 87; refine (isPair_is d5 _).mono ?_; rintro e w' ⟨rfl, hw'⟩; rw [hw']; clear hw' w'))
      refine HP.out.mono ?_
      rintro e w1 ⟨rfl, hs1, hb1, hz1, hc1⟩
      have HS1 : Hid (StkP p w1 []) := hs1
      have HB1 : Hid (Below p w w1) := B0.out.trans hb1
      have c0 := hc1 w.heap.size 0 (by omega)
      simp at c0
      clear hs1 hb1 hz1 hc1
      go_wp2_with (go_at_call 94; refine (popP_none p _ HS1.out).mono ?_; rintro e w' ⟨rfl, hw'⟩; rw [hw']; clear hw' w')
      go_ret2
      exact ⟨HB1.out, _, .inr ⟨_, _, rfl⟩, rfl⟩
    | r :: l :: q, HS0, hl =>
      simp only
      simp only [List.length_cons] at hl
      obtain ⟨tv, xv, hpv⟩ := partV_form r
      have HPV : Hid (partV r = .iface tv xv) := hpv
      obtain ⟨ul, xl, hpl⟩ := partV_form l
      have HPL : Hid (partV l = .iface ul xl) := hpl
      have HP : Hid (Calls Tryz.prog 94 #[.pointer (some ⟨p, 0, none⟩)] (w.alloc (.cells #[.int .i64 k, .int .i64 n, .string y] 38)) fun e w' => e = .returned (.tuple #[.iface tv xv, .bool true]) ∧ StkP p w' (l :: q) ∧ Below p (w.alloc (.cells #[.int .i64 k, .int .i64 n, .string y] 38)) w' ∧ w'.heap.size = (w.alloc (.cells #[.int .i64 k, .int .i64 n, .string y] 38)).heap.size ∧ ∀ b o, b ≠ p → w'.cell? ⟨b, o, none⟩ = (w.alloc (.cells #[.int .i64 k, .int .i64 n, .string y] 38)).cell? ⟨b, o, none⟩) := by
        rw [← hpv]; exact popP_any p r (l :: q) _ HS0.out (by simp; omega)
      have HQ : Hid (∀ w1, StkP p w1 (l :: q) → Calls Tryz.prog 94 #[.pointer (some ⟨p, 0, none⟩)] w1 fun e w' => e = .returned (.tuple #[.iface ul xl, .bool true]) ∧ StkP p w' q ∧ Below p w1 w' ∧ w'.heap.size = w1.heap.size ∧ ∀ b o, b ≠ p → w'.cell? ⟨b, o, none⟩ = w1.cell? ⟨b, o, none⟩) := fun w1 h => by
        rw [← hpl]; exact popP_any p l q w1 h (by omega)
      clear hpv hpl
      go_enter Tryz.func92, Tryz.ntmps92
      go_wp2_with (first | (go_at_call 86; refine (isAhead_is d3 _).mono ?_; rintro e w' ⟨rfl, hw'⟩; rw [hw']; clear hw' w') | (go_at_call 87; refine (isPair_is d5 _).mono ?_; rintro e w' ⟨rfl, hw'⟩; rw [hw']; clear hw' w'))
      refine HP.out.mono ?_
      rintro e w1 ⟨rfl, hs1, hb1, hz1, hc1⟩
      have HS1 : Hid (StkP p w1 (l :: q)) := hs1
      have HB1 : Hid (Below p w w1) := B0.out.trans hb1
      have c0 := hc1 w.heap.size 0 (by omega)
      simp at c0
      clear hs1 hb1 hz1 hc1
      go_wp2_with fail
      refine (HQ.out w1 HS1.out).mono ?_
      rintro e w2 ⟨rfl, hs2, hb2, hz2, hc2⟩
      have HS2 : Hid (StkP p w2 q) := hs2
      have HB2 : Hid (Below p w w2) := HB1.out.trans hb2
      have c2 := (hc2 w.heap.size 0 (by omega)).trans c0
      clear hs2 hb2 hz2 hc2 c0
      go_wp2_with fail
      go_ret2
      exact ⟨HB2.out, by rw [partV, HPV.out, HPL.out]; rfl, HS2.out⟩
  rw [if_neg h5]
  have d5 : decide (5 ≤ k ∧ k ≤ 13) = false := decide_eq_false h5
  go_enter Tryz.func92, Tryz.ntmps92
  go_wp2_with (first | (go_at_call 86; refine (isAhead_is d3 _).mono ?_; rintro e w' ⟨rfl, hw'⟩; rw [hw']; clear hw' w') | (go_at_call 87; refine (isPair_is d5 _).mono ?_; rintro e w' ⟨rfl, hw'⟩; rw [hw']; clear hw' w'))
  go_ret2
  exact ⟨B0.out, _, .inl rfl, rfl⟩
end Go.Proofs.YtbpfonmkbbnkcaaGreatDoor

/- treeOf: the part that a list of nodes is. -/
namespace Go.Proofs.YtbpfonmkbbnkcaaGreatDoor
open Go Go.RowKit Go.PlainAid
set_option linter.unusedSimpArgs false
set_option linter.unusedVariables false

def treeNext (x : Nd) (st : List Tree) : Option (List Tree) := match treeStep x st with | none => none | some (t, st') => some (t :: st')
/-- what stands behind the first k nodes -/
def treeTo (l : List Nd) : Nat → Option (List Tree)
  | 0 => some []
  | k + 1 => (treeTo l k).bind (treeNext (l.getD k (0, 0, noName)))
/-- the part that nodes are -/
def treeM (l : List Nd) : Option Tree := if 24 < l.length then none else match treeTo l l.length with | some [t] => some t | _ => none

theorem treeTo_none {l : List Nd} {k n : Nat} (h : k ≤ n) (hk : treeTo l k = none) : treeTo l n = none := by
  induction n with
  | zero => have : k = 0 := by omega
            subst this; exact hk
  | succ n ih =>
    by_cases e : k = n + 1
    · subst e; exact hk
    · simp [treeTo, ih (by omega)]
theorem treeStep_len {x : Nd} {st st' : List Tree} {t : Tree} (h : treeStep x st = some (t, st')) : st'.length ≤ st.length := by
  unfold treeStep at h
  split at h
  · cases h; omega
  · split at h
    · split at h
      · cases h; omega
      · cases h
    · split at h
      · split at h
        · cases h; simp
        · cases h
      · split at h
        · split at h
          · cases h; simp; omega
          · cases h
        · cases h
theorem treeTo_len {l : List Nd} : ∀ k, ∀ {st : List Tree}, treeTo l k = some st → st.length ≤ k := by
  intro k
  induction k with
  | zero => intro st h; simp [treeTo] at h; subst h; simp
  | succ k ih =>
    intro st h
    simp only [treeTo, Option.bind_eq_some_iff] at h
    obtain ⟨st0, h0, h1⟩ := h
    have := ih h0
    unfold treeNext at h1
    split at h1
    · cases h1
    · rename_i t st' hs
      cases h1
      have := treeStep_len hs
      simp; omega

theorem own_keep {w w' : World} {B size n : Nat} {e : TypeId} {v : Value} {xs : List Value} (h : w.ownsRow B e size v n xs) (hb : Below w.heap.size w w') : w'.ownsRow B e size v n xs := by
  have hlt := h.lt
  obtain ⟨h1, h2⟩ := h
  refine ⟨h1, ?_⟩
  rcases h2 with h2 | ⟨g, cap, cur, hv, h3, h4, h5⟩
  · exact .inl h2
  · have hg := (hlt g (by rw [hv]; rfl)).2
    refine .inr ⟨g, cap, cur, hv, h3, ?_, h5⟩
    rw [hb.block g hg]; exact h4
theorem StkP.keep {p : Nat} {w w' : World} {st : List Tree} (h : StkP p w st) (hb : Below w.heap.size w w') : StkP p w' st := by
  have hlt := h.lt
  obtain ⟨v, hc, hf, hown⟩ := h
  exact ⟨v, (hb.cell hlt).trans hc, (hb.frozen hlt).trans hf, own_keep hown hb⟩

/-- what treeOf leaves -/
def TreePost (w : World) (R : Option Tree) (e : Ending) (w' : World) : Prop :=
  Below w.heap.size w w' ∧ match R with
    | none => ∃ v, IsPart v ∧ e = .returned (.tuple #[v, .bool false])
    | some t => e = .returned (.tuple #[partV t, .bool true])

set_option maxHeartbeats 1600000 in
set_option maxRecDepth 100000 in
theorem treeOf_any (B0 : Nat) (a : Option Addr) (n cap : Nat) (l : List Nd) (w : World) (hn : n ≤ 1048576) (hB0 : B0 ≤ w.heap.size) (hsz : ∀ x ∈ l, x.2.2.size ≤ 1048576) (hz : IsNds B0 w a n l) :
    Calls Tryz.prog 68 #[.slice a n cap] w fun e w' => TreePost w (treeM l) e w' := by
  have hlen := hz.1
  have HZ : Hid (IsNds B0 w a n l) := hz
  obtain ⟨R, hR⟩ : ∃ R, treeM l = R := ⟨_, rfl⟩
  have HRR : Hid (treeM l = R) := hR
  rw [hR]
  clear hR hz
  by_cases h24 : 24 < n
  · have hRn : R = none := by rw [← HRR.out]; unfold treeM; rw [if_pos (by omega)]
    subst hRn
    go_enter Tryz.func68, Tryz.ntmps68
    go_wp2_with fail
    go_ret2
    exact ⟨Below.refl _ _, _, .inl rfl, rfl⟩
  have HS0 : Hid (StkP w.heap.size (w.alloc (.cells #[.slice none 0 0] 126)) []) := ⟨.slice none 0 0, by simp, by simp, rfl, .inl ⟨rfl, rfl⟩⟩
  go_enter Tryz.func68, Tryz.ntmps68
  go_wp2_with fail
  go_loopw [14] (fun i wr => ∃ (k : Nat) (st : List Tree), k ≤ n ∧ i = .int .i64 k ∧ Hid (treeTo l k = some st) ∧ Hid (StkP w.heap.size wr st) ∧ Below w.heap.size w wr) (fun i _ => n - (intOf i).toNat)
  case atStart => exact ⟨0, [], Nat.zero_le _, rfl, rfl, HS0.out, (Below.refl _ _).alloc (Nat.le_refl _) _⟩
  case round =>
    obtain ⟨k, st, hk, rfl, HT, HS, hbel⟩ := hrel
    have hst := treeTo_len k HT.out
    have hpw := HS.out.lt
    by_cases hlt : k < n
    · rcases HZ.out.2 with h0 | ⟨b, off, rfl, hb, hc⟩
      · omega
      obtain ⟨⟨xk, xn, xs⟩, hx⟩ : ∃ x, l[k]'(by omega) = x := ⟨_, rfl⟩
      have cc := hc k (by omega)
      rw [hx] at cc
      have HX : Hid (treeTo l (k + 1) = treeNext (xk, xn, xs) st) := by
        show treeTo l (k + 1) = _
        simp only [treeTo, HT.out, Option.bind_some]
        rw [List.getD_eq_getElem?_getD, List.getElem?_eq_getElem (by omega), hx]; rfl
      have hxs : xs.size ≤ 1048576 := by
        have := hsz (l[k]'(by omega)) (List.getElem_mem _)
        rw [hx] at this; exact this
      have c0 := (hbel.cell (p := ⟨b, off + k * 3, none⟩) (by simp; omega)).trans cc.1
      have c1 := (hbel.cell (p := ⟨b, off + k * 3 + 1, none⟩) (by simp; omega)).trans cc.2.1
      have c2 := (hbel.cell (p := ⟨b, off + k * 3 + 1 + 1, none⟩) (by simp; omega)).trans cc.2.2
      have hbw : b < wr.heap.size := by have := hbel.size; omega
      have HP1 : Hid (Calls Tryz.prog 92 #[.agg #[.int .i64 xk, .int .i64 xn, .string xs], .pointer (some ⟨w.heap.size, 0, none⟩)] (wr.alloc (.cells #[.int .i64 xk, .int .i64 xn, .string xs] 38)) fun e w' => PartPost w.heap.size (wr.alloc (.cells #[.int .i64 xk, .int .i64 xn, .string xs] 38)) (treeStep (xk, xn, xs) st) e w') := partOf_any w.heap.size xk xn xs st _ (HS.out.alloc _) (by omega) hxs
      have HB0 : Hid (Below w.heap.size w (wr.alloc (.cells #[.int .i64 xk, .int .i64 xn, .string xs] 38))) := hbel.alloc hbel.size _
      clear hc cc hx
      go_wp2_with fail
      refine HP1.out.mono ?_
      rintro e w2 ⟨hb2, hp2⟩
      have HB2 : Hid (Below w.heap.size w w2) := HB0.out.trans hb2
      clear HP1 HB0 hb2 c0 c1 c2
      cases hts : treeStep (xk, xn, xs) st with
      | none =>
        rw [hts] at hp2
        obtain ⟨v, hv, rfl⟩ := hp2
        have hRn : R = none := by
          rw [← HRR.out]; unfold treeM
          rw [if_neg (by omega), hlen, treeTo_none (n := n) (k := k + 1) (by omega) (by rw [HX.out]; unfold treeNext; rw [hts])]
        subst hRn
        clear hts
        rcases hv with rfl | ⟨tv, xv, rfl⟩
        · go_wp2_with fail
          go_ret2
          exact ⟨HB2.out, _, .inl rfl, rfl⟩
        · go_wp2_with fail
          go_ret2
          exact ⟨HB2.out, _, .inl rfl, rfl⟩
      | some q =>
        obtain ⟨t, st'⟩ := q
        rw [hts] at hp2
        obtain ⟨rfl, hs2⟩ := hp2
        have HT2 : Hid (treeTo l (k + 1) = some (t :: st')) := by
          show treeTo l (k + 1) = _
          rw [HX.out]; unfold treeNext; rw [hts]
        have hl2 := treeStep_len hts
        obtain ⟨tv, xv, hpv⟩ := partV_form t
        have HPU : Hid (Calls Tryz.prog 93 #[.pointer (some ⟨w.heap.size, 0, none⟩), .iface tv xv] w2 fun e w' => e = .returned (.tuple #[]) ∧ StkP w.heap.size w' (t :: st') ∧ Below w.heap.size w2 w') := by
          rw [← hpv]; exact pushP_any _ t st' w2 hs2 (by omega)
        rw [hpv]
        clear hts hpv hs2
        go_wp2_with (go_at_call 93; refine HPU.out.mono ?_; rintro e w3 ⟨rfl, hs3, hb3⟩; have HS3 : Hid (StkP w.heap.size w3 (t :: st')) := hs3; have HB3 : Hid (Below w.heap.size w w3) := HB2.out.trans hb3; clear hs3 hb3)
        go_roundw
        case rel => exact ⟨k + 1, t :: st', by omega, by go_num, HT2, HS3, HB3.out⟩
        case measure => simp [intOf]; omega
    · have : k = n := by omega
      subst this
      obtain ⟨v, hvc, hvf, hown⟩ := HS.out
      obtain ⟨a0, cap0, rfl⟩ : ∃ a0 cap0, v = .slice a0 st.length cap0 := by
        rcases hown.2 with ⟨h, h'⟩ | ⟨g, cap, cur, h, _⟩
        · exact ⟨none, 0, by rw [h, h']⟩
        · exact ⟨_, cap, h⟩
      clear hown hvf
      have HRT : Hid (R = match some st with | some [t] => some t | _ => none) := by
        show R = _
        rw [← HRR.out]; unfold treeM; rw [if_neg (by omega), hlen, HT.out]
      rcases st with _ | ⟨t, _ | ⟨t2, r⟩⟩
      · have hR : R = none := HRT.out
        clear HRT
        subst hR
        simp only [List.length_nil] at hvc
        go_wp2_with fail
        go_ret2
        exact ⟨hbel, _, .inl rfl, rfl⟩
      · have hR : R = some t := HRT.out
        clear HRT
        subst hR
        simp only [List.length_cons, List.length_nil] at hvc
        obtain ⟨tv, xv, hpv⟩ := partV_form t
        have HPV : Hid (partV t = .iface tv xv) := hpv
        have HP : Hid (Calls Tryz.prog 94 #[.pointer (some ⟨w.heap.size, 0, none⟩)] wr fun e w' => e = .returned (.tuple #[.iface tv xv, .bool true]) ∧ StkP w.heap.size w' [] ∧ Below w.heap.size wr w' ∧ w'.heap.size = wr.heap.size ∧ ∀ b o, b ≠ w.heap.size → w'.cell? ⟨b, o, none⟩ = wr.cell? ⟨b, o, none⟩) := by
          rw [← hpv]; exact popP_any _ t [] _ HS.out (by simp)
        clear hpv
        go_wp2_with (go_at_call 94; refine HP.out.mono ?_; rintro e w1 ⟨rfl, hs1, hb1, hz1, hc1⟩; have HB1 : Hid (Below w.heap.size w w1) := hbel.trans hb1; clear hs1 hb1 hz1 hc1)
        go_ret2
        exact ⟨HB1.out, by show _ = _; rw [HPV.out]; rfl⟩
      · have hR : R = none := HRT.out
        clear HRT
        subst hR
        obtain ⟨N, hN⟩ : ∃ N, (t :: t2 :: r).length = N := ⟨_, rfl⟩
        have hN2 : 2 ≤ N := by simp at hN; omega
        rw [hN] at hvc hst
        clear hN
        have e1 : ((N : Int) != 1) = true := by simp; omega
        go_wp2_with fail
        go_ret2
        exact ⟨hbel, _, .inl rfl, rfl⟩
end Go.Proofs.YtbpfonmkbbnkcaaGreatDoor

/- What the program takes for a sum is what the model takes for one: trees against texts. Plain: no program. -/
namespace Go.Proofs.YtbpfonmkbbnkcaaGreatDoor
open Go Go.RowKit Go.PlainAid
set_option linter.unusedSimpArgs false
set_option linter.unusedVariables false

theorem decF_digits (f : Nat) : ∀ n : Nat, n < 10 ^ (f + 1) → decF f n = ⟨(Lib.decDigits n).toArray⟩ := by
  induction f with
  | zero =>
    intro n h
    have h' : n < 10 := by simpa using h
    rw [Lib.decDigits_one h']
    unfold decF dig
    have e : (48 + (n : Int)).toNat = 48 + n := by omega
    rw [e]
  | succ f ih =>
    intro n h
    unfold decF
    by_cases h10 : n < 10
    · rw [if_pos (by omega), Lib.decDigits_one h10]
      unfold dig
      have e : (48 + (n : Int)).toNat = 48 + n := by omega
      rw [e]
    · rw [if_neg (by omega)]
      have e1 : ((n : Int) / 10) = ((n / 10 : Nat) : Int) := by omega
      have e2 : ((n : Int) % 10) = ((n % 10 : Nat) : Int) := by omega
      rw [e1, e2, ih (n / 10) (by rw [Nat.pow_succ] at h; omega)]
      have e3 : Lib.decDigits n = Lib.decDigits (n / 10) ++ [UInt8.ofNat (48 + n % 10)] := by rw [Lib.decDigits, dif_neg h10]
      rw [e3]
      unfold dig
      have e : (48 + ((n % 10 : Nat) : Int)).toNat = 48 + n % 10 := by omega
      rw [e]
      apply ByteArray.ext
      rw [ByteArray.data_append]
      simp
theorem decF_itoa {n : Int} (h0 : 0 ≤ n) (h1 : n ≤ 999999) : decF 5 n = ⟨(Lib.itoa n).toArray⟩ := by
  obtain ⟨k, rfl⟩ : ∃ k : Nat, n = k := ⟨n.toNat, by omega⟩
  rw [decF_digits 5 k (by simp; omega)]
  unfold Lib.itoa
  rw [if_neg (by omega)]
  simp

theorem isEmpty_noName : noName.toList.isEmpty = true := by rw [Lib.toList_data]; rfl
/-- what a node says beside its kind is what its kind has -/
def ndOk (x : Nd) : Prop :=
  (x.1 = 1 → (0 ≤ x.2.1 ∧ x.2.1 ≤ 999999) ∧ x.2.2.toList.isEmpty = true) ∧ (x.1 = 2 → x.2.1 = 0) ∧ (x.1 ≠ 1 → x.1 ≠ 2 → x.2.1 = 0 ∧ x.2.2.toList.isEmpty = true)
theorem ndOk_sgn (k : Int) : ndOk (sgn k) := ⟨fun h => ⟨⟨Int.le_refl 0, (by decide : (0 : Int) ≤ 999999)⟩, isEmpty_noName⟩, fun _ => rfl, fun _ _ => ⟨rfl, isEmpty_noName⟩⟩

/-- a part as the model holds it -/
def tx (t : Tree) : ByteArray × Int := (textT t, tightT t)
theorem bound_par (t : Tree) (least : Int) : boundM (textT t) (tightT t) least = parT t (textT t) least := rfl
theorem aheadSg_sgI {k : Int} (h : k = 3 ∨ k = 4) : aheadSg k = sgI k.toNat := by
  rcases h with rfl | rfl <;> rfl
theorem show_tree {x : Nd} {st : List Tree} (hx : ndOk x) : showStep x (st.map tx) = (treeNext x st).map (List.map tx) := by
  obtain ⟨k, n, y⟩ := x
  obtain ⟨o1, o2, o3⟩ := hx
  simp only at o1 o2 o3
  unfold showStep treeNext treeStep
  simp only
  by_cases h1 : k = 1
  · rw [if_pos h1, if_pos h1, if_pos (o1 h1)]
    have := decF_itoa (o1 h1).1.1 (o1 h1).1.2
    simp [tx, textT, tightT, this]
  rw [if_neg h1, if_neg h1]
  by_cases h2 : k = 2
  · rw [if_pos h2, if_pos h2]
    by_cases hn : nmB y = true
    · rw [if_pos ⟨hn, o2 h2⟩, if_pos hn]
      simp [tx, textT, tightT]
    · rw [if_neg (fun h => hn h.1), if_neg hn]
      rfl
  rw [if_neg h2, if_neg h2]
  by_cases h3 : k = 3 ∨ k = 4
  · rw [if_pos h3, if_pos h3, if_pos (o3 h1 h2)]
    cases st with
    | nil => rfl
    | cons t r =>
      show some ((aheadSg k ++ boundM (textT t) (tightT t) 6, (6 : Int)) :: r.map tx) = some ((sgI k.toNat ++ parT t (textT t) 6, (6 : Int)) :: r.map tx)
      rw [bound_par, aheadSg_sgI h3]
  rw [if_neg h3, if_neg h3]
  by_cases h5 : 5 ≤ k ∧ k ≤ 13
  · rw [if_pos h5, if_pos h5, if_pos (o3 h1 h2)]
    match st with
    | [] => rfl
    | [t] => rfl
    | r :: t :: q => rfl
  rw [if_neg h5, if_neg h5]
  rfl
theorem show_ok {x : Nd} {stk stk' : TL} (h : showStep x stk = some stk') : ndOk x := by
  obtain ⟨k, n, y⟩ := x
  unfold showStep at h
  simp only at h
  refine ⟨fun h1 => ?_, fun h2 => ?_, fun h1 h2 => ?_⟩
  · rw [if_pos h1] at h
    split at h
    · assumption
    · cases h
  · have h2' : k = 2 := h2
    rw [if_neg (by omega), if_pos h2'] at h
    split at h
    · rename_i hh; exact hh.2
    · cases h
  · rw [if_neg h1, if_neg h2] at h
    split at h
    · split at h
      · assumption
      · cases h
    · split at h
      · split at h
        · assumption
        · cases h
      · cases h
theorem showTo_tree {l : List Nd} : ∀ k, k ≤ l.length → (∀ j, j < k → ndOk (l.getD j (0, 0, noName))) → showTo l k = (treeTo l k).map (List.map tx) := by
  intro k
  induction k with
  | zero => intro _ _; rfl
  | succ k ih =>
    intro hk ho
    simp only [showTo, treeTo]
    rw [ih (by omega) (fun j hj => ho j (by omega))]
    cases h : treeTo l k with
    | none => rfl
    | some st => simp only [Option.map_some, Option.bind_some]; exact show_tree (ho k (by omega))
theorem showTo_ok {l : List Nd} : ∀ k stk, showTo l k = some stk → ∀ j, j < k → ndOk (l.getD j (0, 0, noName)) := by
  intro k
  induction k with
  | zero => intro _ _ j hj; omega
  | succ k ih =>
    intro stk h j hj
    simp only [showTo, Option.bind_eq_some_iff] at h
    obtain ⟨st, h1, h2⟩ := h
    by_cases e : j = k
    · subst e; exact show_ok h2
    · exact ih st h1 j (by omega)
theorem getD_all {l : List Nd} {p : Nd → Prop} (h : ∀ x ∈ l, p x) : ∀ j, j < l.length → p (l.getD j (0, 0, noName)) := by
  intro j hj
  rw [List.getD_eq_getElem?_getD, List.getElem?_eq_getElem hj]
  exact h _ (List.getElem_mem hj)

/-! ### what is read has nodes of the right form -/
def RecOk (rec : Int → Nat → Nat → PR) : Prop := ∀ lev a d l a', rec lev a d = some (l, a') → ∀ x ∈ l, ndOk x
theorem ok_prim {s : ByteArray} {rec : Int → Nat → Nat → PR} (hr : RecOk rec) {a d : Nat} {l : List Nd} {a' : Nat} (h : primP rec s a d = some (l, a')) : ∀ x ∈ l, ndOk x := by
  unfold primP at h
  split at h
  · split at h
    · cases h
    · split at h
      · cases h
      · rename_i l' b he
        split at h
        · cases h; exact hr _ _ _ _ _ he
        · cases h
  · split at h
    · split at h
      · cases h
      · rename_i hn
        cases h
        intro x hx
        simp at hx
        subst hx
        refine ⟨fun _ => ⟨⟨by simpa using hn, ?_⟩, isEmpty_noName⟩, fun h => by simp at h, fun h => absurd rfl h⟩
        generalize s.extract (skipTo s a) (wordTo s (skipTo s a)) = y at *
        simp only
        unfold numOf at hn ⊢
        split
        · rename_i ho
          unfold numOk at ho
          simp only [Bool.and_eq_true, decide_eq_true_eq] at ho
          have := (numTo_le ho.1 ho.2.2.1).2
          omega
        · omega
    · split at h
      · cases h
        intro x hx
        simp at hx
        subst hx
        exact ⟨fun h => by simp at h, fun _ => rfl, fun _ h => absurd rfl h⟩
      · cases h
theorem ok_unary {s : ByteArray} {rec : Int → Nat → Nat → PR} (hr : RecOk rec) {a d : Nat} {l : List Nd} {a' : Nat} (h : unaryP rec s a d = some (l, a')) : ∀ x ∈ l, ndOk x := by
  unfold unaryP at h
  split at h
  · cases h
  · rename_i l' b he
    cases h
    intro x hx
    rcases List.mem_append.1 hx with hx | hx
    · exact ok_prim hr he x hx
    · obtain ⟨k, _, rfl⟩ := List.mem_map.1 hx
      exact ndOk_sgn k
theorem ok_loop {s : ByteArray} {rec : Int → Nat → Nat → PR} (hr : RecOk rec) (level : Int) (d n : Nat) : ∀ {l : List Nd} {a : Nat} {l' : List Nd} {a' : Nat}, (∀ x ∈ l, ndOk x) → loopP rec s level d n l a = some (l', a') → ∀ x ∈ l', ndOk x := by
  induction n with
  | zero => intro l a l' a' ho h; cases h; exact ho
  | succ n ih =>
    intro l a l' a' ho h
    unfold loopP at h
    split at h
    · cases h; exact ho
    · split at h
      · cases h
      · rename_i r b he
        refine ih ?_ h
        intro x hx
        rcases List.mem_append.1 hx with hx | hx
        · rcases List.mem_append.1 hx with hx | hx
          · exact ho x hx
          · exact hr _ _ _ _ _ he x hx
        · simp at hx
          subst hx
          exact ndOk_sgn _
theorem ok_sum (s : ByteArray) (f : Nat) : RecOk (sumP s f) := by
  induction f with
  | zero => intro lev a d l a' h; cases h; simp
  | succ f ih =>
    intro lev a d l a' h
    unfold sumP at h
    split at h
    · exact ok_unary ih h
    · split at h
      · cases h
      · rename_i l0 b he
        exact ok_loop ih _ _ _ (ih _ _ _ _ _ he) h
theorem getM_ok {s : ByteArray} {l : List Nd} (h : getM s = some l) : ∀ x ∈ l, ndOk x := by
  rw [getM_free] at h
  split at h
  · cases h
  · split at h
    · cases h
    · rename_i l' a he
      split at h
      · cases h
      · split at h
        · cases h
        · cases h; exact ok_sum s _ _ _ _ _ _ he

/-- the sum that nodes are, as the program decides it -/
def sumM (l : List Nd) : Option Tree := match treeM l with | none => none | some t => if getM (textT t) = some l then some t else none
theorem treeM_show {l : List Nd} (h24 : ¬ 24 < l.length) (ho : ∀ j, j < l.length → ndOk (l.getD j (0, 0, noName))) : showM l = (treeM l).map textT := by
  unfold showM treeM
  rw [if_neg h24, showTo_tree l.length (Nat.le_refl _) ho]
  cases treeTo l l.length with
  | none => rfl
  | some st =>
    match st with
    | [] => rfl
    | [t] => rfl
    | a :: b :: r => rfl
theorem putM_sumM (l : List Nd) : putM l = match sumM l with | none => noName | some t => textT t := by
  unfold putM sumM
  by_cases h24 : 24 < l.length
  · rw [if_pos h24]
    unfold treeM
    rw [if_pos h24]
  rw [if_neg h24]
  by_cases ho : ∀ j, j < l.length → ndOk (l.getD j (0, 0, noName))
  · rw [treeM_show h24 ho]
    cases treeM l with
    | none => rfl
    | some t =>
      simp only [Option.map_some]
      split <;> rfl
  · have hs : showM l = none := by
      unfold showM
      cases he : showTo l l.length with
      | none => rfl
      | some stk => exact absurd (showTo_ok _ _ he) ho
    rw [hs]
    simp only
    cases treeM l with
    | none => rfl
    | some t =>
      simp only
      rw [if_neg (fun h => ho (getD_all (getM_ok h)))]

/-! ### what stands is well made -/
theorem tree_wf {l : List Nd} (hn : ∀ x ∈ l, -9223372036854775808 ≤ x.2.1 ∧ x.2.1 ≤ 9223372036854775807) : ∀ k, k ≤ l.length → ∀ {st : List Tree}, treeTo l k = some st → (∀ t ∈ st, Wf t) ∧ (st.map (fun t => t.nodes.length)).sum ≤ k := by
  intro k
  induction k with
  | zero => intro _ st h; simp [treeTo] at h; subst h; simp
  | succ k ih =>
    intro hk st h
    simp only [treeTo, Option.bind_eq_some_iff] at h
    obtain ⟨st0, h0, h1⟩ := h
    obtain ⟨hw, hsum⟩ := ih (by omega) h0
    have hx := getD_all hn k (by omega)
    generalize l.getD k (0, 0, noName) = x at *
    obtain ⟨kd, n, y⟩ := x
    unfold treeNext treeStep at h1
    simp only at h1 hx
    by_cases e1 : kd = 1
    · rw [if_pos e1] at h1
      cases h1
      refine ⟨fun t ht => ?_, ?_⟩
      · rcases List.mem_cons.1 ht with rfl | ht
        · exact hx
        · exact hw t ht
      · simp [Tree.nodes]; omega
    rw [if_neg e1] at h1
    by_cases e2 : kd = 2
    · rw [if_pos e2] at h1
      by_cases hm : nmB y = true
      · rw [if_pos hm] at h1
        cases h1
        refine ⟨fun t ht => ?_, ?_⟩
        · rcases List.mem_cons.1 ht with rfl | ht
          · show y.size ≤ 6
            unfold nmB at hm; simp at hm; omega
          · exact hw t ht
        · simp [Tree.nodes]; omega
      · rw [if_neg hm] at h1; cases h1
    rw [if_neg e2] at h1
    by_cases e3 : kd = 3 ∨ kd = 4
    · rw [if_pos e3] at h1
      match st0, h1, hw, hsum with
      | [], h1, _, _ => cases h1
      | t0 :: r, h1, hw, hsum =>
        cases h1
        refine ⟨fun t ht => ?_, ?_⟩
        · rcases List.mem_cons.1 ht with rfl | ht
          · exact ⟨e3, hw t0 (by simp)⟩
          · exact hw t (by simp [ht])
        · simp [Tree.nodes] at hsum ⊢; omega
    rw [if_neg e3] at h1
    by_cases e5 : 5 ≤ kd ∧ kd ≤ 13
    · rw [if_pos e5] at h1
      match st0, h1, hw, hsum with
      | [], h1, _, _ => cases h1
      | [_], h1, _, _ => cases h1
      | r0 :: l0 :: q, h1, hw, hsum =>
        cases h1
        refine ⟨fun t ht => ?_, ?_⟩
        · rcases List.mem_cons.1 ht with rfl | ht
          · exact ⟨e5, hw l0 (by simp), hw r0 (by simp)⟩
          · exact hw t (by simp [ht])
        · simp [Tree.nodes] at hsum ⊢; omega
    rw [if_neg e5] at h1
    cases h1
theorem treeM_wf {l : List Nd} {t : Tree} (hn : ∀ x ∈ l, -9223372036854775808 ≤ x.2.1 ∧ x.2.1 ≤ 9223372036854775807) (h : treeM l = some t) : Wf t ∧ t.nodes.length ≤ 24 := by
  unfold treeM at h
  split at h
  · cases h
  · split at h
    · rename_i h24 t' he
      cases h
      obtain ⟨h1, h2⟩ := tree_wf hn _ (Nat.le_refl _) he
      simp at h2
      exact ⟨h1 t (by simp), by omega⟩
    · cases h
end Go.Proofs.YtbpfonmkbbnkcaaGreatDoor

/- slices.Equal at nodes. -/
namespace Go.Proofs.YtbpfonmkbbnkcaaGreatDoor
open Go.RowKit Go.PlainAid
set_option linter.unusedSimpArgs false
set_option linter.unusedVariables false

set_option maxHeartbeats 800000 in
set_option maxRecDepth 100000 in
theorem eqNds_any (B : Nat) (a a' : Option Addr) (n n' cap cap' : Nat) (l l' : List Nd) (w : World) (hn : n ≤ 1048576) (hn' : n' ≤ 1048576) (hz : IsNds B w a n l) (hz' : IsNds B w a' n' l') :
    Calls Tryz.prog 69 #[.slice a n cap, .slice a' n' cap'] w fun e w' => e = .returned (.bool (decide (l = l'))) ∧ Below w.heap.size w w' := by
  obtain ⟨hlen, hcells⟩ := hz
  obtain ⟨hlen', hcells'⟩ := hz'
  obtain ⟨D, hD⟩ : ∃ D, decide (l = l') = D := ⟨_, rfl⟩
  have HD : Hid (decide (l = l') = D) := hD
  rw [hD]; clear hD
  by_cases hnn : n = n'
  · subst hnn
    go_enter Tryz.func69, Tryz.ntmps69
    go_wp2_with fail
    go_loopw [13] (fun i wr => ∃ k : Nat, k ≤ n ∧ i = .int .i64 k ∧ Hid (l.take k = l'.take k) ∧ Below w.heap.size w wr) (fun i _ => n - (intOf i).toNat)
    case atStart => exact ⟨0, Nat.zero_le _, rfl, by show _ = _; simp, Below.refl _ _⟩
    case round =>
      obtain ⟨k, hk, rfl, hdone, hbel⟩ := hrel
      by_cases hlt : k < n
      · rcases hcells with h0 | ⟨b, off, rfl, hb, hc⟩
        · omega
        rcases hcells' with h0 | ⟨b', off', rfl, hb', hc'⟩
        · omega
        have hkl : k < l.length := by omega
        have hkl' : k < l'.length := by omega
        obtain ⟨x0, x1, x2, hx⟩ : ∃ x0 x1 x2, l[k] = (x0, x1, x2) := ⟨_, _, _, rfl⟩
        obtain ⟨y0, y1, y2, hy⟩ : ∃ y0 y1 y2, l'[k] = (y0, y1, y2) := ⟨_, _, _, rfl⟩
        have hcx := hc k hkl
        have hcy := hc' k hkl'
        rw [hx] at hcx
        rw [hy] at hcy
        have hbw := World.block_lt_of_cell? w _ hcx.1
        have hbw' := World.block_lt_of_cell? w _ hcy.1
        have p0 := (hbel.cell (p := ⟨b, off + k * 3, none⟩) hbw).trans hcx.1
        have p1 := (hbel.cell (p := ⟨b, off + k * 3 + 1, none⟩) hbw).trans hcx.2.1
        have p2 := (hbel.cell (p := ⟨b, off + k * 3 + 1 + 1, none⟩) hbw).trans hcx.2.2
        have q0 := (hbel.cell (p := ⟨b', off' + k * 3, none⟩) hbw').trans hcy.1
        have q1 := (hbel.cell (p := ⟨b', off' + k * 3 + 1, none⟩) hbw').trans hcy.2.1
        have q2 := (hbel.cell (p := ⟨b', off' + k * 3 + 1 + 1, none⟩) hbw').trans hcy.2.2
        simp only at p0 p1 p2 q0 q1 q2
        have HT : Hid (l.take (k + 1) = l.take k ++ [(x0, x1, x2)] ∧ l'.take (k + 1) = l'.take k ++ [(y0, y1, y2)]) :=
          ⟨by rw [List.take_succ_eq_append_getElem hkl, hx], by rw [List.take_succ_eq_append_getElem hkl', hy]⟩
        clear hc hc' hcx hcy hx hy
        by_cases hxy : x0 = y0 ∧ x1 = y1 ∧ x2 = y2
        · obtain ⟨rfl, rfl, rfl⟩ := hxy
          go_wp2_with fail
          go_quiet (fail)
          go_wp2_with fail
          go_roundw
          case rel => exact ⟨k + 1, by omega, by go_num, by show _ = _; rw [HT.out.1, HT.out.2, hdone.out], drewN hbel _⟩
          case measure => simp [intOf]; omega
        · have HN : Hid (D = false) := by
            show D = false
            rw [← HD.out]; simp; intro h
            have h1 := HT.out.1
            have h2 := HT.out.2
            rw [h] at h1
            rw [h1] at h2
            have h3 := List.append_inj_right' h2 rfl
            simp at h3
            exact hxy h3
          by_cases h0 : x0 = y0
          · subst h0
            by_cases h1 : x1 = y1
            · subst h1
              have h2 : ¬ x2 = y2 := fun e => hxy ⟨rfl, rfl, e⟩
              have e2' : (x2.toList == y2.toList) = false := by
                simp only [beq_eq_false_iff_ne, ne_eq]
                intro e; exact h2 (by rw [Lib.toList_data, Lib.toList_data] at e; exact ByteArray.ext (Array.toList_inj.1 e))
              clear hxy h2
              go_wp2_with fail
              go_quiet (fail)
              go_wp2_with fail
              go_ret
              exact ⟨ret_bool HN.out.symm, drewN hbel _⟩
            · have e1 : (x1 == y1) = false := by simp [h1]
              clear hxy h1
              go_wp2_with fail
              go_quiet (fail)
              go_wp2_with fail
              go_ret
              exact ⟨ret_bool HN.out.symm, drewN hbel _⟩
          · have e0 : (x0 == y0) = false := by simp [h0]
            clear hxy h0
            go_wp2_with fail
            go_quiet (fail)
            go_wp2_with fail
            go_ret
            exact ⟨ret_bool HN.out.symm, drewN hbel _⟩
      · have : k = n := by omega
        subst this
        have HN : Hid (D = true) := by
          show D = true
          rw [← HD.out]
          have := hdone.out
          rw [List.take_of_length_le (by omega), List.take_of_length_le (by omega)] at this
          simp [this]
        go_wp2_with fail
        go_ret
        exact ⟨ret_bool HN.out.symm, hbel⟩
  · have hne : ((n : Int) != n') = true := by simp; omega
    have HN : Hid (D = false) := by
      show D = false
      rw [← HD.out]; simp; intro h; rw [h] at hlen; omega
    go_enter Tryz.func69, Tryz.ntmps69
    go_wp2_with fail
    go_ret
    exact ⟨ret_bool HN.out.symm, Below.refl _ _⟩
end Go.Proofs.YtbpfonmkbbnkcaaGreatDoor

/- The program's sumOf, ExprPut and ExprGet: what they take for a sum is what the model takes for one. -/
namespace Go.Proofs.YtbpfonmkbbnkcaaGreatDoor
open Go Go.RowKit Go.PlainAid
set_option linter.unusedSimpArgs false
set_option linter.unusedVariables false

/-- numbers of nodes are Go's -/
def Nums64 (l : List Nd) : Prop := ∀ x ∈ l, -9223372036854775808 ≤ x.2.1 ∧ x.2.1 ≤ 9223372036854775807
theorem below_up {B : Nat} {a b c : World} (h : Below B a b) (hB : B ≤ b.heap.size) (k : Below b.heap.size b c) : Below B a c := h.trans (k.mono hB)
theorem Tabs.up {w w' : World} (h : Tabs w) (hb : Below w.heap.size w w') : Tabs w' := h.below hb
theorem ReadPost.none' {w w' : World} {e : Ending} (h : ReadPost w none e w') : Below w.heap.size w w' ∧ e = .returned (.tuple #[.slice none 0 0, .bool false]) := h
theorem ReadPost.some' {w w' : World} {e : Ending} {l : List Nd} (h : ReadPost w (some l) e w') : Below w.heap.size w w' ∧ ∃ v, e = .returned (.tuple #[v, .bool true]) ∧ OwnNd w.heap.size w' v l := h

set_option maxHeartbeats 1600000 in
set_option maxRecDepth 100000 in
theorem sumOf_any (B0 : Nat) (a : Option Addr) (n cap : Nat) (l : List Nd) (w : World) (hw : Tabs w) (hn : n ≤ 1048576) (hB0 : B0 ≤ w.heap.size) (hsz : ∀ x ∈ l, x.2.2.size ≤ 1048576) (h64 : Nums64 l) (hz : IsNds B0 w a n l) :
    Calls Tryz.prog 45 #[.slice a n cap] w fun e w' => TreePost w (sumM l) e w' := by
  have hlen := hz.1
  have HZ : Hid (IsNds B0 w a n l) := hz
  have HW : Hid (Tabs w) := hw
  have HT : Hid (Calls Tryz.prog 68 #[.slice a n cap] w fun e w' => TreePost w (treeM l) e w') := treeOf_any B0 a n cap l w hn hB0 hsz hz
  obtain ⟨R, hR⟩ : ∃ R, sumM l = R := ⟨_, rfl⟩
  have HRR : Hid (sumM l = R) := hR
  rw [hR]
  clear hR hz hw hsz
  cases ht : treeM l with
  | none =>
    have hRn : R = none := by rw [← HRR.out]; unfold sumM; rw [ht]
    subst hRn
    rw [ht] at HT
    go_enter Tryz.func45, Tryz.ntmps45
    go_wp2_with fail
    refine HT.out.mono ?_
    rintro e w1 ⟨hb1, v, hv, rfl⟩
    rcases hv with rfl | ⟨tv, xv, rfl⟩
    · go_wp2_with fail
      go_ret2
      exact ⟨hb1, _, .inl rfl, rfl⟩
    · go_wp2_with fail
      go_ret2
      exact ⟨hb1, _, .inl rfl, rfl⟩
  | some t =>
    rw [ht] at HT
    obtain ⟨hwf, hl24⟩ := treeM_wf h64 ht
    have HTX : Hid (TextOk t) := text_ok t hwf (by omega)
    have hts := text_size t hwf
    have hRt : R = if getM (textT t) = some l then some t else none := by rw [← HRR.out]; unfold sumM; rw [ht]
    have HPV : Hid (partV t = .iface (partT t) (partX t)) := partV_eq t
    have HCM : Hid (∀ u, (callMethod (.iface (partT t) (partX t)) "loop.example/telltale/impl.text" #[]).run Tryz.prog u = .ok (.enter (textFn t) #[partX t]) u) := text_method t
    unfold TextOk at HTX
    have HRS : Hid (∀ w, Signs w → Calls Tryz.prog 47 #[.string (textT t)] w fun e w' => ReadPost w (getM (textT t)) e w') := fun w h => readSum_any (textT t) w (by unfold maxLen; omega) h
    obtain ⟨G, hG⟩ : ∃ G, getM (textT t) = G := ⟨_, rfl⟩
    have HG : Hid (getM (textT t) = G) := hG
    rw [hG] at HRS hRt
    clear ht hwf hG HRR h64
    go_enter Tryz.func45, Tryz.ntmps45
    go_wp2_with fail
    refine HT.out.mono ?_
    rintro e w1 ⟨hb1, rfl⟩
    have HB1 : Hid (Below w.heap.size w w1) := hb1
    have HW1 : Hid (Tabs w1) := HW.out.up hb1
    have hs1 := hb1.size
    have HX : Hid (Calls Tryz.prog (textFn t) #[partX t] w1 fun e w' => e = .returned (.string (textT t)) ∧ Below w1.heap.size w1 w') := HTX.out w1 HW1.out
    clear hb1 HT HTX
    rw [HPV.out]
    have HPT : Hid (partV t = .iface (partT t) (partX t)) := HPV.out
    generalize partX t = px at *
    generalize partT t = pt at *
    generalize textFn t = fn at *
    generalize hT : textT t = x at *
    clear hT
    go_wp2_with (refine wpList_invoke0 rfl (.tmp 15) _ _ rfl pt px fn rfl (HCM.out _) HX.out ?_)
    intro e w2 he hb2
    subst he
    refine ⟨_, rfl, ?_⟩
    have HB2 : Hid (Below w.heap.size w w2) := below_up HB1.out hs1 hb2
    have HW2 : Hid (Tabs w2) := HW1.out.up hb2
    have hs2 := hb2.size
    clear hb2 HX HCM
    go_wp2_with fail
    refine (HRS.out w2 HW2.out.signs).mono ?_
    intro e w3 hp
    cases G with
    | none =>
      obtain ⟨hb3, rfl⟩ := hp.none'
      rw [if_neg (by simp)] at hRt
      subst hRt
      have HB3 : Hid (Below w.heap.size w w3) := below_up HB2.out (by omega) hb3
      clear hb3 hp
      go_wp2_with fail
      go_ret2
      exact ⟨HB3.out, _, .inl rfl, rfl⟩
    | some l' =>
      obtain ⟨hb3, v, rfl, hown⟩ := hp.some'
      have hl' := getM_len HG.out
      have HB3 : Hid (Below w.heap.size w w3) := below_up HB2.out (by omega) hb3
      obtain ⟨a', cap', rfl, hi'⟩ := hown.is
      have HI' : Hid (IsNds w3.heap.size w3 a' l'.length l') := hi'
      have HI : Hid (IsNds w3.heap.size w3 a n l) := ((HZ.out.below (HB3.out.mono hB0)).mono (by have := hb3.size; omega))
      clear hb3 hp hown hi'
      have HE : Hid (Calls Tryz.prog 69 #[.slice a' l'.length cap', .slice a n cap] w3 fun e w' => e = .returned (.bool (decide (l' = l))) ∧ Below w3.heap.size w3 w') := eqNds_any w3.heap.size a' a l'.length n cap' cap l' l w3 (by omega) hn HI'.out HI.out
      obtain ⟨n', hn'⟩ : ∃ n', l'.length = n' := ⟨_, rfl⟩
      rw [hn'] at HE ⊢
      clear hn'
      have hs3 := HB3.out.size
      by_cases hll : l' = l
      · rw [if_pos (by rw [hll])] at hRt
        subst hRt
        have hd : decide (l' = l) = true := decide_eq_true hll
        rw [hd] at HE
        clear hd hll
        go_wp2_with (go_at_call 69; refine HE.out.mono ?_; rintro e w4 ⟨rfl, hb4⟩; have HB4 : Hid (Below w.heap.size w w4) := below_up HB3.out hs3 hb4; clear hb4)
        go_ret2
        exact ⟨HB4.out, by show _ = _; rw [HPT.out]; rfl⟩
      · rw [if_neg (by simpa using hll)] at hRt
        subst hRt
        have hd : decide (l' = l) = false := decide_eq_false hll
        rw [hd] at HE
        clear hd hll
        go_wp2_with (go_at_call 69; refine HE.out.mono ?_; rintro e w4 ⟨rfl, hb4⟩; have HB4 : Hid (Below w.heap.size w w4) := below_up HB3.out hs3 hb4; clear hb4)
        go_ret2
        exact ⟨HB4.out, _, .inl rfl, rfl⟩

theorem sumM_wf {l : List Nd} {t : Tree} (h64 : Nums64 l) (h : sumM l = some t) : Wf t ∧ t.nodes.length ≤ 24 := by
  unfold sumM at h
  split at h
  · cases h
  · rename_i t' he
    split at h
    · cases h; exact treeM_wf h64 he
    · cases h

set_option maxHeartbeats 800000 in
set_option maxRecDepth 100000 in
theorem implPut_any (B0 : Nat) (a : Option Addr) (n cap : Nat) (l : List Nd) (w : World) (hw : Tabs w) (hn : n ≤ 1048576) (hB0 : B0 ≤ w.heap.size) (hsz : ∀ x ∈ l, x.2.2.size ≤ 1048576) (h64 : Nums64 l) (hz : IsNds B0 w a n l) :
    Calls Tryz.prog 13 #[.slice a n cap] w fun e w' => e = .returned (.string (putM l)) ∧ Below w.heap.size w w' := by
  rw [putM_sumM]
  have HW : Hid (Tabs w) := hw
  have HT : Hid (Calls Tryz.prog 45 #[.slice a n cap] w fun e w' => TreePost w (sumM l) e w') := sumOf_any B0 a n cap l w hw hn hB0 hsz h64 hz
  clear hz hw hsz
  cases ht : sumM l with
  | none =>
    rw [ht] at HT
    simp only
    go_enter Tryz.func13, Tryz.ntmps13
    go_wp2_with fail
    refine HT.out.mono ?_
    rintro e w1 ⟨hb1, v, hv, rfl⟩
    rcases hv with rfl | ⟨tv, xv, rfl⟩
    · go_wp2_with fail
      go_ret
      exact ⟨rfl, hb1⟩
    · go_wp2_with fail
      go_ret
      exact ⟨rfl, hb1⟩
  | some t =>
    rw [ht] at HT
    simp only
    obtain ⟨hwf, hl24⟩ := sumM_wf h64 ht
    have HTX : Hid (TextOk t) := text_ok t hwf (by omega)
    have HCM : Hid (∀ u, (callMethod (.iface (partT t) (partX t)) "loop.example/telltale/impl.text" #[]).run Tryz.prog u = .ok (.enter (textFn t) #[partX t]) u) := text_method t
    unfold TextOk at HTX
    clear ht hwf h64
    go_enter Tryz.func13, Tryz.ntmps13
    go_wp2_with fail
    refine HT.out.mono ?_
    rintro e w1 ⟨hb1, rfl⟩
    have HB1 : Hid (Below w.heap.size w w1) := hb1
    have HW1 : Hid (Tabs w1) := HW.out.up hb1
    have hs1 := hb1.size
    have HX : Hid (Calls Tryz.prog (textFn t) #[partX t] w1 fun e w' => e = .returned (.string (textT t)) ∧ Below w1.heap.size w1 w') := HTX.out w1 HW1.out
    clear hb1 HT HTX
    rw [partV_eq]
    generalize partX t = px at *
    generalize partT t = pt at *
    generalize textFn t = fn at *
    obtain ⟨x, hx⟩ : ∃ x, textT t = x := ⟨_, rfl⟩
    have HXT : Hid (textT t = x) := hx
    rw [hx] at HX
    clear hx
    go_wp2_with (refine wpList_invoke0 rfl (.tmp 12) _ _ rfl pt px fn rfl (HCM.out _) HX.out ?_)
    intro e w2 he hb2
    subst he
    refine ⟨_, rfl, ?_⟩
    have HB2 : Hid (Below w.heap.size w w2) := below_up HB1.out hs1 hb2
    clear hb2 HX HCM
    go_wp2_with fail
    go_ret
    exact ⟨ret_txt HXT.out.symm, HB2.out⟩

theorem getM_64 {s : ByteArray} {l : List Nd} (h : getM s = some l) : Nums64 l := fun x hx => by
  obtain ⟨o1, o2, o3⟩ := getM_ok h x hx
  by_cases e1 : x.1 = 1
  · have := (o1 e1).1; omega
  · by_cases e2 : x.1 = 2
    · have := o2 e2; omega
    · have := (o3 e1 e2).1; omega

set_option maxHeartbeats 800000 in
set_option maxRecDepth 100000 in
theorem implGet_any (s : ByteArray) (w : World) (hw : Tabs w) (hs : s.size ≤ maxLen) : Calls Tryz.prog 15 #[.string s] w fun e w' => ∃ v b, e = .returned (.tuple #[v, .bool b]) ∧
    (exprM s = none → b = false ∧ v = .slice none 0 0) ∧ (∀ l, exprM s = some l → b = true ∧ OwnNd w.heap.size w' v l) ∧ Below w.heap.size w w' := by
  have HW : Hid (Tabs w) := hw
  have HRS : Hid (Calls Tryz.prog 47 #[.string s] w fun e w' => ReadPost w (getM s) e w') := readSum_any s w hs hw.signs
  clear hw
  cases hg : getM s with
  | none =>
    have HN : Hid (exprM s = none) := by
      show exprM s = none
      unfold exprM; rw [hg]
    rw [hg] at HRS
    clear hg
    go_enter Tryz.func15, Tryz.ntmps15
    go_wp2_with fail
    refine HRS.out.mono ?_
    intro e w1 hp
    obtain ⟨hb1, rfl⟩ := hp.none'
    have HB : Hid (Below w.heap.size w w1) := hb1
    clear hb1 hp HRS
    go_wp2_with fail
    go_ret2
    exact ⟨_, _, rfl, fun _ => ⟨rfl, rfl⟩, (fun l hl => by rw [HN.out] at hl; cases hl), HB.out⟩
  | some l =>
    have hl24 := getM_len hg
    have HSM : Hid (∀ x ∈ l, x.2.2.size ≤ 1048576) := fun x hx => Nat.le_trans (getM_names hg x hx) (by decide)
    have H64 : Hid (Nums64 l) := getM_64 hg
    have HE : Hid (exprM s = if (putM l).toList.isEmpty = true then none else some l) := by
      show exprM s = _
      unfold exprM; rw [hg]
    rw [hg] at HRS
    clear hg
    go_enter Tryz.func15, Tryz.ntmps15
    go_wp2_with fail
    refine HRS.out.mono ?_
    intro e w1 hp
    obtain ⟨hb1, v, rfl, ho⟩ := hp.some'
    have HO : Hid (OwnNd w.heap.size w1 v l) := ho
    obtain ⟨a, cap, rfl, hi⟩ := ho.is
    have HB : Hid (Below w.heap.size w w1) := hb1
    have HI : Hid (IsNds w1.heap.size w1 a l.length l) := hi
    have HW1 : Hid (Tabs w1) := HW.out.up hb1
    obtain ⟨n, hn⟩ : ∃ n, l.length = n := ⟨_, rfl⟩
    rw [hn] at HI hl24 HO
    rw [hn]
    clear hp hb1 ho hi hn HRS
    have HPP : Hid (Calls Tryz.prog 13 #[.slice a n cap] w1 fun e w' => e = .returned (.string (putM l)) ∧ Below w1.heap.size w1 w') := implPut_any w1.heap.size a n cap l w1 HW1.out (by omega) (Nat.le_refl _) HSM.out H64.out HI.out
    obtain ⟨P, hP⟩ : ∃ P, putM l = P := ⟨_, rfl⟩
    rw [hP] at HE HPP
    clear hP
    cases he : P.toList.isEmpty
    · have HN : Hid (exprM s = some l) := by
        show exprM s = _
        rw [HE.out, if_neg (by rw [he]; decide)]
      go_wp2_with (go_at_call 13; refine HPP.out.mono ?_; rintro e w2 ⟨rfl, hb2⟩; have HB2 : Hid (Below w.heap.size w w2) := below_up HB.out HB.out.size hb2; have HO2 : Hid (OwnNd w.heap.size w2 (.slice a n cap) l) := HO.out.old hb2; clear hb2)
      go_ret2
      exact ⟨_, _, rfl, (fun h => by rw [HN.out] at h; cases h), (fun l' hl => by rw [HN.out] at hl; cases hl; exact ⟨rfl, HO2.out⟩), HB2.out⟩
    · have HN : Hid (exprM s = none) := by
        show exprM s = _
        rw [HE.out, if_pos he]
      go_wp2_with (go_at_call 13; refine HPP.out.mono ?_; rintro e w2 ⟨rfl, hb2⟩; have HB2 : Hid (Below w.heap.size w w2) := below_up HB.out HB.out.size hb2; clear hb2)
      go_ret2
      exact ⟨_, _, rfl, fun _ => ⟨rfl, rfl⟩, (fun l' hl => by rw [HN.out] at hl; cases hl), HB2.out⟩
end Go.Proofs.YtbpfonmkbbnkcaaGreatDoor

/- The walks for nodes: how many there are, copies, comparisons. -/
namespace Go.Proofs.YtbpfonmkbbnkcaaGreatDoor
open Go.RowKit Go.PlainAid
set_option linter.unusedSimpArgs false
set_option linter.unusedVariables false

theorem toNode_any (x y : Int) (z : ByteArray) (w : World) : Calls Tryz.prog 65 #[.agg #[.int .i64 x, .int .i64 y, .string z]] w fun e w' => e = .returned (.agg #[.int .i64 x, .int .i64 y, .string z]) ∧ Below w.heap.size w w' := by
  go_enter Tryz.func65, Tryz.ntmps65
  go_wp2
  go_returns
  refine ⟨rfl, ?_⟩
  go_grown
theorem eqNode_same (x y : Int) (z : ByteArray) (w : World) : Calls Tryz.prog 62 #[.agg #[.int .i64 x, .int .i64 y, .string z], .agg #[.int .i64 x, .int .i64 y, .string z]] w fun e w' => e = .returned (.bool true) ∧ Below w.heap.size w w' := by
  go_enter Tryz.func62, Tryz.ntmps62
  go_wp2
  go_ret
  refine ⟨ret_bool (by simp), ?_⟩
  go_grown
theorem szNode_any (x y : Int) (z : ByteArray) (left : Int) (w : World) (h0 : 0 ≤ left) (h1 : left ≤ 1048576) (hz : z.size ≤ 9223372036854775807) :
    Calls Tryz.prog 64 #[.agg #[.int .i64 x, .int .i64 y, .string z], .int .i64 left] w fun e w' => e = .returned (.int .i64 (if left < z.size then -1 else left - z.size)) ∧ Below w.heap.size w w' := by
  have hw : IntKind.i64.wrap (left - z.size) = left - z.size := by rw [IntKind.wrap_i64]; omega
  by_cases h : left < z.size
  · go_enter Tryz.func64, Tryz.ntmps64
    go_wp2
    go_ret
    refine ⟨ret_int rfl, ?_⟩
    go_grown
  · go_enter Tryz.func64, Tryz.ntmps64
    go_wp2
    go_ret
    refine ⟨ret_int rfl, ?_⟩
    go_grown

/-- how much is left behind the names of the first k nodes -/
def leftTo (l : List Nd) (left : Int) : Nat → Int
  | 0 => left
  | k + 1 => leftTo l left k - ((l.getD k (0, 0, noName)).2.2.size : Int)

/-- the flat cells of nodes -/
def ndCell (l : List Nd) (j : Nat) : Value := if j % 3 = 0 then .int .i64 (l.getD (j / 3) (0, 0, noName)).1 else if j % 3 = 1 then .int .i64 (l.getD (j / 3) (0, 0, noName)).2.1 else .string (l.getD (j / 3) (0, 0, noName)).2.2
theorem ndCell_0 (l : List Nd) (k : Nat) : ndCell l (k * 3) = .int .i64 (l.getD k (0, 0, noName)).1 := by
  unfold ndCell; rw [if_pos (by omega), show k * 3 / 3 = k from by omega]
theorem ndCell_1 (l : List Nd) (k : Nat) : ndCell l (k * 3 + 1) = .int .i64 (l.getD k (0, 0, noName)).2.1 := by
  unfold ndCell; rw [if_neg (by omega), if_pos (by omega), show (k * 3 + 1) / 3 = k from by omega]
theorem ndCell_2 (l : List Nd) (k : Nat) : ndCell l (k * 3 + 1 + 1) = .string (l.getD k (0, 0, noName)).2.2 := by
  unfold ndCell; rw [if_neg (by omega), if_neg (by omega), show (k * 3 + 1 + 1) / 3 = k from by omega]
theorem nds_at {l : List Nd} {k : Nat} (h : k < l.length) : l.getD k (0, 0, noName) = l[k] := by
  rw [List.getD_eq_getElem?_getD, List.getElem?_eq_getElem h]; rfl

set_option maxHeartbeats 800000 in
set_option maxRecDepth 100000 in
theorem toNodeS_open (B : Nat) (a : Option Addr) (n cap : Nat) (l : List Nd) (w : World) (hn : n ≤ 1048576) (hB : B ≤ w.heap.size) (hz : IsNds B w a n l) :
    Calls Tryz.prog 33 #[.slice a n cap] w fun e w' => ∃ b, e = .returned (.slice (some ⟨b, 0, none⟩) n n) ∧ w.heap.size ≤ b ∧ IsNds w'.heap.size w' (some ⟨b, 0, none⟩) n l ∧ Below w.heap.size w w' ∧ b < w'.heap.size ∧ ∀ j, j < n * 3 → w'.frozen? ⟨b, j, none⟩ = false := by
  obtain ⟨hlen, hcells⟩ := hz
  obtain ⟨i0, hi, hz0, hz1, hz2⟩ := info_parts infoNode
  have hmk : ∀ u : World, (Instr.makeSlice 23 (.int .i64 (n : Int)) (.int .i64 (n : Int))).run Tryz.prog u =
      .ok (.slice (some ⟨u.heap.size, 0, none⟩) n n) (u.alloc (.cells (madeCells #[.int .i64 0, .int .i64 0, .string ⟨#[]⟩] (n * 3)) 38)) := fun u => by
    have h := run_make (P := Tryz.prog) u 23 38 i0 (.agg #[.int .i64 0, .int .i64 0, .string ⟨#[]⟩]) Tryz.underlying23 hi hz0 .i64 .i64 (n : Int) (n : Int) (by omega) (Int.le_refl _) (by rw [hz2]; omega) (by omega)
    have e : ((n : Int)).toNat = n := by omega
    rw [e] at h
    simpa [hz1, Value.cells] using h
  go_enter Tryz.func33, Tryz.ntmps33
  go_wp2
  go_loopw [4] (fun i wr => ∃ k : Nat, k ≤ n ∧ i = .int .i64 k ∧ Fill w.heap.size w wr (n * 3) (k * 3) (ndCell l)) (fun i _ => n - (intOf i).toNat)
  case atStart =>
    have h := Fill.start w (madeCells #[.int .i64 0, .int .i64 0, .string ⟨#[]⟩] (n * 3)) 38 (ndCell l)
    rw [size_madeCells] at h
    exact ⟨0, Nat.zero_le _, rfl, h⟩
  case round =>
    obtain ⟨k, hk, rfl, hfill⟩ := hrel
    by_cases hlt : k < n
    · rcases hcells with h0 | ⟨b, off, rfl, hb, hc⟩
      · omega
      obtain ⟨x, hx⟩ : ∃ x, l[k]'(by omega) = x := ⟨_, rfl⟩
      have HX : Hid (l.getD k (0, 0, noName) = x) := (nds_at (by omega)).trans hx
      have cc := hc k (by omega)
      rw [hx] at cc
      obtain ⟨xk, xn, xs⟩ := x
      have c0 := (hfill.below.cell (p := ⟨b, off + k * 3, none⟩) (by simp; omega)).trans cc.1
      have c1 := (hfill.below.cell (p := ⟨b, off + k * 3 + 1, none⟩) (by simp; omega)).trans cc.2.1
      have c2 := (hfill.below.cell (p := ⟨b, off + k * 3 + 1 + 1, none⟩) (by simp; omega)).trans cc.2.2
      obtain ⟨v0, f0⟩ := hfill.there (k * 3) (by omega)
      obtain ⟨v1, f1⟩ := hfill.there (k * 3 + 1) (by omega)
      obtain ⟨v2, f2⟩ := hfill.there (k * 3 + 1 + 1) (by omega)
      have hfz := hfill.open_
      have hsz := hfill.lt
      clear hmk hc cc hx
      go_wp2_with (go_at_call 65; refine (toNode_any _ _ _ _).mono ?_; rintro e w' ⟨rfl, hb1⟩; obtain ⟨hc', hf'⟩ := bcell hb1)
      go_roundw
      case rel => exact ⟨k + 1, by omega, by go_num, by
        rw [show (k + 1) * 3 = k * 3 + 1 + 1 + 1 from by omega]
        exact (((hfill.call hb1).store (by omega) (by rw [ndCell_0, HX.out])).store (by omega) (by rw [ndCell_1, HX.out])).store (by omega) (by rw [ndCell_2, HX.out])⟩
      case measure => simp [intOf]; omega
    · have : k = n := by omega
      subst this
      go_wp2
      go_ret
      refine ⟨_, rfl, Nat.le_refl _, ⟨hlen, .inr ⟨_, _, rfl, hfill.lt, fun i hi => ?_⟩⟩, hfill.below, hfill.lt, fun j _ => hfill.open_ j⟩
      have g0 := hfill.done (i * 3) (by omega)
      have g1 := hfill.done (i * 3 + 1) (by omega)
      have g2 := hfill.done (i * 3 + 1 + 1) (by omega)
      rw [ndCell_0, nds_at hi] at g0
      rw [ndCell_1, nds_at hi] at g1
      rw [ndCell_2, nds_at hi] at g2
      rw [Nat.zero_add]
      exact ⟨g0, g1, g2⟩
theorem toNodeS_any (B : Nat) (a : Option Addr) (n cap : Nat) (l : List Nd) (w : World) (hn : n ≤ 1048576) (hB : B ≤ w.heap.size) (hz : IsNds B w a n l) :
    Calls Tryz.prog 33 #[.slice a n cap] w fun e w' => ∃ b, e = .returned (.slice (some ⟨b, 0, none⟩) n n) ∧ w.heap.size ≤ b ∧ IsNds w'.heap.size w' (some ⟨b, 0, none⟩) n l ∧ Below w.heap.size w w' := by
  refine (toNodeS_open B a n cap l w hn hB hz).mono ?_
  rintro e w' ⟨b, h1, h2, h3, h4, _⟩
  exact ⟨b, h1, h2, h3, h4⟩

/-- two slices that read as the same nodes are the same -/
theorem eqNodeS_same (B : Nat) (a a' : Option Addr) (n cap cap' : Nat) (l : List Nd) (w : World) (hn : n ≤ 1048576) (hB : B ≤ w.heap.size) (hz : IsNds B w a n l) (hz' : IsNds B w a' n l) :
    Calls Tryz.prog 29 #[.slice a n cap, .slice a' n cap'] w fun e w' => e = .returned (.bool true) ∧ Below w.heap.size w w' := by
  obtain ⟨hlen, hcells⟩ := hz
  obtain ⟨_, hcells'⟩ := hz'
  go_enter Tryz.func29, Tryz.ntmps29
  go_wp2
  go_loopw [5] (fun i wr => ∃ k : Nat, k ≤ n ∧ i = .int .i64 k ∧ Below w.heap.size w wr) (fun i _ => n - (intOf i).toNat)
  case atStart => exact ⟨0, Nat.zero_le _, rfl, Below.refl _ _⟩
  case round =>
    obtain ⟨k, hk, rfl, hbel⟩ := hrel
    by_cases hlt : k < n
    · rcases hcells with h0 | ⟨b, off, rfl, hb, hc⟩
      · omega
      rcases hcells' with h0 | ⟨b', off', rfl, hb', hc'⟩
      · omega
      obtain ⟨⟨xk, xn, xs⟩, hx⟩ : ∃ x, l[k]'(by omega) = x := ⟨_, rfl⟩
      have cc := hc k (by omega)
      have dd := hc' k (by omega)
      rw [hx] at cc dd
      have c0 := (hbel.cell (p := ⟨b, off + k * 3, none⟩) (by simp; omega)).trans cc.1
      have c1 := (hbel.cell (p := ⟨b, off + k * 3 + 1, none⟩) (by simp; omega)).trans cc.2.1
      have c2 := (hbel.cell (p := ⟨b, off + k * 3 + 1 + 1, none⟩) (by simp; omega)).trans cc.2.2
      have d0 := (hbel.cell (p := ⟨b', off' + k * 3, none⟩) (by simp; omega)).trans dd.1
      have d1 := (hbel.cell (p := ⟨b', off' + k * 3 + 1, none⟩) (by simp; omega)).trans dd.2.1
      have d2 := (hbel.cell (p := ⟨b', off' + k * 3 + 1 + 1, none⟩) (by simp; omega)).trans dd.2.2
      have hbr : b < wr.heap.size := by have := hbel.size; omega
      have hbr' : b' < wr.heap.size := by have := hbel.size; omega
      clear hc hc' cc dd hx
      go_wp2
      go_region_held3 (fun w' => w'.cell? ⟨b, off + k * 3, none⟩ = some (.int .i64 xk) ∧ w'.cell? ⟨b, off + k * 3 + 1, none⟩ = some (.int .i64 xn) ∧ w'.cell? ⟨b, off + k * 3 + 1 + 1, none⟩ = some (.string xs) ∧ w'.cell? ⟨b', off' + k * 3, none⟩ = some (.int .i64 xk) ∧ w'.cell? ⟨b', off' + k * 3 + 1, none⟩ = some (.int .i64 xn) ∧ w'.cell? ⟨b', off' + k * 3 + 1 + 1, none⟩ = some (.string xs)) (simp [go_sem, *])
        (first | (go_at_call 62; refine (eqNode_same _ _ _ _).mono ?_; rintro e w' ⟨rfl, hb1⟩; replace hb1 := undrew hb1; obtain ⟨hc1, hf1⟩ := bcell hb1))
      go_wp2
      go_roundw
      case rel => exact ⟨k + 1, by omega, by go_num, hbel.trans (hb1.mono hbel.size)⟩
      case measure => simp [intOf]; omega
    · go_wp2
      go_ret
      exact ⟨rfl, hbel⟩

/-- what szNodeS tells -/
def SzPost (n : Nat) (l : List Nd) (left : Int) (w : World) (e : Ending) (w' : World) : Prop :=
  ∃ r : Int, e = .returned (.int .i64 r) ∧ Below w.heap.size w w' ∧ r ≤ left ∧ -1 ≤ r ∧ (0 ≤ r → n ≤ 1048576 ∧ ∀ x ∈ l, x.2.2.size ≤ 1048576)
set_option maxHeartbeats 800000 in
set_option maxRecDepth 100000 in
theorem szNodeS_any (B : Nat) (a : Option Addr) (n cap : Nat) (l : List Nd) (left : Int) (w : World) (h0 : 0 ≤ left) (h1 : left ≤ 1048576) (hn : n ≤ maxLen) (hB : B ≤ w.heap.size) (hs : ∀ x ∈ l, x.2.2.size ≤ maxLen) (hz : IsNds B w a n l) :
    Calls Tryz.prog 32 #[.slice a n cap, .int .i64 left] w fun e w' => SzPost n l left w e w' := by
  obtain ⟨hlen, hcells⟩ := hz
  unfold maxLen at hn hs
  have hw : IntKind.i64.wrap (left - n) = left - n := by rw [IntKind.wrap_i64]; omega
  by_cases h : left < n
  · clear hcells hs
    go_enter Tryz.func32, Tryz.ntmps32
    go_wp2_with fail
    go_ret
    exact ⟨-1, rfl, Below.refl _ _, by omega, by omega, fun h => by omega⟩
  go_enter Tryz.func32, Tryz.ntmps32
  go_wp2_with fail
  go_loopw [1, 5] (fun v i wr => ∃ (k : Nat) (r : Int), k ≤ n ∧ i = .int .i64 k ∧ v = .int .i64 r ∧ 0 ≤ r ∧ r ≤ left ∧ Hid (∀ j, j < k → (l.getD j (0, 0, noName)).2.2.size ≤ 1048576) ∧ Below w.heap.size w wr) (fun _ i _ => n - (intOf i).toNat)
  case atStart => exact ⟨0, left - n, Nat.zero_le _, rfl, rfl, by omega, by omega, fun j hj => by omega, Below.refl _ _⟩
  case round =>
    obtain ⟨k, r, hk, rfl, rfl, hr0, hr1, hdone, hbel⟩ := hrel
    by_cases hlt : k < n
    · rcases hcells with h0 | ⟨b, off, rfl, hb, hc⟩
      · omega
      obtain ⟨⟨xk, xn, xs⟩, hx⟩ : ∃ x, l[k]'(by omega) = x := ⟨_, rfl⟩
      have cc := hc k (by omega)
      have hxs : xs.size ≤ 9223372036854775807 := by
        have := hs (l[k]'(by omega)) (List.getElem_mem _)
        rw [hx] at this; simp only at this; omega
      rw [hx] at cc
      have HX : Hid (l.getD k (0, 0, noName) = (xk, xn, xs)) := (nds_at (by omega)).trans hx
      have c0 := (hbel.cell (p := ⟨b, off + k * 3, none⟩) (by simp; omega)).trans cc.1
      have c1 := (hbel.cell (p := ⟨b, off + k * 3 + 1, none⟩) (by simp; omega)).trans cc.2.1
      have c2 := (hbel.cell (p := ⟨b, off + k * 3 + 1 + 1, none⟩) (by simp; omega)).trans cc.2.2
      have HZ : Hid (Calls Tryz.prog 64 #[.agg #[.int .i64 xk, .int .i64 xn, .string xs], .int .i64 r] wr fun e w' => e = .returned (.int .i64 (if r < xs.size then -1 else r - xs.size)) ∧ Below wr.heap.size wr w') := szNode_any xk xn xs r wr hr0 (by omega) hxs
      clear hc cc hx hs
      by_cases hrs : r < xs.size
      · rw [if_pos hrs] at HZ
        go_wp2_with (go_at_call 64; refine HZ.out.mono ?_; rintro e w1 ⟨rfl, hb1⟩)
        go_ret
        exact ⟨-1, rfl, hbel.trans (hb1.mono hbel.size), by omega, by omega, fun h => by omega⟩
      · rw [if_neg hrs] at HZ
        obtain ⟨r', hr'⟩ : ∃ r', r - (xs.size : Int) = r' := ⟨_, rfl⟩
        rw [hr'] at HZ
        have q0 : 0 ≤ r' := by omega
        have q1 : r' ≤ left := by omega
        have q2 : xs.size ≤ 1048576 := by omega
        clear hr' hrs
        go_wp2_with (go_at_call 64; refine HZ.out.mono ?_; rintro e w1 ⟨rfl, hb1⟩)
        go_roundw
        case rel =>
          refine ⟨k + 1, r', by omega, by go_num, rfl, q0, q1, ?_, hbel.trans (hb1.mono hbel.size)⟩
          intro j hj
          by_cases e : j = k
          · subst e; rw [HX.out]; exact q2
          · exact hdone.out j (by omega)
        case measure => simp [intOf]; omega
    · have : k = n := by omega
      subst this
      go_wp2_with fail
      go_ret
      refine ⟨r, rfl, hbel, hr1, by omega, fun _ => ⟨by omega, fun x hx => ?_⟩⟩
      obtain ⟨j, hj, rfl⟩ := List.getElem_of_mem hx
      have := hdone.out j (by omega)
      rwa [nds_at hj] at this
end Go.Proofs.YtbpfonmkbbnkcaaGreatDoor
