/- How a part is written, by its methods. -/
import Derived.Test.YtcajjngjojegfaaGreatDoorNodes
import Derived.Test.YtcajjngjojegfaaGreatDoorShelf
import Derived.Lib.AppendIntMem
import Derived.Deep.RegionHeld3
namespace Go.Proofs.YtcajjngjojegfaaGreatDoor
open Go Go.RowKit Go.PlainAid
set_option linter.unusedSimpArgs false
set_option linter.unusedVariables false

/-- the tables that the program reads -/
structure Tabs (w : World) : Prop where
  signs : Signs w
  tens : Lib.TabIs Tryz.prog w "internal/strconv.uint64pow10" .u64 Lib.pow10Tab
theorem Tabs.below {w w' : World} (h : Tabs w) (hb : Below w.heap.size w w') : Tabs w' :=
  ⟨fun k hk => ⟨(hb.cell h.signs.lt).trans (h.signs k hk).1, (hb.cell h.signs.lt).trans (h.signs k hk).2⟩, Lib.tabBelow_of_tabIs h.tens w' hb⟩

def tightT : Tree → Int
  | .num _ => 7
  | .name _ => 7
  | .ahead _ _ => 6
  | .pair k _ _ => lvl k
/-- a part within another one -/
def parT (t : Tree) (x : ByteArray) (least : Int) : ByteArray := if tightT t < least then lpar ++ x ++ rpar else x
def textT : Tree → ByteArray
  | .num n => ⟨(Lib.itoa n).toArray⟩
  | .name x => x
  | .ahead k t => sgI k.toNat ++ parT t (textT t) 6
  | .pair k l r => parT l (textT l) (lvl k) ++ sg k.toNat ++ parT r (textT r) (lvl k + 1)
/-- signs are signs, numbers are Go's -/
def Wf : Tree → Prop
  | .num n => -9223372036854775808 ≤ n ∧ n ≤ 9223372036854775807
  | .name x => x.size ≤ 6
  | .ahead k t => (k = 3 ∨ k = 4) ∧ Wf t
  | .pair k l r => (5 ≤ k ∧ k ≤ 13) ∧ Wf l ∧ Wf r
def tightFn : Tree → FuncId
  | .num _ => 200
  | .name _ => 204
  | .ahead _ _ => 208
  | .pair _ _ _ => 195
def textFn : Tree → FuncId
  | .num _ => 199
  | .name _ => 203
  | .ahead _ _ => 207
  | .pair _ _ _ => 194
theorem tight_method (t : Tree) (u : World) : (callMethod (.iface (partT t) (partX t)) "loop.example/telltale/impl.tight" #[]).run Tryz.prog u = .ok (.enter (tightFn t) #[partX t]) u := by
  cases t
  · kernel_rfl
  · kernel_rfl
  · kernel_rfl
  · kernel_rfl
theorem text_method (t : Tree) (u : World) : (callMethod (.iface (partT t) (partX t)) "loop.example/telltale/impl.text" #[]).run Tryz.prog u = .ok (.enter (textFn t) #[partX t]) u := by
  cases t
  · kernel_rfl
  · kernel_rfl
  · kernel_rfl
  · kernel_rfl
theorem wpList_invoke0 {P : Program} {w : World} {ops : Array Oper} {rest : List Oper} {o : Oper} {a : Act} {Q : Exit → Act → World → Prop} (hgd : o.guard = none) (recv : Operand) (name : String) (ts : Array TypeId)
    (ho : o.op = .call { callee := .invoke recv name, args := #[], argTypes := ts }) (pt : TypeId) (px : Value) (fn : FuncId) (hr : a.eval recv = .iface pt px)
    (hcm : (callMethod (.iface pt px) name #[]).run P w = .ok (.enter fn #[px]) w) {post : Ending → World → Prop} (hc : Calls P fn #[px] w post) (h : ∀ e w', post e w' → ∃ v, e = .returned v ∧ wpList P ops Q rest (a.put o.dst v) w') : wpList P ops Q (o :: rest) a w :=
  wpList_plain hgd fun K hK => by
    unfold Oper.wp execOp
    simp only [ho, resolve, invoke, Sem.run_bind, Sem.run_pure, Result.andThen_ok, List.map_toArray, List.map_cons, List.map_nil, hr]
    have e1 : (#[Value.iface pt px] ++ #[])[0]? = some (.iface pt px) := rfl
    have e2 : (#[Value.iface pt px] ++ #[]).extract 1 = #[] := rfl
    rw [e1, e2]
    simp only [hcm]
    refine hc.mono ?_
    intro e w' he
    obtain ⟨v, rfl, hk⟩ := h e w' he
    exact hK _ _ hk

theorem tight_any (t : Tree) (w : World) (hg : Signs w) (hw : Wf t) : Calls Tryz.prog (tightFn t) #[partX t] w fun e w' => e = .returned (.int .i64 (tightT t)) ∧ Below w.heap.size w w' := by
  cases t with
  | num n =>
    show Calls Tryz.prog 200 #[.agg #[.int .i64 n]] w _
    go_enter Tryz.func200, Tryz.ntmps200
    go_wp2
    go_ret
    exact ⟨rfl, (Below.refl _ _).alloc (Nat.le_refl _) _⟩
  | name x =>
    show Calls Tryz.prog 204 #[.agg #[.string x]] w _
    go_enter Tryz.func204, Tryz.ntmps204
    go_wp2
    go_ret
    exact ⟨rfl, (Below.refl _ _).alloc (Nat.le_refl _) _⟩
  | ahead k t =>
    obtain ⟨hk, _⟩ := hw
    show Calls Tryz.prog 208 #[.agg #[.int .i64 k, partV t]] w fun e w' => e = .returned (.int .i64 6) ∧ Below w.heap.size w w'
    rw [partV_eq]
    generalize partX t = px
    generalize partT t = pt
    have h0 := hg.lt
    have g3 := (hg 3 (by omega)).2
    have g4 := (hg 4 (by omega)).2
    have e3 : tgI 3 = 6 := rfl
    have e4 : tgI 4 = 6 := rfl
    rw [e3] at g3
    rw [e4] at g4
    clear hg
    rcases hk with rfl | rfl
    · go_enter Tryz.func208, Tryz.ntmps208
      go_wp2
      go_ret
      exact ⟨rfl, (Below.refl _ _).alloc (Nat.le_refl _) _⟩
    · go_enter Tryz.func208, Tryz.ntmps208
      go_wp2
      go_ret
      exact ⟨rfl, (Below.refl _ _).alloc (Nat.le_refl _) _⟩
  | pair k l r =>
    obtain ⟨hk, _, _⟩ := hw
    show Calls Tryz.prog 195 #[.agg #[.int .i64 k, partV l, partV r]] w fun e w' => e = .returned (.int .i64 (lvl k)) ∧ Below w.heap.size w w'
    rw [partV_eq l, partV_eq r]
    generalize partX l = px
    generalize partT l = pt
    generalize partX r = qx
    generalize partT r = qt
    have h0 := hg.lt
    obtain ⟨n, rfl⟩ : ∃ n : Nat, k = n := ⟨k.toNat, by omega⟩
    have g := (hg n (by omega)).2
    have e : tgI n = lvl n := by unfold tgI; rw [if_neg (by omega), if_pos (by omega)]
    rw [e] at g
    have hn : n < 14 := by omega
    generalize lvl (n : Int) = lv at *
    clear hg e
    go_enter Tryz.func195, Tryz.ntmps195
    go_wp2
    go_ret
    exact ⟨rfl, (Below.refl _ _).alloc (Nat.le_refl _) _⟩
end Go.Proofs.YtcajjngjojegfaaGreatDoor
