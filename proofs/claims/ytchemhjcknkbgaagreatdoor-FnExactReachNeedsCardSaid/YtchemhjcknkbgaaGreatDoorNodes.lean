/- The nodes of a part, by its methods. -/
import Derived.Test.YtchemhjcknkbgaaGreatDoorBunY21
import Derived.Deep.RegionLaw
import Derived.Deep.RegionWith
import Derived.Deep.AppendLies
namespace Go.Proofs.YtchemhjcknkbgaaGreatDoor
open Go Go.RowKit Go.PlainAid
set_option linter.unusedSimpArgs false
set_option linter.unusedVariables false

def partT : Tree → TypeId
  | .num _ => 312
  | .name _ => 290
  | .ahead _ _ => 270
  | .pair _ _ _ => 239
def partX : Tree → Value
  | .num n => .agg #[.int .i64 n]
  | .name x => .agg #[.string x]
  | .ahead k t => .agg #[.int .i64 k, partV t]
  | .pair k l r => .agg #[.int .i64 k, partV l, partV r]
theorem partV_eq (t : Tree) : partV t = .iface (partT t) (partX t) := by cases t <;> rfl
def nodesFn : Tree → FuncId
  | .num _ => 331
  | .name _ => 327
  | .ahead _ _ => 322
  | .pair _ _ _ => 315
theorem nodes_method (t : Tree) (y : Value) (u : World) : (callMethod (.iface (partT t) (partX t)) "loop.example/telltale/impl.nodes" #[y]).run Tryz.prog u = .ok (.enter (nodesFn t) #[partX t, y]) u := by
  cases t
  · kernel_rfl
  · kernel_rfl
  · kernel_rfl
  · kernel_rfl

theorem OwnNd.grow {B : Nat} {w1 : World} {v' : Value} {l : List Nd} {x : Nd} (h : w1.ownsRow B 121 3 v' (l.length + 1) (ndCells l ++ [.int .i64 x.1, .int .i64 x.2.1, .string x.2.2])) : OwnNd B w1 v' (l ++ [x]) := by
  unfold OwnNd
  rw [ndCells_snoc]
  simpa using h
theorem OwnNd.form {B : Nat} {w : World} {v : Value} {l : List Nd} (h : OwnNd B w v l) : ∃ a cap, v = .slice a l.length cap ∧ l.length ≤ cap := by
  rcases h.2 with ⟨h1, h2⟩ | ⟨g, cap, cur, h1, _, _, h3, _⟩
  · exact ⟨none, 0, by rw [h1, h2], by omega⟩
  · exact ⟨_, cap, h1, h3⟩
theorem three_newN (w : World) (x y z : Value) (t : TypeId) (N : Nat) (hN : N = w.heap.size) : ∀ j u, [x, y, z][j]? = some u → (w.alloc (.cells #[x, y, z] t)).cell? ((⟨N, 0, none⟩ : Addr).add j) = some u := by
  subst hN; exact three_new w x y z t

/-- only the row that v owns, and new blocks, were written; v' owns that row, or a new one -/
structure Gr (v : Value) (w w' : World) (v' : Value) : Prop where
  os : w'.os = w.os
  tape : w'.tape = w.tape
  output : w'.output = w.output
  size : w.heap.size ≤ w'.heap.size
  block : ∀ k, k < w.heap.size → some k ≠ v.ownBlock → w'.heap[k]? = w.heap[k]?
  own : v'.ownBlock = v.ownBlock ∨ ∀ g, v'.ownBlock = some g → w.heap.size ≤ g
theorem Gr.of {v : Value} {w w' : World} {g n cap : Nat} (h : w.grownBy w' v.ownBlock) (hat : v.ownBlock = some g ∨ g = w.heap.size) : Gr v w w' (.slice (some ⟨g, 0, none⟩) n cap) :=
  ⟨h.os, h.tape, h.output, h.size, h.block, by
    rcases hat with e | e
    · exact .inl e.symm
    · exact .inr fun k hk => by simp [Value.ownBlock] at hk; omega⟩
theorem Gr.alloc0 {v v' : Value} {w w' : World} {o : Obj} (h : Gr v (w.alloc o) w' v') : Gr v w w' v' :=
  ⟨h.os, h.tape, h.output, by have := h.size; simp at this; omega, fun k hk hv => (h.block k (by simp; omega) hv).trans (Below.heap_alloc _ _ _ hk), by
    rcases h.own with e | e
    · exact .inl e
    · exact .inr fun g hg => by have := e g hg; simp at this; omega⟩
theorem Gr.drew0 {v v' : Value} {w w' : World} (h : Gr v w.drew w' v') : Gr v w w' v' := ⟨h.os, h.tape, h.output, h.size, h.block, h.own⟩
theorem Gr.trans {v v1 v2 : Value} {w w1 w2 : World} (h : Gr v w w1 v1) (k : Gr v1 w1 w2 v2) : Gr v w w2 v2 :=
  ⟨k.os.trans h.os, k.tape.trans h.tape, k.output.trans h.output, Nat.le_trans h.size k.size, fun b hb hv => by
    have hne : some b ≠ v1.ownBlock := by
      rcases h.own with e | e
      · rw [e]; exact hv
      · intro hh; have := e b hh.symm; omega
    exact (k.block b (Nat.lt_of_lt_of_le hb h.size) hne).trans (h.block b hb hv), by
    rcases k.own with e | e
    · rcases h.own with e2 | e2
      · exact .inl (e.trans e2)
      · exact .inr fun g hg => e2 g (by rw [← e]; exact hg)
    · exact .inr fun g hg => Nat.le_trans h.size (e g hg)⟩
theorem Gr.end_alloc {v v' : Value} {w w' : World} (h : Gr v w w' v') (o : Obj) : Gr v w (w'.alloc o) v' :=
  ⟨h.os, h.tape, h.output, by have := h.size; simp; omega, fun k hk hv => (Below.heap_alloc _ _ _ (by have := h.size; omega)).trans (h.block k hk hv), h.own⟩
/-- blocks that the row does not lie in read as before -/
theorem Gr.cell {v v' : Value} {w w' : World} {B0 : Nat} (h : Gr v w w' v') (hv : ∀ k, v.ownBlock = some k → k < B0) : ∀ b o, B0 ≤ b → b < w.heap.size → w'.cell? ⟨b, o, none⟩ = w.cell? ⟨b, o, none⟩ := fun b o h1 h2 =>
  World.cell?_of_block (w := w) (h.block b h2 (fun e => by have := hv b e.symm; omega))
/-- where what is owned then lies -/
theorem Gr.far {v v' : Value} {W W' : World} {B0 : Nat} (h : Gr v W W' v') (hv : ∀ q, v.ownBlock = some q → q < B0) : ∀ q, v'.ownBlock = some q → q < B0 ∨ W.heap.size ≤ q := fun q hq => by
  rcases h.own with e | e
  · exact .inl (hv q (by rw [← e]; exact hq))
  · exact .inr (e q hq)
theorem Gr.cell2 {v v' : Value} {W W' : World} {B0 N : Nat} (h : Gr v W W' v') (hv : ∀ q, v.ownBlock = some q → q < B0 ∨ N ≤ q) (hN : N ≤ W.heap.size) : ∀ b o, B0 ≤ b → b < N → W'.cell? ⟨b, o, none⟩ = W.cell? ⟨b, o, none⟩ := fun b o h1 h2 =>
  World.cell?_of_block (w := W) (h.block b (by omega) (fun e => by have := hv b e.symm; omega))
theorem Gr.below {B : Nat} {v v' : Value} {w w' : World} (h : Gr v w w' v') (hB : B ≤ w.heap.size) (hv : ∀ k, v.ownBlock = some k → B ≤ k) : Below B w w' :=
  ⟨h.os, h.tape, h.output, h.size, fun k hk => h.block k (by omega) (fun e => by have := hv k e.symm; omega)⟩

set_option maxHeartbeats 800000 in
set_option maxRecDepth 100000 in
theorem numNodes_any (B : Nat) (n : Int) (v : Value) (l : List Nd) (w : World) (hB : B ≤ w.heap.size) (h : OwnNd B w v l) (hl : l.length ≤ 1000) :
    Calls Tryz.prog 331 #[.agg #[.int .i64 n], v] w fun e w' => ∃ v', e = .returned v' ∧ OwnNd B w' v' (l ++ [(1, n, noName)]) ∧ Gr v w w' v' := by
  obtain ⟨i0, hi, hz0, hz1, hz2⟩ := info_parts infoNode
  obtain ⟨a, cap, rfl, hcap⟩ := h.form
  obtain ⟨m, hm⟩ : ∃ m, l.length = m := ⟨_, rfl⟩
  have HM : Hid (l.length = m) := hm
  have HO : Hid (w.ownsRow B 121 3 (.slice a m cap) m (ndCells l)) := by rw [← hm]; exact h
  rw [hm] at hcap hl ⊢
  clear h hm
  go_enter Tryz.func331, Tryz.ntmps331
  go_wp2_with (at_builtin; (refine wpList_append_lies _ rfl (.tmp 5) (.tmp 9) 117 rfl B 121 i0 (.agg #[.int .i64 0, .int .i64 0, .string ByteArray.empty]) 3 32 Tryz.underlying117 hi hz0 hz1 hz2 rfl (by decide) _ m (ndCells l) rfl (by exact ((HO.out.alloc _).alloc _)) ⟨w.heap.size + 1, 0, none⟩ 1 1 [.int .i64 1, .int .i64 n, .string noName] rfl rfl (by exact three_newN _ _ _ _ _ _ (by simp)) (by intro u hu; simp at hu; rcases hu with rfl | rfl | rfl <;> rfl) (by decide) (by unfold maxLen; omega) (by omega) (by simp; omega) _ rfl ?_))
  intro g cap' w1 hown' hgrow hat hlt
  have hgr : Gr (.slice a m cap) w w1 (.slice (some ⟨g, 0, none⟩) (m + 1) cap') := Gr.alloc0 (Gr.alloc0 (Gr.of hgrow (by simpa using hat)))
  go_wp2_with fail
  go_ret
  exact ⟨_, rfl, OwnNd.grow (by rw [HM.out]; exact hown'), hgr⟩
set_option maxHeartbeats 800000 in
set_option maxRecDepth 100000 in
theorem nameNodes_any (B : Nat) (x : ByteArray) (v : Value) (l : List Nd) (w : World) (hB : B ≤ w.heap.size) (h : OwnNd B w v l) (hl : l.length ≤ 1000) :
    Calls Tryz.prog 327 #[.agg #[.string x], v] w fun e w' => ∃ v', e = .returned v' ∧ OwnNd B w' v' (l ++ [(2, 0, x)]) ∧ Gr v w w' v' := by
  obtain ⟨i0, hi, hz0, hz1, hz2⟩ := info_parts infoNode
  obtain ⟨a, cap, rfl, hcap⟩ := h.form
  obtain ⟨m, hm⟩ : ∃ m, l.length = m := ⟨_, rfl⟩
  have HM : Hid (l.length = m) := hm
  have HO : Hid (w.ownsRow B 121 3 (.slice a m cap) m (ndCells l)) := by rw [← hm]; exact h
  rw [hm] at hcap hl ⊢
  clear h hm
  go_enter Tryz.func327, Tryz.ntmps327
  go_wp2_with (at_builtin; (refine wpList_append_lies _ rfl (.tmp 5) (.tmp 9) 117 rfl B 121 i0 (.agg #[.int .i64 0, .int .i64 0, .string ByteArray.empty]) 3 32 Tryz.underlying117 hi hz0 hz1 hz2 rfl (by decide) _ m (ndCells l) rfl (by exact ((HO.out.alloc _).alloc _)) ⟨w.heap.size + 1, 0, none⟩ 1 1 [.int .i64 2, .int .i64 0, .string x] rfl rfl (by exact three_newN _ _ _ _ _ _ (by simp)) (by intro u hu; simp at hu; rcases hu with rfl | rfl | rfl <;> rfl) (by decide) (by unfold maxLen; omega) (by omega) (by simp; omega) _ rfl ?_))
  intro g cap' w1 hown' hgrow hat hlt
  have hgr : Gr (.slice a m cap) w w1 (.slice (some ⟨g, 0, none⟩) (m + 1) cap') := Gr.alloc0 (Gr.alloc0 (Gr.of hgrow (by simpa using hat)))
  go_wp2_with fail
  go_ret
  exact ⟨_, rfl, OwnNd.grow (by rw [HM.out]; exact hown'), hgr⟩

/-- a call through an interface, at a step of a region that draws -/
theorem step_invoke {P : Program} {w : World} {ops : Array Oper} {o : Oper} {a : Act} {K : Act → World → Prop} {Q : Exit → Act → World → Prop} {E : Prop} (hgd : o.guard = none) (recv x : Operand) (name : String) (ts : Array TypeId)
    (ho : o.op = .call { callee := .invoke recv name, args := #[x], argTypes := ts }) (pt : TypeId) (px y : Value) (fn : FuncId) (hr : a.eval recv = .iface pt px) (hx : a.eval x = y)
    (hcm : (callMethod (.iface pt px) name #[y]).run P w = .ok (.enter fn #[px, y]) w) {post : Ending → World → Prop} (hc : Calls P fn #[px, y] w post) (h : ∀ e w', post e w' → ∃ v, e = .returned v ∧ K (a.put o.dst v) w') :
    if Region.wanted o (yielded ops a.tmps) = true then Oper.wp P o a w K Q else E := by
  have hw : Region.wanted o (yielded ops a.tmps) = true := by simp [Region.wanted, hgd]
  rw [if_pos hw]
  unfold Oper.wp execOp
  simp only [ho, resolve, invoke, Sem.run_bind, Sem.run_pure, Result.andThen_ok, List.map_toArray, List.map_cons, List.map_nil, hr, hx]
  have e1 : (#[Value.iface pt px] ++ #[y])[0]? = some (.iface pt px) := rfl
  have e2 : (#[Value.iface pt px] ++ #[y]).extract 1 = #[y] := rfl
  rw [e1, e2]
  simp only [hcm]
  refine hc.mono ?_
  intro e w' he
  obtain ⟨v, rfl, hk⟩ := h e w' he
  exact hk

/-- .. at a plain region's operations -/
theorem wpList_invoke {P : Program} {w : World} {ops : Array Oper} {rest : List Oper} {o : Oper} {a : Act} {Q : Exit → Act → World → Prop} (hgd : o.guard = none) (recv x : Operand) (name : String) (ts : Array TypeId)
    (ho : o.op = .call { callee := .invoke recv name, args := #[x], argTypes := ts }) (pt : TypeId) (px y : Value) (fn : FuncId) (hr : a.eval recv = .iface pt px) (hx : a.eval x = y)
    (hcm : (callMethod (.iface pt px) name #[y]).run P w = .ok (.enter fn #[px, y]) w) {post : Ending → World → Prop} (hc : Calls P fn #[px, y] w post) (h : ∀ e w', post e w' → ∃ v, e = .returned v ∧ wpList P ops Q rest (a.put o.dst v) w') : wpList P ops Q (o :: rest) a w :=
  wpList_plain hgd fun K hK => by
    have h2 := step_invoke (ops := ops) (E := False) (Q := Q) (K := K) hgd recv x name ts ho pt px y fn hr hx hcm hc (fun e w' he => by
      obtain ⟨v, hv, hk⟩ := h e w' he
      exact ⟨v, hv, hK _ _ hk⟩)
    have hw : Region.wanted o (yielded ops a.tmps) = true := by simp [Region.wanted, hgd]
    rw [if_pos hw] at h2
    exact h2

/-- what the nodes of a part are asked for -/
def NodesOk (t : Tree) : Prop := ∀ (B : Nat) (v : Value) (l : List Nd) (w : World), B ≤ w.heap.size → OwnNd B w v l → l.length + t.nodes.length ≤ 1000 →
  Calls Tryz.prog (nodesFn t) #[partX t, v] w fun e w' => ∃ v', e = .returned v' ∧ OwnNd B w' v' (l ++ t.nodes) ∧ Gr v w w' v'

set_option maxHeartbeats 1600000 in
set_option maxRecDepth 100000 in
theorem aheadNodes_any (B : Nat) (k : Int) (t : Tree) (v : Value) (l : List Nd) (w : World) (hB : B ≤ w.heap.size) (h : OwnNd B w v l) (hl : l.length + t.nodes.length + 1 ≤ 1000) (hT : NodesOk t) :
    Calls Tryz.prog 322 #[.agg #[.int .i64 k, partV t], v] w fun e w' => ∃ v', e = .returned v' ∧ OwnNd B w' v' (l ++ t.nodes ++ [sgn k]) ∧ Gr v w w' v' := by
  obtain ⟨i0, hi, hz0, hz1, hz2⟩ := info_parts infoNode
  have HO : Hid (OwnNd B w v l) := h
  have HV : Hid (∀ q, v.ownBlock = some q → q < w.heap.size) := fun q hq => (World.ownsRow.lt h q hq).2
  have HT : Hid (∀ (w : World), B ≤ w.heap.size → OwnNd B w v l → Calls Tryz.prog (nodesFn t) #[partX t, v] w fun e w' => ∃ v', e = .returned v' ∧ OwnNd B w' v' (l ++ t.nodes) ∧ Gr v w w' v') := fun w h1 h2 => hT B v l w h1 h2 (by omega)
  have hcm := nodes_method t v
  have HCM : Hid (∀ u, (callMethod (.iface (partT t) (partX t)) "loop.example/telltale/impl.nodes" #[v]).run Tryz.prog u = .ok (.enter (nodesFn t) #[partX t, v]) u) := hcm
  rw [partV_eq]
  generalize partX t = px at *
  generalize partT t = pt at *
  generalize nodesFn t = fn at *
  obtain ⟨l1, hl1⟩ : ∃ l1, l ++ t.nodes = l1 := ⟨_, rfl⟩
  rw [hl1] at HT ⊢
  have hl1' : l1.length + 1 ≤ 1000 := by rw [← hl1]; simp; omega
  obtain ⟨m, hm⟩ : ∃ m, l1.length = m := ⟨_, rfl⟩
  have HM : Hid (l1.length = m) := hm
  rw [hm] at hl1'
  clear h hT hcm hl1 hl hm
  go_enter Tryz.func322, Tryz.ntmps322
  go_wp2_with fail
  go_region_law (first
    | (refine step_invoke rfl (.tmp 6) (.tmp 7) _ _ rfl pt px v fn rfl rfl (HCM.out _) (HT.out _ (by simp; omega) (by first | exact HO.out.alloc _ | exact World.ownsRow.alloc (World.ownsRow.alloc HO.out _) _)) ?_
       rintro e w1 ⟨v1, rfl, hown1, hgr1⟩
       refine ⟨v1, rfl, ?_⟩
       have hc1 := hgr1.cell (B0 := w.heap.size) HV.out
       have hs1 := hgr1.size
       simp at hs1
       have HO1 : Hid (OwnNd B w1 v1 l1) := hown1
       have HG1 : Hid (Gr v _ w1 v1) := hgr1
       clear hown1 hgr1)
    | (refine step_append_lies _ rfl (.tmp 8) (.tmp 12) 117 rfl B 121 i0 (.agg #[.int .i64 0, .int .i64 0, .string ByteArray.empty]) 3 32 Tryz.underlying117 hi hz0 hz1 hz2 rfl (by decide) v1 m (ndCells l1) rfl (by rw [← HM.out]; first | exact HO1.out | exact HO1.out.alloc _) _ 1 1 [.int .i64 k, .int .i64 0, .string noName] rfl rfl (by intro j u hj; match j, hj with | 0, hj => (simp at hj; subst hj; simp [Addr.add, hc1]) | 1, hj => (simp at hj; subst hj; simp [Addr.add, hc1]) | 2, hj => (simp at hj; subst hj; simp [Addr.add, hc1, noName])) (by intro u hu; simp at hu; rcases hu with rfl | rfl | rfl <;> rfl) (by decide) (by unfold maxLen; omega) (by omega) (by first | omega | (simp; omega)) _ rfl ?_
       intro g cap' w2 hown2 hgrow2 hat2 hlt2))
  all_goals
    go_wp2_with fail
    go_ret
    have HG : Gr v w w1 v1 := by
      first
      | exact Gr.alloc0 (Gr.drew0 HG1.out)
      | exact Gr.alloc0 (Gr.drew0 (Gr.alloc0 HG1.out))
      | exact Gr.alloc0 (Gr.alloc0 (Gr.drew0 HG1.out))
    refine ⟨_, rfl, OwnNd.grow (by rw [HM.out]; exact hown2), ?_⟩
    first
    | exact HG.trans (Gr.alloc0 (Gr.of hgrow2 hat2))
    | exact HG.trans (Gr.of hgrow2 hat2)
    | exact HG.trans (Gr.of hgrow2 (by simpa using hat2))
    | exact HG.trans (Gr.alloc0 (Gr.of hgrow2 (by simpa using hat2)))
set_option maxHeartbeats 3200000 in
set_option maxRecDepth 100000 in
theorem pairNodes_any (B : Nat) (k : Int) (t r : Tree) (v : Value) (l : List Nd) (w : World) (hB : B ≤ w.heap.size) (h : OwnNd B w v l) (hl : l.length + t.nodes.length + r.nodes.length + 1 ≤ 1000) (hT : NodesOk t) (hR : NodesOk r) :
    Calls Tryz.prog 315 #[.agg #[.int .i64 k, partV t, partV r], v] w fun e w' => ∃ v', e = .returned v' ∧ OwnNd B w' v' (l ++ t.nodes ++ r.nodes ++ [sgn k]) ∧ Gr v w w' v' := by
  obtain ⟨i0, hi, hz0, hz1, hz2⟩ := info_parts infoNode
  have HO : Hid (OwnNd B w v l) := h
  have HV : Hid (∀ q, v.ownBlock = some q → q < w.heap.size) := fun q hq => (World.ownsRow.lt h q hq).2
  have HT : Hid (∀ (w : World), B ≤ w.heap.size → OwnNd B w v l → Calls Tryz.prog (nodesFn t) #[partX t, v] w fun e w' => ∃ v', e = .returned v' ∧ OwnNd B w' v' (l ++ t.nodes) ∧ Gr v w w' v') := fun w h1 h2 => hT B v l w h1 h2 (by omega)
  have HR : Hid (∀ (v : Value) (w : World), B ≤ w.heap.size → OwnNd B w v (l ++ t.nodes) → Calls Tryz.prog (nodesFn r) #[partX r, v] w fun e w' => ∃ v', e = .returned v' ∧ OwnNd B w' v' (l ++ t.nodes ++ r.nodes) ∧ Gr v w w' v') := fun v w h1 h2 => hR B v (l ++ t.nodes) w h1 h2 (by simp; omega)
  have HCM : Hid (∀ u, (callMethod (.iface (partT t) (partX t)) "loop.example/telltale/impl.nodes" #[v]).run Tryz.prog u = .ok (.enter (nodesFn t) #[partX t, v]) u) := nodes_method t v
  have HCR : Hid (∀ y u, (callMethod (.iface (partT r) (partX r)) "loop.example/telltale/impl.nodes" #[y]).run Tryz.prog u = .ok (.enter (nodesFn r) #[partX r, y]) u) := nodes_method r
  rw [partV_eq t, partV_eq r]
  generalize partX t = px at *
  generalize partT t = pt at *
  generalize nodesFn t = fn at *
  generalize partX r = qx at *
  generalize partT r = qt at *
  generalize nodesFn r = fr at *
  obtain ⟨l2, hl2⟩ : ∃ l2, l ++ t.nodes ++ r.nodes = l2 := ⟨_, rfl⟩
  rw [hl2] at HR ⊢
  have hl2' : l2.length + 1 ≤ 1000 := by rw [← hl2]; simp; omega
  obtain ⟨l1, hl1⟩ : ∃ l1, l ++ t.nodes = l1 := ⟨_, rfl⟩
  rw [hl1] at HT HR
  obtain ⟨m, hm⟩ : ∃ m, l2.length = m := ⟨_, rfl⟩
  have HM : Hid (l2.length = m) := hm
  rw [hm] at hl2'
  clear h hT hR hl1 hl2 hl hm
  go_enter Tryz.func315, Tryz.ntmps315
  go_wp2_with fail
  go_region_law (first
    | (refine step_invoke rfl (.tmp 8) (.tmp 9) _ _ rfl pt px v fn rfl rfl (HCM.out _) (HT.out _ (by simp; omega) (by first | exact HO.out.alloc _ | exact World.ownsRow.alloc (World.ownsRow.alloc HO.out _) _)) ?_
       rintro e w1 ⟨v1, rfl, hown1, hgr1⟩
       refine ⟨v1, rfl, ?_⟩
       have hc1 := hgr1.cell (B0 := w.heap.size) HV.out
       have hs1 := hgr1.size
       simp at hs1
       have hs1' : w.heap.size < w1.heap.size := (by omega)
       have hf1 := hgr1.far HV.out
       simp at hf1
       have HV1 := hidOf hf1
       have HO1 : Hid (OwnNd B w1 v1 l1) := hown1
       have HG1 : Hid (Gr v w w1 v1) := (by
         first
         | exact Gr.alloc0 (Gr.drew0 hgr1)
         | exact Gr.alloc0 (Gr.drew0 (Gr.alloc0 hgr1))
         | exact Gr.alloc0 (Gr.alloc0 (Gr.drew0 hgr1)))
       clear hown1 hgr1 hf1)
    | (refine step_invoke rfl (.tmp 12) (.tmp 10) _ _ rfl qt qx v1 fr rfl rfl (HCR.out _ _) (HR.out _ _ (by first | omega | (simp; omega)) (by first | exact HO1.out | exact HO1.out.alloc _)) ?_
       rintro e w2 ⟨v2, rfl, hown2, hgr2⟩
       refine ⟨v2, rfl, ?_⟩
       have hs2 := hgr2.size
       try simp at hs2
       have hs2' : w.heap.size < w2.heap.size := (by omega)
       have hc2 := hgr2.cell2 HV1.out (by first | omega | (simp; omega))
       have hc3 := hgr2.cell (B0 := w1.heap.size) (fun q hq => (World.ownsRow.lt HO1.out q hq).2)
       have HO2 : Hid (OwnNd B w2 v2 l2) := hown2
       have HG2 : Hid (Gr v w w2 v2) := (by
         first
         | exact HG1.out.trans hgr2
         | exact HG1.out.trans (Gr.alloc0 hgr2)
         | exact HG1.out.trans (Gr.drew0 hgr2))
       clear hown2 hgr2)
    | (refine step_append_lies _ rfl (.tmp 13) (.tmp 17) 117 rfl B 121 i0 (.agg #[.int .i64 0, .int .i64 0, .string ByteArray.empty]) 3 32 Tryz.underlying117 hi hz0 hz1 hz2 rfl (by decide) v2 m (ndCells l2) rfl (by rw [← HM.out]; first | exact HO2.out | exact HO2.out.alloc _) _ 1 1 [.int .i64 k, .int .i64 0, .string noName] rfl rfl (by intro j u hj; match j, hj with | 0, hj => (simp at hj; subst hj; simp [Addr.add, hc1, hc2, hc3]) | 1, hj => (simp at hj; subst hj; simp [Addr.add, hc1, hc2, hc3]) | 2, hj => (simp at hj; subst hj; simp [Addr.add, hc1, hc2, hc3, noName])) (by intro u hu; simp at hu; rcases hu with rfl | rfl | rfl <;> rfl) (by decide) (by unfold maxLen; omega) (by omega) (by first | omega | (simp; omega)) _ rfl ?_
       intro g cap' w3 hown3 hgrow3 hat3 hlt3))
  all_goals
    go_wp2_with fail
    go_ret
    refine ⟨_, rfl, OwnNd.grow (by rw [HM.out]; exact hown3), ?_⟩
    first
    | exact HG2.out.trans (Gr.alloc0 (Gr.of hgrow3 hat3))
    | exact HG2.out.trans (Gr.of hgrow3 hat3)
    | exact HG2.out.trans (Gr.of hgrow3 (by simpa using hat3))
    | exact HG2.out.trans (Gr.alloc0 (Gr.of hgrow3 (by simpa using hat3)))
end Go.Proofs.YtchemhjcknkbgaaGreatDoor
