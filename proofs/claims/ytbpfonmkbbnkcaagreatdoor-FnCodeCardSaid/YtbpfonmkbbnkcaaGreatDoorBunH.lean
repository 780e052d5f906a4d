/- What a part comes to, by its methods. -/
import Derived.Test.YtbpfonmkbbnkcaaGreatDoorRunM
import Derived.Test.YtbpfonmkbbnkcaaGreatDoorBunJ
import Derived.Test.YtbpfonmkbbnkcaaGreatDoorBunE
import Derived.Deep.RegionLaw
namespace Go.Proofs.YtbpfonmkbbnkcaaGreatDoor
open Go Go.RowKit Go.PlainAid
set_option linter.unusedSimpArgs false
set_option linter.unusedVariables false

set_option maxHeartbeats 800000 in
set_option maxRecDepth 100000 in
theorem index_any (B : Nat) (a : Option Addr) (n cap : Nat) (l : List ByteArray) (x : ByteArray) (w : World) (hn : n ≤ 1048576) (hz : IsStrs B w a n l) :
    Calls Tryz.prog 56 #[.slice a n cap, .string x] w fun e w' => e = .returned (.int .i64 (findM l x)) ∧ w' = w := by
  obtain ⟨hlen, hcells⟩ := hz
  obtain ⟨D, hD⟩ : ∃ D, findM l x = D := ⟨_, rfl⟩
  have HD : Hid (findM l x = D) := hD
  rw [hD]; clear hD
  go_enter Tryz.func56, Tryz.ntmps56
  go_wp2_with fail
  go_loopw [8] (fun i wr => ∃ k : Nat, k ≤ n ∧ i = .int .i64 k ∧ Hid (∀ j, (h : j < l.length) → j < k → l[j] ≠ x) ∧ wr = w) (fun i _ => n - (intOf i).toNat)
  case atStart => exact ⟨0, Nat.zero_le _, rfl, fun j _ h => by omega, rfl⟩
  case round =>
    obtain ⟨k, hk, rfl, hdone, rfl⟩ := hrel
    by_cases hlt : k < n
    · rcases hcells with h0 | ⟨b, off, rfl, hb, hc⟩
      · omega
      have hkl : k < l.length := by omega
      have hcx := hc k hkl
      obtain ⟨y, hy⟩ : ∃ y, l[k] = y := ⟨_, rfl⟩
      have HY : Hid (l[k] = y) := hy
      rw [hy] at hcx
      clear hc hy
      by_cases hxy : y = x
      · subst hxy
        have HN : Hid (D = k) := by
          show D = k
          rw [← HD.out]
          exact findM_at hkl HY.out (fun j hj => hdone.out j (by omega) hj)
        go_wp2_with fail
        go_ret
        exact ⟨ret_int HN.out.symm, rfl⟩
      · have e2' : (x.toList == y.toList) = false := by
          simp only [beq_eq_false_iff_ne, ne_eq]
          intro e; exact hxy (by rw [Lib.toList_data, Lib.toList_data] at e; exact ByteArray.ext (Array.toList_inj.1 e.symm))
        have HK : Hid (∀ j, (h : j < l.length) → j < k + 1 → l[j] ≠ x) := fun j h1 h2 => by
          rcases Nat.lt_or_ge j k with h3 | h3
          · exact hdone.out j h1 h3
          · have : j = k := by omega
            subst this
            rw [HY.out]; exact hxy
        clear hxy
        go_wp2_with fail
        go_roundw
        case rel => exact ⟨k + 1, by omega, by go_num, HK.out, trivial⟩
        case measure => simp [intOf]; omega
    · have HN : Hid (D = -1) := by
        show D = -1
        rw [← HD.out]
        exact findM_none (fun j hj => hdone.out j hj (by omega))
      go_wp2_with fail
      go_ret
      exact ⟨ret_int HN.out.symm, rfl⟩

/-- what names stand for, in memory -/
structure ScopeAt (B : Nat) (w : World) (a1 : Option Addr) (n1 : Nat) (a2 : Option Addr) (n2 : Nat) (names : List ByteArray) (vals : List Int) : Prop where
  names : IsStrs B w a1 n1 names
  vals : IsInts B w a2 n2 vals
theorem ScopeAt.keep {B : Nat} {w w' : World} {a1 : Option Addr} {n1 : Nat} {a2 : Option Addr} {n2 : Nat} {names : List ByteArray} {vals : List Int} (h : ScopeAt B w a1 n1 a2 n2 names vals) (hb : Below B w w') : ScopeAt B w' a1 n1 a2 n2 names vals :=
  ⟨h.names.below hb, h.vals.below hb⟩
theorem ScopeAt.mono {B B' : Nat} {w : World} {a1 : Option Addr} {n1 : Nat} {a2 : Option Addr} {n2 : Nat} {names : List ByteArray} {vals : List Int} (h : ScopeAt B w a1 n1 a2 n2 names vals) (hb : B ≤ B') : ScopeAt B' w a1 n1 a2 n2 names vals :=
  ⟨h.names.mono hb, h.vals.mono hb⟩

set_option maxHeartbeats 800000 in
set_option maxRecDepth 100000 in
theorem valueOf_any (B : Nat) (a1 : Option Addr) (n1 c1 : Nat) (a2 : Option Addr) (n2 c2 : Nat) (names : List ByteArray) (vals : List Int) (x : ByteArray) (w : World) (hB : B ≤ w.heap.size) (h1 : n1 ≤ 1048576) (h2 : n2 ≤ 1048576) (h : ScopeAt B w a1 n1 a2 n2 names vals) :
    Calls Tryz.prog 191 #[.agg #[.slice a1 n1 c1, .slice a2 n2 c2], .string x] w fun e w' => e = .returned (.int .i32 (ofM names vals x)) ∧ Below w.heap.size w w' := by
  obtain ⟨hlen, hvs⟩ := h.vals
  have hfl := findM_lt names x
  have hnl := h.names.1
  have HB : Hid (Below w.heap.size w (w.alloc (.cells #[.slice a1 n1 c1, .slice a2 n2 c2] 78))) := (Below.refl _ _).alloc (Nat.le_refl _) _
  have HI : Hid (Calls Tryz.prog 56 #[.slice a1 n1 c1, .string x] (w.alloc (.cells #[.slice a1 n1 c1, .slice a2 n2 c2] 78)) fun e w' => e = .returned (.int .i64 (findM names x)) ∧ w' = (w.alloc (.cells #[.slice a1 n1 c1, .slice a2 n2 c2] 78))) := index_any B a1 n1 c1 names x _ h1 (h.names.below (HB.out.mono hB))
  obtain ⟨V, hV⟩ : ∃ V, ofM names vals x = V := ⟨_, rfl⟩
  have HV : Hid (ofM names vals x = V) := hV
  unfold ofM at hV
  rw [hlen] at hV
  obtain ⟨k, hk⟩ : ∃ k, findM names x = k := ⟨_, rfl⟩
  rw [hk] at hV HI hfl
  rw [HV.out]
  clear h hk
  by_cases hk0 : k < 0
  · rw [if_pos (.inl hk0)] at hV
    subst hV
    go_enter Tryz.func191, Tryz.ntmps191
    go_wp2_with (go_at_call 56; refine HI.out.mono ?_; rintro e w1 ⟨rfl, hw1⟩; rw [hw1]; clear hw1 w1)
    go_ret
    exact ⟨rfl, HB.out⟩
  by_cases hk1 : (n2 : Int) ≤ k
  · rw [if_pos (.inr hk1)] at hV
    subst hV
    go_enter Tryz.func191, Tryz.ntmps191
    go_wp2_with (go_at_call 56; refine HI.out.mono ?_; rintro e w1 ⟨rfl, hw1⟩; rw [hw1]; clear hw1 w1)
    go_ret
    exact ⟨rfl, HB.out⟩
  rw [if_neg (by omega)] at hV
  obtain ⟨j, rfl⟩ : ∃ j : Nat, k = j := ⟨k.toNat, by omega⟩
  rcases hvs with h0 | ⟨b, off, rfl, hb, hc⟩
  · omega
  have hcj := hc j (by omega)
  have hbw : b < w.heap.size := by omega
  have e0 : (j : Int).toNat = j := by omega
  rw [e0] at hV
  obtain ⟨y, hy⟩ : ∃ y, vals.getD j 0 = y := ⟨_, rfl⟩
  rw [hy] at hcj hV
  have HVV : Hid (wr32 y = V) := hV
  have hwr := wr32_is y
  clear hc hy hV e0
  go_enter Tryz.func191, Tryz.ntmps191
  go_wp2_with (go_at_call 56; refine HI.out.mono ?_; rintro e w1 ⟨rfl, hw1⟩; rw [hw1]; clear hw1 w1)
  go_ret
  exact ⟨ret_int (by rw [← HVV.out]; exact hwr), HB.out⟩

theorem ScopeAt.drew {B : Nat} {w : World} {a1 : Option Addr} {n1 : Nat} {a2 : Option Addr} {n2 : Nat} {names : List ByteArray} {vals : List Int} (h : ScopeAt B w a1 n1 a2 n2 names vals) : ScopeAt B w.drew a1 n1 a2 n2 names vals := ⟨h.names, h.vals⟩
theorem upon_of {P : Program} {o : Oper} {a : Act} {next : Act → World → Prop} {Q : Exit → Act → World → Prop} {R R' : Result Next} (h : R = R') (h2 : Oper.upon P o a next Q R') : Oper.upon P o a next Q R := by rw [h]; exact h2
def valueFn : Tree → FuncId
  | .num _ => 201
  | .name _ => 205
  | .ahead _ _ => 209
  | .pair _ _ _ => 196
theorem value_method (t : Tree) (y : Value) (u : World) : (callMethod (.iface (partT t) (partX t)) "loop.example/telltale/impl.value" #[y]).run Tryz.prog u = .ok (.enter (valueFn t) #[partX t, y]) u := by
  cases t
  · kernel_rfl
  · kernel_rfl
  · kernel_rfl
  · kernel_rfl
def ValueOk (t : Tree) : Prop := ∀ (B : Nat) (a1 : Option Addr) (n1 c1 : Nat) (a2 : Option Addr) (n2 c2 : Nat) (names : List ByteArray) (vals : List Int) (w : World), B ≤ w.heap.size → n1 ≤ 1048576 → n2 ≤ 1048576 → ScopeAt B w a1 n1 a2 n2 names vals →
  Calls Tryz.prog (valueFn t) #[partX t, .agg #[.slice a1 n1 c1, .slice a2 n2 c2]] w fun e w' => e = .returned (.int .i32 (valT (ofM names vals) t)) ∧ Below w.heap.size w w'

theorem numValue_any (n : Int) : ValueOk (.num n) := by
  intro B a1 n1 c1 a2 n2 c2 names vals w hB h1 h2 h
  clear h
  show Calls Tryz.prog 201 #[.agg #[.int .i64 n], .agg #[.slice a1 n1 c1, .slice a2 n2 c2]] w fun e w' => e = .returned (.int .i32 (wr32 n)) ∧ Below w.heap.size w w'
  have hwr := wr32_is n
  go_enter Tryz.func201, Tryz.ntmps201
  go_wp2_with fail
  go_ret
  exact ⟨ret_int (by first | rfl | exact hwr), ((Below.refl _ _).alloc (Nat.le_refl _) _).alloc (by simp) _⟩
theorem nameValue_any (x : ByteArray) : ValueOk (.name x) := by
  intro B a1 n1 c1 a2 n2 c2 names vals w hB h1 h2 h
  show Calls Tryz.prog 205 #[.agg #[.string x], .agg #[.slice a1 n1 c1, .slice a2 n2 c2]] w fun e w' => e = .returned (.int .i32 (ofM names vals x)) ∧ Below w.heap.size w w'
  obtain ⟨W, hW⟩ : ∃ W, W = (w.alloc (.cells #[.string x] 151)).alloc (.cells #[.slice a1 n1 c1, .slice a2 n2 c2] 78) := ⟨_, rfl⟩
  have HB : Hid (Below w.heap.size w W) := by
    show Below _ _ _
    rw [hW]; exact ((Below.refl _ _).alloc (Nat.le_refl _) _).alloc (by simp) _
  have HV : Hid (Calls Tryz.prog 191 #[.agg #[.slice a1 n1 c1, .slice a2 n2 c2], .string x] W fun e w' => e = .returned (.int .i32 (ofM names vals x)) ∧ Below W.heap.size W w') := valueOf_any B a1 n1 c1 a2 n2 c2 names vals x W (Nat.le_trans hB HB.out.size) h1 h2 (h.keep (HB.out.mono hB))
  rw [hW] at HV HB
  clear h hW
  go_enter Tryz.func205, Tryz.ntmps205
  go_wp2_with (go_at_call 191; refine HV.out.mono ?_; rintro e w1 ⟨rfl, hb1⟩)
  go_ret
  exact ⟨rfl, below_up HB.out HB.out.size hb1⟩

set_option maxHeartbeats 1600000 in
set_option maxRecDepth 100000 in
theorem aheadValue_ok (k : Int) (t : Tree) (hk : k = 3 ∨ k = 4) (hT : ValueOk t) : ValueOk (.ahead k t) := by
  intro B a1 n1 c1 a2 n2 c2 names vals w hB h1 h2 h
  show Calls Tryz.prog 209 #[.agg #[.int .i64 k, partV t], .agg #[.slice a1 n1 c1, .slice a2 n2 c2]] w fun e w' => e = .returned (.int .i32 (one k (valT (ofM names vals) t))) ∧ Below w.heap.size w w'
  rw [partV_eq]
  have HT : Hid (∀ w, B ≤ w.heap.size → ScopeAt B w a1 n1 a2 n2 names vals → Calls Tryz.prog (valueFn t) #[partX t, .agg #[.slice a1 n1 c1, .slice a2 n2 c2]] w fun e w' => e = .returned (.int .i32 (valT (ofM names vals) t)) ∧ Below w.heap.size w w') := fun w hB hs => hT B a1 n1 c1 a2 n2 c2 names vals w hB h1 h2 hs
  have hcm : ∀ u, (callMethod (.iface (partT t) (partX t)) "loop.example/telltale/impl.value" #[.agg #[.slice a1 n1 c1, .slice a2 n2 c2]]).run Tryz.prog u = .ok (.enter (valueFn t) #[partX t, .agg #[.slice a1 n1 c1, .slice a2 n2 c2]]) u := value_method t _
  generalize valT (ofM names vals) t = v at *
  generalize partX t = px at *
  generalize partT t = pt at *
  generalize valueFn t = fn at *
  have HA : Hid (∀ w, Calls Tryz.prog 110 #[.int .i64 k, .int .i32 v] w fun e w' => e = .returned (.int .i32 (one k v)) ∧ w' = w) := fun w => aheadValue_any k v w hk
  generalize one k v = r at *
  simp [go_sem, callMethod] at hcm
  have HCM := hidOf hcm
  clear hcm
  have B0 : Below w.heap.size w ((w.alloc (.cells #[.int .i64 k, .iface pt px] 153)).alloc (.cells #[.slice a1 n1 c1, .slice a2 n2 c2] 78)) := ((Below.refl _ _).alloc (Nat.le_refl _) _).alloc (by simp) _
  have hsc := h.keep (B0.mono hB)
  clear h hT hk
  go_enter Tryz.func209, Tryz.ntmps209
  go_wp2_with fail
  go_region_held3 (fun w' => w'.cell? ⟨w.heap.size, 0, none⟩ = some (.int .i64 k) ∧ w'.cell? ⟨w.heap.size, 1, none⟩ = some (.iface pt px) ∧ w'.cell? ⟨w.heap.size + 1, 0, none⟩ = some (.slice a1 n1 c1) ∧ w'.cell? ⟨w.heap.size + 1, 1, none⟩ = some (.slice a2 n2 c2)) (simp [go_sem, *])
    (first
     | (go_at_call 110; refine (HA.out _).mono ?_; rintro e w2 ⟨rfl, hw2⟩; rw [hw2]; clear hw2 w2)
     | (refine upon_of (HCM.out _) ?_; show Calls _ _ _ _ _; refine (HT.out _ (by simp; omega) (by first | assumption | exact ScopeAt.drew (by assumption))).mono ?_; rintro e w1 ⟨rfl, hb1⟩; have hs1 : w.heap.size + 1 < w1.heap.size := (by have := hb1.size; simp at this; omega); obtain ⟨hc1, hf1⟩ := bcell hb1))
  all_goals
    go_wp2_with fail
    go_ret
    exact ⟨rfl, B0.trans ((undrew hb1).mono (by simp; omega))⟩

set_option maxHeartbeats 3200000 in
set_option maxRecDepth 100000 in
theorem pairValue_ok (k : Int) (t u : Tree) (hk : 5 ≤ k ∧ k ≤ 13) (hT : ValueOk t) (hU : ValueOk u) : ValueOk (.pair k t u) := by
  intro B a1 n1 c1 a2 n2 c2 names vals w hB h1 h2 h
  show Calls Tryz.prog 196 #[.agg #[.int .i64 k, partV t, partV u], .agg #[.slice a1 n1 c1, .slice a2 n2 c2]] w fun e w' => e = .returned (.int .i32 (two k (valT (ofM names vals) t) (valT (ofM names vals) u))) ∧ Below w.heap.size w w'
  rw [partV_eq t, partV_eq u]
  have HT : Hid (∀ w, B ≤ w.heap.size → ScopeAt B w a1 n1 a2 n2 names vals → Calls Tryz.prog (valueFn t) #[partX t, .agg #[.slice a1 n1 c1, .slice a2 n2 c2]] w fun e w' => e = .returned (.int .i32 (valT (ofM names vals) t)) ∧ Below w.heap.size w w') := fun w hB hs => hT B a1 n1 c1 a2 n2 c2 names vals w hB h1 h2 hs
  have HU : Hid (∀ w, B ≤ w.heap.size → ScopeAt B w a1 n1 a2 n2 names vals → Calls Tryz.prog (valueFn u) #[partX u, .agg #[.slice a1 n1 c1, .slice a2 n2 c2]] w fun e w' => e = .returned (.int .i32 (valT (ofM names vals) u)) ∧ Below w.heap.size w w') := fun w hB hs => hU B a1 n1 c1 a2 n2 c2 names vals w hB h1 h2 hs
  have hcm : ∀ u, (callMethod (.iface (partT t) (partX t)) "loop.example/telltale/impl.value" #[.agg #[.slice a1 n1 c1, .slice a2 n2 c2]]).run Tryz.prog u = .ok (.enter (valueFn t) #[partX t, .agg #[.slice a1 n1 c1, .slice a2 n2 c2]]) u := value_method t _
  have hcu : ∀ w, (callMethod (.iface (partT u) (partX u)) "loop.example/telltale/impl.value" #[.agg #[.slice a1 n1 c1, .slice a2 n2 c2]]).run Tryz.prog w = .ok (.enter (valueFn u) #[partX u, .agg #[.slice a1 n1 c1, .slice a2 n2 c2]]) w := value_method u _
  generalize valT (ofM names vals) t = v at *
  generalize valT (ofM names vals) u = y at *
  generalize partX t = px at *
  generalize partT t = pt at *
  generalize valueFn t = fn at *
  generalize partX u = qx at *
  generalize partT u = qt at *
  generalize valueFn u = gn at *
  have HA : Hid (∀ w, Calls Tryz.prog 111 #[.int .i64 k, .int .i32 v, .int .i32 y] w fun e w' => e = .returned (.int .i32 (two k v y)) ∧ w' = w) := fun w => pairValue_any k v y w hk
  generalize two k v y = r at *
  simp [go_sem, callMethod] at hcm hcu
  have HCM := hidOf hcm
  have HCU := hidOf hcu
  clear hcm hcu
  have B0 : Below w.heap.size w ((w.alloc (.cells #[.int .i64 k, .iface pt px, .iface qt qx] 140)).alloc (.cells #[.slice a1 n1 c1, .slice a2 n2 c2] 78)) := ((Below.refl _ _).alloc (Nat.le_refl _) _).alloc (by simp) _
  have hsc := h.keep (B0.mono hB)
  clear h hT hU hk
  go_enter Tryz.func196, Tryz.ntmps196
  go_wp2_with fail
  go_region_held3 (fun w' => w'.cell? ⟨w.heap.size, 0, none⟩ = some (.int .i64 k) ∧ w'.cell? ⟨w.heap.size, 1, none⟩ = some (.iface pt px) ∧ w'.cell? ⟨w.heap.size, 2, none⟩ = some (.iface qt qx) ∧ w'.cell? ⟨w.heap.size + 1, 0, none⟩ = some (.slice a1 n1 c1) ∧ w'.cell? ⟨w.heap.size + 1, 1, none⟩ = some (.slice a2 n2 c2)) (simp [go_sem, *])
    (first
     | (go_at_call 111; refine (HA.out _).mono ?_; rintro e w2 ⟨rfl, hw2⟩; rw [hw2]; clear hw2 w2)
     | (refine upon_of (HCM.out _) ?_; show Calls _ _ _ _ _; refine (HT.out _ (by simp; omega) (by first | assumption | exact ScopeAt.drew (by assumption))).mono ?_; rintro e w1 ⟨rfl, hb1⟩; have hs1 : w.heap.size + 1 < w1.heap.size := (by have := hb1.size; simp at this; omega); have hs0 : w.heap.size < w1.heap.size := (by omega); have hB1 : Below w.heap.size w w1 := B0.trans ((undrew hb1).mono (by simp; omega)); have hsc1 : ScopeAt B w1 a1 n1 a2 n2 names vals := hsc.keep ((undrew hb1).mono (by simp; omega)); obtain ⟨hc1, hf1⟩ := bcell hb1; clear hb1 hf1)
     | (refine upon_of (HCU.out _) ?_; show Calls _ _ _ _ _; refine (HU.out _ (by omega) (by first | assumption | exact ScopeAt.drew (by assumption))).mono ?_; rintro e w3 ⟨rfl, hb3⟩; have hs3 : w.heap.size + 1 < w3.heap.size := (by have := hb3.size; omega); have hB3 : Below w.heap.size w w3 := hB1.trans (hb3.mono (by omega)); obtain ⟨hc3, hf3⟩ := bcell hb3; clear hb3 hf3))
  all_goals
    go_wp2_with fail
    go_ret
    exact ⟨rfl, by assumption⟩

theorem value_ok (t : Tree) (h : Wf t) : ValueOk t := by
  induction t with
  | num n => exact numValue_any n
  | name x => exact nameValue_any x
  | ahead k t ih => exact aheadValue_ok k t h.1 (ih h.2)
  | pair k l r ihl ihr => exact pairValue_ok k l r h.1 (ihl h.2.1) (ihr h.2.2)

set_option maxHeartbeats 800000 in
set_option maxRecDepth 100000 in
theorem implRun_nds (B0 : Nat) (a : Option Addr) (n cap : Nat) (l : List Nd) (a1 : Option Addr) (n1 c1 : Nat) (a2 : Option Addr) (n2 c2 : Nat) (names : List ByteArray) (vals : List Int) (w : World) (hw : Tabs w) (hn : n ≤ 1048576) (hB0 : B0 ≤ w.heap.size) (hsz : ∀ x ∈ l, x.2.2.size ≤ 1048576) (h64 : Nums64 l) (hz : IsNds B0 w a n l)
    (h1 : n1 ≤ 1048576) (h2 : n2 ≤ 1048576) (hs : ScopeAt B0 w a1 n1 a2 n2 names vals) :
    Calls Tryz.prog 20 #[.slice a n cap, .slice a1 n1 c1, .slice a2 n2 c2] w fun e w' => e = .returned (.int .i64 (valM (ofM names vals) l)) ∧ Below w.heap.size w w' := by
  have HT : Hid (Calls Tryz.prog 45 #[.slice a n cap] w fun e w' => TreePost w (sumM l) e w') := sumOf_any B0 a n cap l w hw hn hB0 hsz h64 hz
  have HS : Hid (ScopeAt B0 w a1 n1 a2 n2 names vals) := hs
  clear hz hw hsz hs
  unfold valM
  cases ht : sumM l with
  | none =>
    rw [ht] at HT
    simp only
    go_enter Tryz.func20, Tryz.ntmps20
    go_wp2_with fail
    refine HT.out.mono ?_
    rintro e w1 ⟨hb1, v, hv, rfl⟩
    rcases hv with rfl | ⟨tv, xv, rfl⟩
    · go_wp2_with fail
      go_ret
      exact ⟨rfl, hb1⟩
    · go_wp2_with fail
      go_ret
      exact ⟨rfl, hb1⟩
  | some t =>
    rw [ht] at HT
    simp only
    obtain ⟨hwf, hl24⟩ := sumM_wf h64 ht
    have HCM : Hid (∀ u, (callMethod (.iface (partT t) (partX t)) "loop.example/telltale/impl.value" #[.agg #[.slice a1 n1 c1, .slice a2 n2 c2]]).run Tryz.prog u = .ok (.enter (valueFn t) #[partX t, .agg #[.slice a1 n1 c1, .slice a2 n2 c2]]) u) := value_method t _
    have HVO : Hid (ValueOk t) := value_ok t hwf
    have hin := valT_in (ofM_in names vals) t
    clear ht hwf h64
    go_enter Tryz.func20, Tryz.ntmps20
    go_wp2_with fail
    refine HT.out.mono ?_
    rintro e w1 ⟨hb1, rfl⟩
    have HB1 : Hid (Below w.heap.size w w1) := hb1
    have hs1 := hb1.size
    have HX : Hid (Calls Tryz.prog (valueFn t) #[partX t, .agg #[.slice a1 n1 c1, .slice a2 n2 c2]] w1 fun e w' => e = .returned (.int .i32 (valT (ofM names vals) t)) ∧ Below w1.heap.size w1 w') := HVO.out B0 a1 n1 c1 a2 n2 c2 names vals w1 (by omega) h1 h2 (HS.out.keep (hb1.mono hB0))
    clear hb1 HT HVO
    rw [partV_eq]
    generalize partX t = px at *
    generalize partT t = pt at *
    generalize valueFn t = fn at *
    obtain ⟨r, hr⟩ : ∃ r, valT (ofM names vals) t = r := ⟨_, rfl⟩
    have HR : Hid (valT (ofM names vals) t = r) := hr
    rw [hr] at HX hin
    obtain ⟨hi1, hi2⟩ := hin
    clear hr
    go_wp2_with (refine wpList_invoke rfl (.tmp 16) (.tmp 19) _ _ rfl pt px (.agg #[.slice a1 n1 c1, .slice a2 n2 c2]) fn rfl rfl (HCM.out _) HX.out ?_)
    intro e w2 he hb2
    subst he
    refine ⟨_, rfl, ?_⟩
    have HB2 : Hid (Below w.heap.size w w2) := below_up HB1.out hs1 hb2
    clear hb2 HX HCM
    go_wp2_with fail
    go_ret
    exact ⟨ret_int (by rw [HR.out]), HB2.out⟩
end Go.Proofs.YtbpfonmkbbnkcaaGreatDoor
