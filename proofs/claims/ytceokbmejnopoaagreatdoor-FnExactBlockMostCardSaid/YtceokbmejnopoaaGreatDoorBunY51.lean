/- The law's marks in numbers, and what is held of them. -/
import Derived.Test.YtceokbmejnopoaaGreatDoorBunY15
import Derived.Test.YtceokbmejnopoaaGreatDoorBunY5
import Derived.Deep.RegionHeld3
import Derived.Test.YtceokbmejnopoaaGreatDoorBunY27
import Derived.Test.YtceokbmejnopoaaGreatDoorInstImpl
import Derived.Deep.RegionWith
import Derived.Test.YtceokbmejnopoaaGreatDoorBunY50
namespace Go.Proofs.YtceokbmejnopoaaGreatDoor
open Go Go.RowKit Go.PlainAid
set_option linter.unusedSimpArgs false
set_option linter.unusedVariables false

set_option maxHeartbeats 1600000 in
set_option maxRecDepth 100000 in
theorem markIntS_kp (b n cap : Nat) (k : Int) (w : World) (h : Open b (n) w) (hl : n ≤ 100000000) (hk0 : 0 < k) (hk1 : k ≤ 10000000000) :
    Calls Tryz.prog 33 #[.slice (some ⟨b, 0, none⟩) n cap, .int .i64 k] w fun e w' => e = .returned (.int .i64 (k + n)) ∧ Mv b w w' ∧ Keep b w w' ∧ ∀ i : Nat, i < n → w'.cell? ⟨b, i, none⟩ = some (.int .i64 (k + i)) := by
  have HO := hidOf h
  clear h
  go_enter Tryz.func33, Tryz.ntmps33
  go_wp2_with fail
  go_loopw [1, 5] (fun q i wr => ∃ m : Nat, m ≤ n ∧ i = .int .i64 m ∧ q = .int .i64 (k + m) ∧ Hid (Open b (n) wr) ∧ Mv b w wr ∧ Hid (Keep b w wr) ∧ Hid (∀ i : Nat, i < m → wr.cell? ⟨b, i, none⟩ = some (.int .i64 (k + i)))) (fun _ i _ => n - (intOf i).toNat)
  case atStart => exact ⟨0, Nat.zero_le _, rfl, by simp, HO, Mv.refl _ _, Keep.refl _ _, fun i hi => absurd hi (Nat.not_lt_zero _)⟩
  case round =>
    obtain ⟨m, hm, rfl, rfl, HC, hbel, HKP, HK⟩ := hrel
    have p0 : IntKind.i64.wrap (k + m + 1) = k + m + 1 := IntWalk.i64_in _ ⟨by omega, by omega⟩
    by_cases hlt : m < n
    · have hbs := HC.out.1
      obtain ⟨⟨x0, c0⟩, f0⟩ := HC.out.2 (m) (by omega)
      go_wp2_with fail
      go_roundw
      case rel => exact ⟨m + 1, by omega, by go_num, congrArg (Value.int IntKind.i64) (by push_cast; omega), (HC.out.set _ _ (by omega)), (hbel.cell _ _), (HKP.out.trans (Keep.cell _ _ _ _)), by
          intro i hi
          by_cases e : i = m
          · subst e; exact World.cell?_setCell_same _ _ _ c0
          · rw [setCell_ne _ _ _ _ _ (fun h => e h.symm)]; exact HK.out i (by omega)⟩
      case measure => simp [intOf]; omega
    · have : m = n := by omega
      subst this
      go_wp2_with fail
      go_ret
      exact ⟨rfl, hbel, HKP.out, HK.out⟩

set_option maxHeartbeats 1600000 in
set_option maxRecDepth 100000 in
theorem heldIntS_any (b n cap : Nat) (k : Int) (w : World) (h : n = 0 ∨ (b < w.heap.size ∧ ∀ i : Nat, i < n → w.cell? ⟨b, i, none⟩ = some (.int .i64 (k + i)))) (a : Option Addr) (ha : n = 0 ∨ a = some ⟨b, 0, none⟩) (hl : n ≤ 100000000) (hk0 : 0 < k) (hk1 : k ≤ 10000000000) :
    Calls Tryz.prog 60 #[.slice a n cap, .int .i64 k] w fun e w' => e = .returned (.int .i64 (k + n)) ∧ Below w.heap.size w w' := by
  go_enter Tryz.func60, Tryz.ntmps60
  go_wp2_with fail
  go_loopw [1, 5] (fun q i wr => ∃ m : Nat, m ≤ n ∧ i = .int .i64 m ∧ q = .int .i64 (k + m) ∧ Below w.heap.size w wr) (fun _ i _ => n - (intOf i).toNat)
  case atStart => exact ⟨0, Nat.zero_le _, rfl, by simp, Below.refl _ _⟩
  case round =>
    obtain ⟨m, hm, rfl, rfl, hbel⟩ := hrel
    have p0 : IntKind.i64.wrap (k + m + 1) = k + m + 1 := IntWalk.i64_in _ ⟨by omega, by omega⟩
    by_cases hlt : m < n
    · rcases h with h0 | ⟨hb, hc⟩
      · omega
      rcases ha with h0 | rfl
      · omega
      have c0 := (hbel.cell (p := ⟨b, m, none⟩) hb).trans (hc m hlt)
      have hbr : b < wr.heap.size := by have := hbel.size; omega
      clear hc
      go_wp2_with fail
      go_roundw
      case rel => exact ⟨m + 1, by omega, by go_num, congrArg (Value.int IntKind.i64) (by push_cast; omega), hbel⟩
      case measure => simp [intOf]; omega
    · have : m = n := by omega
      subst this
      go_wp2_with fail
      go_ret
      exact ⟨rfl, hbel⟩
end Go.Proofs.YtceokbmejnopoaaGreatDoor

/- Answers that own their memory (IntS), and the law's marks in them. -/
namespace Go.Proofs.YtceokbmejnopoaaGreatDoor
open Go Go.RowKit Go.PlainAid
set_option linter.unusedSimpArgs false
set_option linter.unusedVariables false

/-- the slice (a, n) reads as l, and its cells, in a block from B on, may be written -/
def FreeI (B : Nat) (w : World) (a : Option Addr) (n : Nat) (l : List Int) : Prop := IsInts w.heap.size w a n l ∧ (n = 0 ∨ ∃ b, a = some ⟨b, 0, none⟩ ∧ B ≤ b ∧ Open b n w)
/-- the slice (a, n) bears the marks from k on -/
def HeldI (k : Int) (w : World) (a : Option Addr) (n : Nat) : Prop := n = 0 ∨ ∃ b, a = some ⟨b, 0, none⟩ ∧ b < w.heap.size ∧ ∀ i : Nat, i < n → w.cell? ⟨b, i, none⟩ = some (.int .i64 (k + i))
theorem FreeI.below {B : Nat} {w w' : World} {a : Option Addr} {n : Nat} {l : List Int} (h : FreeI B w a n l) (hb : Below w.heap.size w w') : FreeI B w' a n l := by
  obtain ⟨h1, h2⟩ := h
  refine ⟨(h1.below hb).mono hb.size, ?_⟩
  rcases h2 with h2 | ⟨b, e, hB, ho⟩
  · exact .inl h2
  · exact .inr ⟨b, e, hB, ho.below hb⟩
theorem FreeI.low {B B' : Nat} {w : World} {a : Option Addr} {n : Nat} {l : List Int} (h : FreeI B w a n l) (hB : B' ≤ B) : FreeI B' w a n l := by
  obtain ⟨h1, h2⟩ := h
  refine ⟨h1, ?_⟩
  rcases h2 with h2 | ⟨b, e, hb, ho⟩
  · exact .inl h2
  · exact .inr ⟨b, e, by omega, ho⟩
theorem FreeI.mvR {B L H : Nat} {w w' : World} {a : Option Addr} {n : Nat} {l : List Int} (h : FreeI B w a n l) (hm : MvR L H w w') (hH : H ≤ B) : FreeI B w' a n l := by
  obtain ⟨h1, h2⟩ := h
  rcases h2 with h2 | ⟨b, e, hB, ho⟩
  · exact ⟨⟨h1.1, .inl h2⟩, .inl h2⟩
  · refine ⟨⟨h1.1, ?_⟩, .inr ⟨b, e, hB, ho.mvR hm (by omega)⟩⟩
    rcases h1.2 with h0 | ⟨b', off, e', hlt, hc⟩
    · exact .inl h0
    · rw [e] at e'
      cases e'
      exact .inr ⟨b, 0, e, Nat.lt_of_lt_of_le hlt hm.size, fun i hi => (World.cell?_of_block (hm.block b hlt (by omega))).trans (hc i hi)⟩
theorem HeldI.below {k : Int} {w w' : World} {a : Option Addr} {n : Nat} (h : HeldI k w a n) (hb : Below w.heap.size w w') : HeldI k w' a n := by
  rcases h with h | ⟨b, e, hlt, hc⟩
  · exact .inl h
  · exact .inr ⟨b, e, Nat.lt_of_lt_of_le hlt hb.size, fun i hi => (hb.cell (p := ⟨b, i, none⟩) hlt).trans (hc i hi)⟩
theorem own_freeI {B : Nat} {w : World} {v : Value} {l : List Int} (h : w.ownsRow B 3 1 v l.length (l.map (Value.int .i64))) : ∃ a c, v = .slice a l.length c ∧ l.length ≤ c ∧ FreeI B w a l.length l := by
  have h0 := h
  obtain ⟨h1, h2⟩ := h
  rcases h2 with ⟨hv, hn⟩ | ⟨g, cap, cur, hv, h3, h4, h5, h6⟩
  · exact ⟨none, 0, by rw [hv, hn], by omega, ⟨rfl, .inl hn⟩, .inl hn⟩
  · subst hv
    have hlt := World.ownsRow.lt h0 g rfl
    have hc : ∀ i, i < l.length → w.cell? ⟨g, i, none⟩ = some (.int .i64 (l.getD i 0)) := fun i hi => by
      rw [World.ownsRow.cellAt h0 i (by omega)]
      simp [hi, List.getD_eq_getElem?_getD]
    exact ⟨_, cap, rfl, h5, ⟨rfl, .inr ⟨g, 0, rfl, hlt.2, fun i hi => by rw [Nat.zero_add]; exact hc i hi⟩⟩, .inr ⟨g, rfl, hlt.1, hlt.2, fun j hj => ⟨⟨_, hc j hj⟩, World.ownsRow.frozenAt h0 j⟩⟩⟩

theorem markIntS_zero (a : Option Addr) (c : Nat) (k : Int) (w : World) : Calls Tryz.prog 33 #[.slice a 0 c, .int .i64 k] w fun e w' => e = .returned (.int .i64 k) ∧ w' = w := by
  go_enter Tryz.func33, Tryz.ntmps33
  go_wp2_with fail
  go_loopw [1, 5] (fun q i wr => i = .int .i64 0 ∧ q = .int .i64 k ∧ wr = w) (fun _ _ _ => 0)
  case atStart => exact ⟨rfl, rfl, rfl⟩
  case round =>
    obtain ⟨rfl, rfl, rfl⟩ := hrel
    go_wp2_with fail
    go_ret
    exact ⟨rfl, rfl⟩
theorem markIntS_free (B : Nat) (a : Option Addr) (n c : Nat) (l : List Int) (k : Int) (w : World) (hB : B ≤ w.heap.size) (h : FreeI B w a n l) (hl : n ≤ 100000000) (hk0 : 0 < k) (hk1 : k ≤ 10000000000) :
    Calls Tryz.prog 33 #[.slice a n c, .int .i64 k] w fun e w' => e = .returned (.int .i64 (k + n)) ∧ HeldI k w' a n ∧ Below B w w' := by
  rcases h.2 with h0 | ⟨b, rfl, hb, ho⟩
  · subst h0
    exact (markIntS_zero a c k w).mono fun e w' ⟨h1, h2⟩ => ⟨by rw [h1]; simp, .inl rfl, by rw [h2]; exact Below.refl _ _⟩
  · exact (markIntS_kp b n c k w ho hl hk0 hk1).mono fun e w' ⟨h1, h2, _, h3⟩ => ⟨h1, .inr ⟨b, rfl, Nat.lt_of_lt_of_le ho.1 h2.size, h3⟩, (h2.range (L := b) (H := b + 1) (Nat.le_refl _) (Nat.lt_succ_self _)).belowL hb hB⟩
theorem markIntS_rng (B H : Nat) (a : Option Addr) (n c : Nat) (l : List Int) (k : Int) (w : World) (h : FreeI B w a n l) (hu : ∀ b o, a = some ⟨b, o, none⟩ → n ≠ 0 → b < H) (hl : n ≤ 100000000) (hk0 : 0 < k) (hk1 : k ≤ 10000000000) :
    Calls Tryz.prog 33 #[.slice a n c, .int .i64 k] w fun e w' => e = .returned (.int .i64 (k + n)) ∧ HeldI k w' a n ∧ MvR B H w w' := by
  by_cases h0 : n = 0
  · subst h0
    exact (markIntS_zero a c k w).mono fun e w' ⟨h1, h2⟩ => ⟨by rw [h1]; simp, .inl rfl, by rw [h2]; exact MvR.refl _ _ _⟩
  · rcases h.2 with h2 | ⟨b, rfl, hb, ho⟩
    · exact absurd h2 h0
    · exact (markIntS_kp b n c k w ho hl hk0 hk1).mono fun e w' ⟨h1, h2, _, h3⟩ => ⟨h1, .inr ⟨b, rfl, Nat.lt_of_lt_of_le ho.1 h2.size, h3⟩, h2.range hb (hu b 0 rfl h0)⟩
theorem FreeI.upto {B : Nat} {w : World} {a : Option Addr} {n : Nat} {l : List Int} (h : FreeI B w a n l) : ∀ b o, a = some ⟨b, o, none⟩ → n ≠ 0 → b < w.heap.size := fun b o e h0 => by
  rcases h.2 with h2 | ⟨b', e', _, ho⟩
  · exact absurd h2 h0
  · rw [e] at e'
    cases e'
    exact ho.1
theorem heldIntS_free (a : Option Addr) (n c : Nat) (k : Int) (w : World) (h : HeldI k w a n) (hl : n ≤ 100000000) (hk0 : 0 < k) (hk1 : k ≤ 10000000000) :
    Calls Tryz.prog 60 #[.slice a n c, .int .i64 k] w fun e w' => e = .returned (.int .i64 (k + n)) ∧ Below w.heap.size w w' := by
  rcases h with h0 | ⟨b, rfl, hb, hc⟩
  · exact heldIntS_any 0 n c k w (.inl h0) a (.inl h0) hl hk0 hk1
  · exact heldIntS_any b n c k w (.inr ⟨hb, hc⟩) _ (.inr rfl) hl hk0 hk1
end Go.Proofs.YtceokbmejnopoaaGreatDoor

/- A block at first: its values, name by name, and by the program's way. Plain: no program. -/
namespace Go.Proofs.YtceokbmejnopoaaGreatDoor
open Go Go.RowKit Go.PlainAid
set_option linter.unusedSimpArgs false
set_option linter.unusedVariables false

def firstV (b : Bk) (x : ByteArray) : Int := if findM (varsM b) x < 0 then 0 else (b.vars.getD (findM (varsM b) x).toNat ⟨noName, 0⟩).num
def firstVals (b : Bk) : List Int := (namesM b).map (firstV b)
theorem findM_nodup {l : List ByteArray} (h : l.Nodup) {k : Nat} (hk : k < l.length) : findM l l[k] = k :=
  findM_at hk rfl (fun j hj e => by
    have := List.pairwise_iff_getElem.1 h j k (by omega) hk hj
    exact this e)
theorem firstVals_eq {b : Bk} (h : NamesOk b) : firstVals b = List.replicate ((concatM b).length - b.vars.length) 0 ++ b.vars.map Vr.num := by
  have e := names_eq h
  obtain ⟨⟨_, _, _, hv, _⟩, ⟨h1, h2, h3⟩, _⟩ := h
  unfold firstVals
  rw [e]
  unfold concatM
  rw [← List.append_assoc, List.map_append]
  have hl : ((valsM b.ins ++ valsM b.outs) ++ varsM b).length - b.vars.length = (valsM b.ins ++ valsM b.outs).length := by
    rw [List.length_append (bs := varsM b)]
    simp [varsM]
  rw [hl]
  congr 1
  · apply List.ext_getElem
    · simp
    · intro i hi hi2
      simp only [List.length_map] at hi
      simp only [List.getElem_map, List.getElem_replicate]
      unfold firstV
      rw [if_pos]
      rw [findM_neg]
      have hm := List.getElem_mem hi
      rcases List.mem_append.1 hm with hx | hx
      · exact h2 _ hx
      · exact h3 _ hx
  · apply List.ext_getElem
    · simp [varsM]
    · intro i hi hi2
      simp only [List.length_map] at hi hi2
      simp only [List.getElem_map]
      unfold firstV
      rw [findM_nodup (show (varsM b).Nodup from hv.2.1.2) hi, if_neg (by omega)]
      simp [hi2]
end Go.Proofs.YtceokbmejnopoaaGreatDoor

/- The program's InstNew: a block as it is at first. -/
namespace Go.Proofs.YtceokbmejnopoaaGreatDoor
open Go Go.RowKit Go.PlainAid
set_option linter.unusedSimpArgs false
set_option linter.unusedVariables false

def OwnI (B : Nat) (w : World) (v : Value) (l : List Int) : Prop := w.ownsRow B 3 1 v l.length (l.map (Value.int .i64))
theorem OwnI.keep {B : Nat} {v : Value} {l : List Int} {w w' : World} (h : OwnI B w v l) (hb : Below w.heap.size w w') : OwnI B w' v l := own_of_block h (fun q hq => hb.block q (World.ownsRow.lt h q hq).2)
theorem own_zeros (w : World) (B m : Nat) (hB : B ≤ w.heap.size) (hm : m ≤ maxLen) : OwnI B (w.alloc (.cells (madeCells #[.int .i64 0] m) 3)) (.slice (some ⟨w.heap.size, 0, none⟩) m m) (List.replicate m 0) := by
  refine ⟨by simp, .inr ⟨w.heap.size, m, madeCells #[.int .i64 0] m, by simp, hB, heap_alloc_new w _, by simp, hm, by rw [size_madeCells]; omega, ?_⟩⟩
  rw [toList_madeCells_one]
  simp

set_option maxHeartbeats 3200000 in
set_option maxRecDepth 100000 in
theorem firstInst_any (B : Nat) (v : BkV) (x : Bk) (w : World) (hB : B ≤ w.heap.size) (hwt : wtBk x ≤ 1048576) (hok : checkM x = 0) (hx : IsBk B w v x) :
    Calls Tryz.prog 59 #[v.val x.name] w fun e w' => ∃ a c, e = .returned (.agg #[.int .i64 0, .slice a (firstVals x).length c]) ∧ FreeI w.heap.size w' a (firstVals x).length (firstVals x) ∧ Below w.heap.size w w' := by
  obtain ⟨p0, p1, p2, p3, p4, p5, p6, p7, p8, p9⟩ := wtBk_parts hwt
  have HX := hidOf hx
  have hno := check_names hok
  have hne := firstVals_eq hno
  have hlc : x.vars.length ≤ (concatM x).length := by
    rw [← names_eq hno]
    have : (varsM x).length = x.vars.length := by simp [varsM]
    rw [names_eq hno]
    unfold concatM
    simp only [List.length_append]
    omega
  have h16 : (concatM x).length ≤ 16 := by rw [← names_eq hno]; exact hno.2.2
  have HN : Hid (∀ W, Below w.heap.size w W → Calls Tryz.prog 45 #[v.val x.name] W fun e w' => ∃ a' c', e = .returned (.slice a' (concatM x).length c') ∧ Below W.heap.size W w') := fun W hb => (namesOf_any B v x W (by have := hb.size; omega) hwt (check_few hok) (HX.out.below (hb.mono hB))).mono fun e w' ⟨u, h1, h2, h3⟩ => by
    obtain ⟨a', c', e', _⟩ := h2.form
    exact ⟨a', c', by rw [h1, e'], h3⟩
  have HQV : Hid (∀ W, Below w.heap.size w W → IsArr 2 QVr B W v.av v.nv x.vars) := fun W hb => (HX.out.below (hb.mono hB)).vars
  have lv := hx.vars.1
  obtain ⟨NN, hNN⟩ : ∃ k, (concatM x).length = k := ⟨_, rfl⟩
  rw [hNN] at HN hlc h16 hne
  obtain ⟨M, hM⟩ : ∃ M, NN - x.vars.length = M := ⟨_, rfl⟩
  rw [hM] at hne
  have HNE := hidOf hne
  have hnv : v.nv ≤ NN := by omega
  have hw : IntKind.i64.wrap ((NN : Int) - v.nv) = M := by rw [IntKind.wrap_i64]; omega
  have hM6 : M ≤ 16 := by omega
  have hl : (firstVals x).length = M + v.nv := by rw [hne]; simp; omega
  rw [hl]
  have HLV := hidOf lv
  obtain ⟨i0, hi, hz0, hz1, hz2⟩ := info_parts infoInt
  have hmk : ∀ u : World, (Instr.makeSlice 43 (.int .i64 (M : Int)) (.int .i64 (M : Int))).run Tryz.prog u =
      .ok (.slice (some ⟨u.heap.size, 0, none⟩) M M) (u.alloc (.cells (madeCells #[.int .i64 0] M) 3)) := fun u => by
    have h := run_make (P := Tryz.prog) u 43 3 i0 (.int .i64 0) Tryz.underlying43 hi hz0 .i64 .i64 (M : Int) (M : Int) (by omega) (Int.le_refl _) (by rw [hz2]; omega) (by omega)
    have e : ((M : Int)).toNat = M := by omega
    rw [e] at h
    simpa [hz1, Value.cells] using h
  clear hNN hM hne hlc hl lv hx HX hwt hok hno p0 p1 p2 p3 p4 p5 p6 p7 p8 p9
  obtain ⟨ai, ni, ci, ao, no, co, av, nv, cv, at_, nt, ct⟩ := v
  obtain ⟨xn, hxn⟩ : ∃ n, x.name = n := ⟨_, rfl⟩
  simp only [BkV.val] at HN HQV HLV hw hnv ⊢
  rw [hxn] at HN ⊢
  clear hxn
  obtain ⟨W0, hW0⟩ : ∃ W, W = ((w.alloc (.cells #[.string xn, .slice ai ni ci, .slice ao no co, .slice av nv cv, .slice at_ nt ct] 34)).alloc (.cells #[.int .i64 0, .slice none 0 0] 45)) := ⟨_, rfl⟩
  have HB0 : Hid (Below w.heap.size w W0) := by show Below _ _ _; rw [hW0]; exact ((Below.refl _ _).alloc (Nat.le_refl _) _).alloc (by simp) _
  have BX0 : Hid (BoxAt w.heap.size [.string xn, .slice ai ni ci, .slice ao no co, .slice av nv cv, .slice at_ nt ct] W0) := by
    show BoxAt _ _ _
    rw [hW0]; exact (boxAt_new w [.string xn, .slice ai ni ci, .slice ao no co, .slice av nv cv, .slice at_ nt ct] 34).below ((Below.refl _ _).alloc (Nat.le_refl _) _)
  have BR0 : Hid (BoxAt (w.heap.size + 1) [.int .i64 0, .slice none 0 0] W0) := by
    have := boxAt_new (w.alloc (.cells #[.string xn, .slice ai ni ci, .slice ao no co, .slice av nv cv, .slice at_ nt ct] 34)) [.int .i64 0, .slice none 0 0] 45
    show BoxAt _ _ _
    rw [hW0]; simpa using this
  have HW0 := hidOf hW0
  go_enter Tryz.func59, Tryz.ntmps59
  go_wp2_with fail
  rw [hW0] at HB0 BX0 BR0
  clear hW0
  go_cut [3] from 6 to 13 (fun s3 wx => ∃ g, s3 = .slice (some ⟨g, 0, none⟩) M M ∧ Hid (OwnI (w.heap.size + 2) wx s3 (List.replicate M 0)) ∧ Hid (Below w.heap.size w wx) ∧ Hid (BoxAt w.heap.size [.string xn, .slice ai ni ci, .slice ao no co, .slice av nv cv, .slice at_ nt ct] wx) ∧ Hid (BoxAt (w.heap.size + 1) [.int .i64 0, .slice none 0 0] wx))
  case first =>
    first
      | go_region_with (go_at_call 45; refine (HN.out _ (by first | exact HB0.out | exact below_drew1 HB0.out | exact drewN HB0.out _)).mono ?_; rintro e w1 ⟨a', c', rfl, b1⟩; have HB1 : Hid (Below w.heap.size w w1) := HB0.out.trans ((undrew b1).mono HB0.out.size); have HX1 := hidOf (BX0.out.below (undrew b1)); have HR1 := hidOf (BR0.out.below (undrew b1)); have hs1 : w.heap.size + 1 < w1.heap.size := HR1.out.1; have ht1 : w.heap.size < w1.heap.size := (by omega); obtain ⟨hc1, hf1⟩ := bcell (undrew b1); clear b1 hf1)
      | fail
    all_goals
      go_wp2_with fail
      go_meet
      case rel => exact ⟨_, rfl, own_zeros _ _ _ (by first | omega | (simp; omega)) (by unfold maxLen; omega), HB1.out.trans ((show Below w1.heap.size w1 _ by go_grown).mono HB1.out.size), HX1.out.below (by go_grown), HR1.out.below (by go_grown)⟩
  case rest =>
    obtain ⟨g0, rfl, HO0, HBc, HXc, HRc⟩ := hcut
    have c3 : wc.cell? ⟨w.heap.size, 3, none⟩ = some (.slice av nv cv) := (HXc.out.2 3 _ rfl).1
    have sx : w.heap.size < wc.heap.size := HXc.out.1
    clear hmk HB0 BX0 BR0 HN hw HW0
    go_wp2_with fail
    clear c3 sx
    go_loopw [3, 17] (fun u i wr => ∃ k : Nat, k ≤ nv ∧ i = .int .i64 k ∧ Hid (OwnI (w.heap.size + 2) wr u (List.replicate M 0 ++ (x.vars.take k).map Vr.num)) ∧ Hid (Below w.heap.size w wr) ∧ Hid (BoxAt (w.heap.size + 1) [.int .i64 0, .slice none 0 0] wr)) (fun _ i _ => nv - (intOf i).toNat)
    case atStart => exact ⟨0, Nat.zero_le _, rfl, by simpa using HO0, HBc, HRc⟩
    case round =>
      obtain ⟨k, hk, rfl, HO, HB, HR⟩ := hrel
      have HOl : Hid ((List.replicate M (0 : Int) ++ (x.vars.take k).map Vr.num).length = M + k) := by
        show _ = _
        have h1 : x.vars.length = nv := HLV.out
        simp; omega
      by_cases hlt : k < nv
      · have hkl : k < x.vars.length := by have h1 : x.vars.length = nv := HLV.out; omega
        obtain ⟨b, off, cs, rfl, hb, hq, hcell⟩ := IsArr.at (HQV.out wr HB.out) hlt hkl
        have hbs := HB.out.size
        have hbr : b < wr.heap.size := by omega
        have HT : Hid ((x.vars.take (k + 1)).map Vr.num = (x.vars.take k).map Vr.num ++ [x.vars[k].num]) := by
          show _ = _
          rw [List.take_succ_eq_append_getElem hkl, List.map_append]; rfl
        obtain ⟨y, hy⟩ : ∃ y, x.vars[k] = y := ⟨_, rfl⟩
        rw [hy] at hq HT
        have hq' : cs = [.string y.name, .int .i64 y.num] := hq
        subst hq'
        have c0 : wr.cell? ⟨b, off + k * 2, none⟩ = some (.string y.name) := hcell 0 _ rfl
        have c1 : wr.cell? ⟨b, off + k * 2 + 1, none⟩ = some (.int .i64 y.num) := hcell 1 _ rfl
        obtain ⟨yn, hyn⟩ : ∃ n, y.name = n := ⟨_, rfl⟩
        obtain ⟨z, hz⟩ : ∃ n, y.num = n := ⟨_, rfl⟩
        rw [hyn] at c0
        rw [hz] at c1 HT
        obtain ⟨L, hL⟩ : ∃ L, List.replicate M (0 : Int) ++ (x.vars.take k).map Vr.num = L := ⟨_, rfl⟩
        have HT2 : Hid (List.replicate M (0 : Int) ++ (x.vars.take (k + 1)).map Vr.num = L ++ [z]) := by show _ = _; rw [HT.out, ← List.append_assoc, hL]
        rw [hL] at HO HOl
        have hLl : L.length = M + k := HOl.out
        obtain ⟨n, hn⟩ : ∃ n, L.length = n := ⟨_, rfl⟩
        have hfo := HO.out
        unfold OwnI at hfo
        obtain ⟨ua, uc, eu, huc, _⟩ := own_freeI hfo
        rw [hn] at eu huc hfo
        subst eu
        have HOW : Hid (wr.ownsRow (w.heap.size + 2) 3 1 (.slice ua n uc) n (L.map (Value.int .i64))) := hfo
        clear hfo
        have HLn := hidOf hn
        have hn6 : n ≤ 1048576 := by omega
        have hws2 : w.heap.size + 2 ≤ wr.heap.size := by have := HR.out.1; omega
        clear hcell hq hy hyn hz hL hLl hn HT
        go_wp2_with (at_builtin; (refine wpList_append_own _ rfl (.tmp 21) (.tmp 24) 43 rfl (w.heap.size + 2) 3 i0 (.int .i64 0) 1 8 Tryz.underlying43 hi hz0 hz1 hz2 rfl (by decide) _ n (L.map (Value.int .i64)) rfl (by exact ((HOW.out.alloc _).alloc _)) ⟨wr.heap.size + 1, 0, none⟩ 1 1 [.int .i64 z] rfl rfl (by exact one_new' _ _ _ _ (by simp)) (by intro u hu; simp at hu; subst hu; rfl) (by unfold maxLen; omega) (by omega) (by simp; omega) ?_))
        intro v' w2 hown' hgrow' _
        have HG : Hid (Below w.heap.size w w2) := ((HB.out.alloc hbs _).alloc (by simp; omega) _).grown hgrow' (by simp; omega) (fun q hq => by have := (World.ownsRow.lt HOW.out q hq).1; omega)
        have HR2 : Hid (BoxAt (w.heap.size + 1) [.int .i64 0, .slice none 0 0] w2) := by
          have hg2 : Below (w.heap.size + 2) wr w2 := (((Below.refl _ _).alloc hws2 _).alloc (by simp; omega) _).grown hgrow' (by simp; omega) (fun q hq => (World.ownsRow.lt HOW.out q hq).1)
          exact ⟨by have := hg2.size; have := HR.out.1; omega, fun j u hu => ⟨(hg2.cell (p := ⟨w.heap.size + 1, j, none⟩) (by simp)).trans (HR.out.2 j u hu).1, (hg2.frozen (p := ⟨w.heap.size + 1, j, none⟩) (by simp)).trans (HR.out.2 j u hu).2⟩⟩
        have HO2 : Hid (OwnI (w.heap.size + 2) w2 v' (L ++ [z])) := by
          show World.ownsRow _ _ _ _ _ _ _
          rw [List.length_append, HLn.out, List.map_append]
          exact hown'
        clear hown' hgrow'
        go_wp2_with fail
        go_roundw
        case rel => exact ⟨k + 1, by omega, by go_num, by show OwnI _ _ _ _; rw [HT2.out]; exact HO2.out, HG, HR2⟩
        case measure => simp [intOf]; omega
      · have : k = nv := by omega
        subst this
        have h1 : x.vars.length = k := HLV.out
        have h2 := HO.out
        rw [List.take_of_length_le (by omega), ← HNE.out] at h2
        obtain ⟨a, c, eu, _, hf⟩ := own_freeI h2
        have e2 : (firstVals x).length = M + k := by rw [HNE.out]; simp; omega
        rw [e2] at eu hf
        subst eu
        clear h1 h2 e2
        have d0 := (HR.out.2 0 _ rfl).1
        have d1 := (HR.out.2 1 _ rfl).1
        have g0' := (HR.out.2 0 _ rfl).2
        have g1' := (HR.out.2 1 _ rfl).2
        have sr := HR.out.1
        have HFF := hidOf hf
        have k0 : (wr.setCell ⟨w.heap.size + 1, 0, none⟩ (.int .i64 0)).cell? ⟨w.heap.size + 1, 0, none⟩ = some (.int .i64 0) := World.cell?_setCell_same _ _ _ d0
        have k1 : ((wr.setCell ⟨w.heap.size + 1, 0, none⟩ (.int .i64 0)).setCell ⟨w.heap.size + 1, 1, none⟩ (.slice a (M + k) c)).cell? ⟨w.heap.size + 1, 1, none⟩ = some (.slice a (M + k) c) := World.cell?_setCell_same _ _ _ (by rw [setCell_ne _ _ _ _ _ (by omega)]; exact d1)
        clear hf
        go_wp2_with fail
        refine bodyPost_ret (by simp [results, Tryz.results59, go_sem, k0, k1]; try rfl) rfl ?_
        have hm : Mv (w.heap.size + 1) wr ((wr.setCell ⟨w.heap.size + 1, 0, none⟩ (.int .i64 0)).setCell ⟨w.heap.size + 1, 1, none⟩ (.slice a (M + k) c)) := ((Mv.refl _ _).cell _ _).cell _ _
        exact ⟨a, c, rfl, (HFF.out.mvR (hm.range (L := w.heap.size + 1) (H := w.heap.size + 2) (Nat.le_refl _) (by omega)) (Nat.le_refl _)).low (by omega), (HB.out.setCell (by simp) _).setCell (by simp) _⟩
end Go.Proofs.YtceokbmejnopoaaGreatDoor

/- The program's mostOf and BlockMost. -/
namespace Go.Proofs.YtceokbmejnopoaaGreatDoor
open Go Go.RowKit Go.PlainAid
set_option linter.unusedSimpArgs false
set_option linter.unusedVariables false

theorem Upto.up {N M : Int} {l : List Int} (h : Upto N l) (hm : N ≤ M) : Upto M l := fun i => ⟨(h i).1, by have := (h i).2; omega⟩
structure FromAt (w wr : World) (xs : List Value) (n : Nat) (L : List Int) : Prop where
  below : Below w.heap.size w wr
  blk : BoxAt w.heap.size xs wr
  frm : BoxAt (w.heap.size + 1) (L.map (Value.int .i64)) wr
  len : L.length = n
theorem FromAt.call {w wr w1 : World} {xs : List Value} {n : Nat} {L : List Int} (h : FromAt w wr xs n L) (hb : Below wr.heap.size wr w1) : FromAt w w1 xs n L :=
  ⟨h.below.trans (hb.mono h.below.size), h.blk.below hb, h.frm.below hb, h.len⟩
theorem FromAt.store {w wr : World} {xs : List Value} {n : Nat} {L : List Int} (h : FromAt w wr xs n L) (i : Nat) (b : Int) : FromAt w (wr.setCell ⟨w.heap.size + 1, i, none⟩ (.int .i64 b)) xs n (L.set i b) := by
  have hm : Mv (w.heap.size + 1) wr (wr.setCell ⟨w.heap.size + 1, i, none⟩ (.int .i64 b)) := (Mv.refl _ _).cell _ _
  refine ⟨h.below.setCell (by simp) _, h.blk.mv hm (by omega), ?_, by rw [List.length_set]; exact h.len⟩
  have := h.frm.set i (.int .i64 b)
  rw [← List.map_set] at this
  exact this
theorem FromAt.there {w wr : World} {xs : List Value} {n : Nat} {L : List Int} (h : FromAt w wr xs n L) {k : Nat} (hk : k < n) : wr.cell? ⟨w.heap.size + 1, k, none⟩ = some (.int .i64 (L.getD k 0)) ∧ wr.frozen? ⟨w.heap.size + 1, k, none⟩ = false := by
  have hl : k < L.length := by rw [h.len]; exact hk
  have := h.frm.2 k (.int .i64 L[k]) (by rw [List.getElem?_map, List.getElem?_eq_getElem hl]; rfl)
  rw [show L.getD k 0 = L[k] from by simp [List.getD_eq_getElem?_getD, hl]]
  exact this

set_option maxHeartbeats 3200000 in
set_option maxRecDepth 100000 in
theorem mostOf_any (B : Nat) (v : BkV) (x : Bk) (out : ByteArray) (w : World) (hB : B ≤ w.heap.size) (hwt : wtBk x ≤ 1048576) (hok : checkM x = 0) (hx : IsBk B w v x) :
    Calls Tryz.prog 57 #[v.val x.name, .string out] w fun e w' => e = .returned (.int .i64 (mostM x out)) ∧ Below w.heap.size w w' := by
  obtain ⟨p0, p1, p2, p3, p4, p5, p6, p7, p8, p9⟩ := wtBk_parts hwt
  have lt := hx.states.1
  have HX := hidOf hx
  have hmi := moves_ix hok
  have hn5 : x.states.length ≤ 5 := (check_names hok).1.2.2.2.2.1
  have hml : ∀ s ∈ x.states, s.moves.length ≤ 1048576 := fun s hs => by have h := state_size p8 s hs; unfold wtSt at h; omega
  have hac : ∀ s ∈ x.states, s.acts.length ≤ 1048576 := fun s hs => by have h := state_size p8 s hs; unfold wtSt at h; omega
  have HMB : Hid (∀ W (L : List Int) k, (hk : k < x.states.length) → FromAt w W [.string x.name, .slice v.ai v.ni v.ci, .slice v.ao v.no v.co, .slice v.av v.nv v.cv, .slice v.at_ v.nt v.ct] v.nt L → ∀ (sn : ByteArray) (ma : Option Addr) (mn mc : Nat) (ra : Option Addr) (rn rc : Nat), IsArr 3 QMo B W ma mn x.states[k].moves → Calls Tryz.prog 106 #[v.val x.name, .agg #[.string sn, .slice ma mn mc, .slice ra rn rc], .slice (some ⟨w.heap.size + 1, 0, none⟩) v.nt v.nt, .func (Fn.func 107) #[] #[]] W fun e w' => e = .returned (.int .i64 (behindM x (fun i => L.getD i 0) noEv x.states[k].moves)) ∧ Below W.heap.size W w') := fun W L k hk hf sn ma mn mc ra rn rc hq =>
    mostBehindE_any B v x sn ma mn mc ra rn rc x.states[k].moves (w.heap.size + 1) L W (by have := hf.below.size; omega) hwt (HX.out.below (hf.below.mono hB)) (hml _ (List.getElem_mem hk)) hq (hmi _ (List.getElem_mem hk)) (by rw [hf.len, lt]) (hf.frm.1) (fun i hi => (hf.there (by rw [← hf.len]; exact hi)).1)
  have HMA : Hid (∀ W (L : List Int) k, (hk : k < x.states.length) → FromAt w W [.string x.name, .slice v.ai v.ni v.ci, .slice v.ao v.no v.co, .slice v.av v.nv v.cv, .slice v.at_ v.nt v.ct] v.nt L → ∀ (sn : ByteArray) (ma : Option Addr) (mn mc : Nat) (ra : Option Addr) (rn rc : Nat), IsArr 3 QMo B W ma mn x.states[k].moves → Calls Tryz.prog 106 #[v.val x.name, .agg #[.string sn, .slice ma mn mc, .slice ra rn rc], .slice (some ⟨w.heap.size + 1, 0, none⟩) v.nt v.nt, .func (Fn.func 108) #[] #[]] W fun e w' => e = .returned (.int .i64 (behindM x (fun i => L.getD i 0) anyMo x.states[k].moves)) ∧ Below W.heap.size W w') := fun W L k hk hf sn ma mn mc ra rn rc hq =>
    mostBehindA_any B v x sn ma mn mc ra rn rc x.states[k].moves (w.heap.size + 1) L W (by have := hf.below.size; omega) hwt (HX.out.below (hf.below.mono hB)) (hml _ (List.getElem_mem hk)) hq (hmi _ (List.getElem_mem hk)) (by rw [hf.len, lt]) (hf.frm.1) (fun i hi => (hf.there (by rw [← hf.len]; exact hi)).1)
  have HTT : Hid (∀ W k, (hk : k < x.states.length) → Below w.heap.size w W → ∀ (ma : Option Addr) (mn mc : Nat) (ra : Option Addr) (rn rc : Nat), IsArr 3 QAc B W ra rn x.states[k].acts → Calls Tryz.prog 105 #[.agg #[.string x.states[k].name, .slice ma mn mc, .slice ra rn rc], .string out] W fun e w' => e = .returned (.int .i64 (timesL out x.states[k].acts)) ∧ Below W.heap.size W w') := fun W k hk hb ma mn mc ra rn rc hq =>
    timesTold_any B x.states[k] ma mn mc ra rn rc out W (by have := hb.size; omega) (by have := hq.1; have := hac _ (List.getElem_mem hk); omega) hq
  have HQS : Hid (∀ W, Below w.heap.size w W → IsArr 3 QSt B W v.at_ v.nt x.states) := fun W hb => (HX.out.below (hb.mono hB)).states
  have HRL := hidOf (roundsF_len (edgesM x) (TM x out) x.states.length)
  have HUE := hidOf (fun (fr : List Int) (i : Nat) (hi : i < x.states.length) => updF_eq x out fr hi)
  have HUP : Hid (∀ (fr : List Int) (N : Int) (i : Nat), 0 ≤ N → Upto N fr → i < x.states.length → fr.length = x.states.length → Upto (N + 1048576) (updF (edgesM x) (TM x out) fr i)) := fun fr N i h0 h1 hi hf => h1.upd (A := 1048576) h0 hi hf (hac _ (List.getElem_mem hi))
  have HTL : Hid (∀ k, (hk : k < x.states.length) → 0 ≤ timesL out x.states[k].acts ∧ timesL out x.states[k].acts ≤ 1048576) := fun k hk => by have h1 := timesL_le out x.states[k].acts; have := hac _ (List.getElem_mem hk); omega
  have HBH : Hid (∀ (fr : List Int) (N : Int) (ft : Mo → Bool) (l : List Mo), 0 ≤ N → Upto N fr → 0 ≤ behindM x (fun i => fr.getD i 0) ft l ∧ behindM x (fun i => fr.getD i 0) ft l ≤ N) := fun fr N ft l h0 h1 => behindM_bound x h0 (fun i => (h1 i).2)
  have HME : Hid (mostM x out = doneM x (fun j => (roundsF (edgesM x) (TM x out) x.states.length x.states.length).getD j 0) x.states.length) := by
    show _ = _
    rw [doneM_all x _ (Nat.le_refl _)]
    exact mostM_eq hok (fun s hs m hm => by
      have h1 := hmi s hs m hm
      have h2 := (findM_lt (statesM x) m.to).2
      have h3 : (statesM x).length = x.states.length := by simp [statesM]
      unfold toIx
      omega)
  have HDN := hidOf (fun (g : Nat → Int) (i : Nat) (h : i < x.states.length) => doneM_succ x g h)
  obtain ⟨N, hN⟩ : ∃ N, x.states.length = N := ⟨_, rfl⟩
  have hntN : v.nt = N := by omega
  have hN5 : N ≤ 5 := by omega
  obtain ⟨R, hR⟩ : ∃ R, mostM x out = R := ⟨_, rfl⟩
  have HR := hidOf hR
  rw [hR]
  have HNx := hidOf hN
  obtain ⟨i0, hi, hz0, hz1, hz2⟩ := info_parts infoInt
  clear hR hx hok lt p0 p1 p2 p3 p4 p5 p6 p7 p8 p9 hwt HX hmi hml hac hn5 hN
  obtain ⟨ai, ni, ci, ao, no, co, av, nv, cv, at_, nt, ct⟩ := v
  simp only [BkV.val] at HMB HMA HQS hntN ⊢
  subst hntN
  obtain ⟨xn, hxn⟩ : ∃ n, x.name = n := ⟨_, rfl⟩
  rw [hxn] at HMB HMA ⊢
  clear hxn
  have hmk : ∀ u : World, (Instr.makeSlice 43 (.int .i64 (nt : Int)) (.int .i64 (nt : Int))).run Tryz.prog u =
      .ok (.slice (some ⟨u.heap.size, 0, none⟩) nt nt) (u.alloc (.cells (madeCells #[.int .i64 0] nt) 3)) := fun u => by
    have h := run_make (P := Tryz.prog) u 43 3 i0 (.int .i64 0) Tryz.underlying43 hi hz0 .i64 .i64 (nt : Int) (nt : Int) (by omega) (Int.le_refl _) (by rw [hz2]; omega) (by omega)
    have e : ((nt : Int)).toNat = nt := by omega
    rw [e] at h
    simpa [hz1, Value.cells] using h
  have HR0 : Hid (FromAt w ((w.alloc (.cells #[.string xn, .slice ai ni ci, .slice ao no co, .slice av nv cv, .slice at_ nt ct] 34)).alloc (.cells (madeCells #[.int .i64 0] nt) 3)) [.string xn, .slice ai ni ci, .slice ao no co, .slice av nv cv, .slice at_ nt ct] nt (roundsF (edgesM x) (TM x out) nt 0)) := by
    have hb1 : Below w.heap.size w (w.alloc (.cells #[.string xn, .slice ai ni ci, .slice ao no co, .slice av nv cv, .slice at_ nt ct] 34)) := (Below.refl _ _).alloc (Nat.le_refl _) _
    have hb2 : ∀ u : World, ∀ o, Below u.heap.size u (u.alloc o) := fun u o => (Below.refl _ _).alloc (Nat.le_refl _) _
    refine ⟨hb1.trans ((hb2 _ _).mono hb1.size), (boxAt_new w [.string xn, .slice ai ni ci, .slice ao no co, .slice av nv cv, .slice at_ nt ct] 34).below (hb2 _ _), ?_, by simp [roundsF]⟩
    have ho := own_zeros (w.alloc (.cells #[.string xn, .slice ai ni ci, .slice ao no co, .slice av nv cv, .slice at_ nt ct] 34)) 0 nt (Nat.zero_le _) (by unfold maxLen; omega)
    unfold OwnI at ho
    rw [List.length_replicate, List.map_replicate] at ho
    refine ⟨by simp, fun j u hu => ?_⟩
    have hj : j < nt := by have := (List.getElem?_eq_some_iff.1 hu).1; simpa [roundsF] using this
    have hu2 : u = .int .i64 0 := by simp [roundsF, List.getElem?_map, List.getElem?_replicate, hj] at hu; exact hu.symm
    subst hu2
    have h1 := World.ownsRow.cellAt ho j (by simpa using hj)
    have h2 := World.ownsRow.frozenAt ho j
    simp [hj] at h1
    exact ⟨by simp [go_sem, h1], by simp⟩
  have HU0 : Hid (Upto 0 (roundsF (edgesM x) (TM x out) nt 0)) := fun i => by
    show 0 ≤ (List.replicate nt (0 : Int)).getD i 0 ∧ (List.replicate nt (0 : Int)).getD i 0 ≤ 0
    simp only [List.getD_eq_getElem?_getD, List.getElem?_replicate]
    split <;> simp
  go_enter Tryz.func57, Tryz.ntmps57
  go_wp2_with fail
  obtain ⟨W0, hW0⟩ : ∃ W0, ((w.alloc (.cells #[.string xn, .slice ai ni ci, .slice ao no co, .slice av nv cv, .slice at_ nt ct] 34)).alloc (.cells (madeCells #[.int .i64 0] nt) 3)) = W0 := ⟨_, rfl⟩
  rw [hW0] at HR0 ⊢
  clear hW0 hmk
  go_loopw [18] (fun i wr => ∃ r : Nat, r ≤ nt ∧ i = .int .i64 r ∧ Hid (FromAt w wr [.string xn, .slice ai ni ci, .slice ao no co, .slice av nv cv, .slice at_ nt ct] nt (roundsF (edgesM x) (TM x out) nt r)) ∧ Hid (Upto (6291456 * (r : Int)) (roundsF (edgesM x) (TM x out) nt r))) (fun i _ => nt - (intOf i).toNat)
  case atStart => exact ⟨0, Nat.zero_le _, rfl, HR0, by simpa using HU0⟩
  case round =>
    obtain ⟨r, hr, rfl, HRA, HUA⟩ := hrel
    have c0 : wr.cell? ⟨w.heap.size, 0, none⟩ = some (.string xn) := (HRA.out.blk.2 0 _ rfl).1
    have c1 : wr.cell? ⟨w.heap.size, 1, none⟩ = some (.slice ai ni ci) := (HRA.out.blk.2 1 _ rfl).1
    have c2 : wr.cell? ⟨w.heap.size, 2, none⟩ = some (.slice ao no co) := (HRA.out.blk.2 2 _ rfl).1
    have c3 : wr.cell? ⟨w.heap.size, 3, none⟩ = some (.slice av nv cv) := (HRA.out.blk.2 3 _ rfl).1
    have c4 : wr.cell? ⟨w.heap.size, 4, none⟩ = some (.slice at_ nt ct) := (HRA.out.blk.2 4 _ rfl).1
    have sx : w.heap.size < wr.heap.size := HRA.out.blk.1
    by_cases hlt : r < nt
    · go_wp2_with fail
      clear c0 c1 c2 c3 c4 sx
      have HRB : Hid (FromAt w wr [.string xn, .slice ai ni ci, .slice ao no co, .slice av nv cv, .slice at_ nt ct] nt (roundF (edgesM x) (TM x out) (roundsF (edgesM x) (TM x out) nt r) 0)) := HRA.out
      have HUB : Hid (Upto (6291456 * (r : Int) + 1048576 * ((0 : Nat) : Int)) (roundF (edgesM x) (TM x out) (roundsF (edgesM x) (TM x out) nt r) 0)) := by show Upto _ _; have := HUA.out; simpa [roundF] using this
      have HLL : Hid (∀ k, (roundF (edgesM x) (TM x out) (roundsF (edgesM x) (TM x out) nt r) k).length = nt) := fun k => by rw [roundF_len]; exact HRA.out.len
      go_loopw [23] (fun i wq => ∃ k : Nat, k ≤ nt ∧ i = .int .i64 k ∧ Hid (FromAt w wq [.string xn, .slice ai ni ci, .slice ao no co, .slice av nv cv, .slice at_ nt ct] nt (roundF (edgesM x) (TM x out) (roundsF (edgesM x) (TM x out) nt r) k)) ∧ Hid (Upto (6291456 * (r : Int) + 1048576 * (k : Int)) (roundF (edgesM x) (TM x out) (roundsF (edgesM x) (TM x out) nt r) k))) (fun i _ => nt - (intOf i).toNat)
      case atStart => exact ⟨0, Nat.zero_le _, rfl, HRB, HUB⟩
      case round =>
        obtain ⟨k, hk, rfl, HRK, HUK⟩ := hrel
        have c0 : wr.cell? ⟨w.heap.size, 0, none⟩ = some (.string xn) := (HRK.out.blk.2 0 _ rfl).1
        have c1 : wr.cell? ⟨w.heap.size, 1, none⟩ = some (.slice ai ni ci) := (HRK.out.blk.2 1 _ rfl).1
        have c2 : wr.cell? ⟨w.heap.size, 2, none⟩ = some (.slice ao no co) := (HRK.out.blk.2 2 _ rfl).1
        have c3 : wr.cell? ⟨w.heap.size, 3, none⟩ = some (.slice av nv cv) := (HRK.out.blk.2 3 _ rfl).1
        have c4 : wr.cell? ⟨w.heap.size, 4, none⟩ = some (.slice at_ nt ct) := (HRK.out.blk.2 4 _ rfl).1
        have sx : w.heap.size < wr.heap.size := HRK.out.blk.1
        by_cases hlt2 : k < nt
        · have hkl : k < x.states.length := by have := HNx.out; omega
          obtain ⟨b, off, cs, eab, hb, hq, hcell⟩ := IsArr.at (HQS.out wr HRK.out.below) hlt2 hkl
          have hbr : b < wr.heap.size := by have := HRK.out.below.size; omega
          obtain ⟨ma, mn, mc, ra, rn, rc, rfl, q1, q2, q3, q4, q5, q6⟩ := hq
          have hbn : Below wr.heap.size wr (wr.alloc (.cells #[.string x.states[k].name, .slice ma mn mc, .slice ra rn rc] 109)) := (Below.refl _ _).alloc (Nat.le_refl _) _
          obtain ⟨LK, hLK⟩ : ∃ L, roundF (edgesM x) (TM x out) (roundsF (edgesM x) (TM x out) nt r) k = L := ⟨_, rfl⟩
          have hLKl : LK.length = nt := by rw [← hLK]; exact HLL.out k
          have HNXT : Hid (roundF (edgesM x) (TM x out) (roundsF (edgesM x) (TM x out) nt r) (k + 1) = updF (edgesM x) (TM x out) LK k) := by show _ = _; rw [← hLK]; rfl
          rw [hLK] at HRK HUK
          have HUN : Hid (Upto (6291456 * (r : Int) + 1048576 * ((k + 1 : Nat) : Int)) (updF (edgesM x) (TM x out) LK k)) := by
            have := HUP.out LK _ k (by omega) HUK.out hkl (by rw [hLKl]; exact HNx.out.symm)
            exact this.up (by push_cast; omega)
          have hUE := HUE.out LK k hkl
          have hB1 := HBH.out LK _ noEv x.states[k].moves (by omega) HUK.out
          have hT1 := HTL.out k hkl
          have HQM : Hid (∀ W, Below wr.heap.size wr W → IsArr 3 QMo B W ma mn x.states[k].moves) := fun W hb' => q5.below (QMo.lift (hb'.mono (by have := HRK.out.below.size; omega))) (hb'.mono (by have := HRK.out.below.size; omega))
          have HQA : Hid (∀ W, Below wr.heap.size wr W → IsArr 3 QAc B W ra rn x.states[k].acts) := fun W hb' => q6.below (QAc.lift (hb'.mono (by have := HRK.out.below.size; omega))) (hb'.mono (by have := HRK.out.below.size; omega))
          have HTW : Hid (∀ W, Below wr.heap.size wr W → Calls Tryz.prog 105 #[.agg #[.string x.states[k].name, .slice ma mn mc, .slice ra rn rc], .string out] W fun e w' => e = .returned (.int .i64 (timesL out x.states[k].acts)) ∧ Below W.heap.size W w') := fun W hb' => HTT.out W k hkl (HRK.out.below.trans (hb'.mono HRK.out.below.size)) ma mn mc ra rn rc (HQA.out W hb')
          have HMW : Hid (∀ W, Below wr.heap.size wr W → FromAt w W [.string xn, .slice ai ni ci, .slice ao no co, .slice av nv cv, .slice at_ nt ct] nt LK → Calls Tryz.prog 106 #[.agg #[.string xn, .slice ai ni ci, .slice ao no co, .slice av nv cv, .slice at_ nt ct], .agg #[.string x.states[k].name, .slice ma mn mc, .slice ra rn rc], .slice (some ⟨w.heap.size + 1, 0, none⟩) nt nt, .func (Fn.func 107) #[] #[]] W fun e w' => e = .returned (.int .i64 (behindM x (fun i => LK.getD i 0) noEv x.states[k].moves)) ∧ Below W.heap.size W w') := fun W hb' hf => HMB.out W LK k hkl hf x.states[k].name ma mn mc ra rn rc (HQM.out W hb')
          obtain ⟨TL, hTL⟩ : ∃ t, timesL out x.states[k].acts = t := ⟨_, rfl⟩
          obtain ⟨BH, hBH⟩ : ∃ t, behindM x (fun i => LK.getD i 0) noEv x.states[k].moves = t := ⟨_, rfl⟩
          rw [hTL] at HTW hT1 hUE
          rw [hBH] at HMW hB1 hUE
          have HUE2 := hidOf hUE
          obtain ⟨y0, hy0⟩ : ∃ s, (x.states[k]).name = s := ⟨_, rfl⟩
          rw [hy0] at hcell HTW HMW hbn
          have e0 : wr.cell? ⟨b, off + k * 3, none⟩ = some (.string y0) := hcell 0 _ rfl
          have e1 : wr.cell? ⟨b, off + k * 3 + 1, none⟩ = some (.slice ma mn mc) := hcell 1 _ rfl
          have e2 : wr.cell? ⟨b, off + k * 3 + 1 + 1, none⟩ = some (.slice ra rn rc) := hcell 2 _ rfl
          have hwr : IntKind.i64.wrap (TL + BH) = TL + BH := by rw [IntKind.wrap_i64]; omega
          have hklt : (k : Int) < (nt : Int) := by omega
          have hne1 : ¬ (w.heap.size + 1 = wr.heap.size) := by have := HRK.out.frm.1; omega
          have hne2 : ¬ (wr.heap.size = w.heap.size + 1) := by omega
          have HBN := hidOf hbn
          have HRN := hidOf (HRK.out.call hbn)
          have HSB := hidOf (boxAt_new wr [.string y0, .slice ma mn mc, .slice ra rn rc] 109)
          clear hTL hBH hy0 hcell q5 q6 hbn hUE hLK hLKl HUE
          subst eab
          go_wp2_with fail
          go_region_held3 (fun w' => w'.cell? ⟨w.heap.size, 0, none⟩ = some (.string xn) ∧ w'.cell? ⟨w.heap.size, 1, none⟩ = some (.slice ai ni ci) ∧ w'.cell? ⟨w.heap.size, 2, none⟩ = some (.slice ao no co) ∧ w'.cell? ⟨w.heap.size, 3, none⟩ = some (.slice av nv cv) ∧ w'.cell? ⟨w.heap.size, 4, none⟩ = some (.slice (some ⟨b, off, none⟩) nt ct) ∧ w'.cell? ⟨wr.heap.size, 0, none⟩ = some (.string y0) ∧ w'.cell? ⟨wr.heap.size, 1, none⟩ = some (.slice ma mn mc) ∧ w'.cell? ⟨wr.heap.size, 2, none⟩ = some (.slice ra rn rc)) (simp [go_sem, *])
            (first
             | (go_at_call 105; refine (HTW.out _ (by first | exact HBN.out | exact below_drew1 HBN.out | exact drewN HBN.out _)).mono ?_; rintro e w1 ⟨rfl, b1⟩; have HB1 : Hid (Below wr.heap.size wr w1) := HBN.out.trans ((undrew b1).mono HBN.out.size); have HR1 := hidOf (HRN.out.call (undrew b1)); have qs1 := HR1.out.blk.1; have qs2 : wr.heap.size < w1.heap.size := (by have := (HSB.out.below (undrew b1)).1; omega); obtain ⟨hc1, hf1⟩ := bcell (undrew b1); clear b1 hf1)
             | (go_at_call 106; refine (HMW.out _ HB1.out HR1.out).mono ?_; rintro e w2 ⟨rfl, b2⟩; have HR2 := hidOf (HR1.out.call b2); have hth := HR2.out.there hlt2; have hthc := hth.1; have hthf := hth.2; have qs3 := HR2.out.frm.1; obtain ⟨hc2, hf2⟩ := bcell b2; clear b2 hf2 hth))
          go_wp2_with fail
          go_roundw
          case rel =>
            refine ⟨k + 1, by omega, by go_num, ?_, by show Upto _ _; rw [HNXT.out]; exact HUN.out⟩
            show FromAt _ _ _ _ _
            rw [HNXT.out, HUE2.out]
            exact HR2.out.store k (TL + BH)
          case measure => simp [intOf]; omega
        · have hkn : k = nt := by omega
          have HRE : Hid (FromAt w wr [.string xn, .slice ai ni ci, .slice ao no co, .slice av nv cv, .slice at_ nt ct] nt (roundsF (edgesM x) (TM x out) nt (r + 1))) := by
            have := HRK.out
            rw [hkn] at this
            exact this
          have HUE3 : Hid (Upto (6291456 * ((r + 1 : Nat) : Int)) (roundsF (edgesM x) (TM x out) nt (r + 1))) := by
            have := HUK.out
            rw [hkn] at this
            exact this.up (by push_cast; omega)
          clear hkn
          go_wp2_with fail
          go_roundw
          case rel => exact ⟨r + 1, by omega, by go_num, HRE, HUE3⟩
          case measure => simp [intOf]; omega
    · have hrn : r = nt := by omega
      have HRE : Hid (FromAt w wr [.string xn, .slice ai ni ci, .slice ao no co, .slice av nv cv, .slice at_ nt ct] nt (roundsF (edgesM x) (TM x out) nt nt)) := by
        have := HRA.out
        rw [hrn] at this
        exact this
      have HUE3 : Hid (Upto (6291456 * (nt : Int)) (roundsF (edgesM x) (TM x out) nt nt)) := by
        have := HUA.out
        rw [hrn] at this
        exact this
      have HRR : Hid (R = doneM x (fun j => (roundsF (edgesM x) (TM x out) nt nt).getD j 0) nt) := by
        show R = _
        rw [← HR.out, HME.out, HNx.out]
      clear hrn HRA HUA
      obtain ⟨LF, hLF⟩ : ∃ L, roundsF (edgesM x) (TM x out) nt nt = L := ⟨_, rfl⟩
      rw [hLF] at HRE HUE3 HRR
      clear hLF
      have HD0 : Hid (doneM x (fun j => LF.getD j 0) 0 = 0) := rfl
      have HDS := hidOf (fun (i : Nat) (h : i < x.states.length) => HDN.out (fun j => LF.getD j 0) i h)
      have HBL := hidOf (fun l => HBH.out LF _ anyMo l (by omega) HUE3.out)
      obtain ⟨DN, hDN⟩ : ∃ g, doneM x (fun j => LF.getD j 0) = g := ⟨_, rfl⟩
      rw [hDN] at HD0 HRR HDS
      clear hDN
      go_wp2_with fail
      clear c0 c1 c2 c3 c4 sx hlt
      go_loopw [8, 44] (fun t i wq => ∃ k : Nat, k ≤ nt ∧ i = .int .i64 k ∧ t = .int .i64 (DN k) ∧ Hid (FromAt w wq [.string xn, .slice ai ni ci, .slice ao no co, .slice av nv cv, .slice at_ nt ct] nt LF)) (fun _ i _ => nt - (intOf i).toNat)
      case atStart => exact ⟨0, Nat.zero_le _, rfl, by rw [HD0.out], HRE⟩
      case round =>
        obtain ⟨k, hk, rfl, rfl, HRK⟩ := hrel
        have c0 : wr.cell? ⟨w.heap.size, 0, none⟩ = some (.string xn) := (HRK.out.blk.2 0 _ rfl).1
        have c1 : wr.cell? ⟨w.heap.size, 1, none⟩ = some (.slice ai ni ci) := (HRK.out.blk.2 1 _ rfl).1
        have c2 : wr.cell? ⟨w.heap.size, 2, none⟩ = some (.slice ao no co) := (HRK.out.blk.2 2 _ rfl).1
        have c3 : wr.cell? ⟨w.heap.size, 3, none⟩ = some (.slice av nv cv) := (HRK.out.blk.2 3 _ rfl).1
        have c4 : wr.cell? ⟨w.heap.size, 4, none⟩ = some (.slice at_ nt ct) := (HRK.out.blk.2 4 _ rfl).1
        have sx : w.heap.size < wr.heap.size := HRK.out.blk.1
        by_cases hlt2 : k < nt
        · have hkl : k < x.states.length := by have := HNx.out; omega
          obtain ⟨b, off, cs, eab, hb, hq, hcell⟩ := IsArr.at (HQS.out wr HRK.out.below) hlt2 hkl
          have hbr : b < wr.heap.size := by have := HRK.out.below.size; omega
          obtain ⟨ma, mn, mc, ra, rn, rc, rfl, q1, q2, q3, q4, q5, q6⟩ := hq
          have hbn : Below wr.heap.size wr (wr.alloc (.cells #[.string x.states[k].name, .slice ma mn mc, .slice ra rn rc] 109)) := (Below.refl _ _).alloc (Nat.le_refl _) _
          have hDk := HDS.out k hkl
          have HQM : Hid (∀ W, Below wr.heap.size wr W → IsArr 3 QMo B W ma mn x.states[k].moves) := fun W hb' => q5.below (QMo.lift (hb'.mono (by have := HRK.out.below.size; omega))) (hb'.mono (by have := HRK.out.below.size; omega))
          have HMW : Hid (∀ W, Below wr.heap.size wr W → FromAt w W [.string xn, .slice ai ni ci, .slice ao no co, .slice av nv cv, .slice at_ nt ct] nt LF → Calls Tryz.prog 106 #[.agg #[.string xn, .slice ai ni ci, .slice ao no co, .slice av nv cv, .slice at_ nt ct], .agg #[.string x.states[k].name, .slice ma mn mc, .slice ra rn rc], .slice (some ⟨w.heap.size + 1, 0, none⟩) nt nt, .func (Fn.func 108) #[] #[]] W fun e w' => e = .returned (.int .i64 (behindM x (fun i => LF.getD i 0) anyMo x.states[k].moves)) ∧ Below W.heap.size W w') := fun W hb' hf => HMA.out W LF k hkl hf x.states[k].name ma mn mc ra rn rc (HQM.out W hb')
          obtain ⟨BH, hBH⟩ : ∃ t, behindM x (fun i => LF.getD i 0) anyMo x.states[k].moves = t := ⟨_, rfl⟩
          rw [hBH] at HMW hDk
          have HDk := hidOf hDk
          obtain ⟨y0, hy0⟩ : ∃ s, (x.states[k]).name = s := ⟨_, rfl⟩
          rw [hy0] at hcell HMW hbn
          have e0 : wr.cell? ⟨b, off + k * 3, none⟩ = some (.string y0) := hcell 0 _ rfl
          have e1 : wr.cell? ⟨b, off + k * 3 + 1, none⟩ = some (.slice ma mn mc) := hcell 1 _ rfl
          have e2 : wr.cell? ⟨b, off + k * 3 + 1 + 1, none⟩ = some (.slice ra rn rc) := hcell 2 _ rfl
          obtain ⟨D, hD⟩ : ∃ D, DN k = D := ⟨_, rfl⟩
          rw [hD] at HDk ⊢
          have HBN := hidOf hbn
          have HRN := hidOf (HRK.out.call hbn)
          clear hBH hy0 hcell q5 q6 hbn hDk hD
          subst eab
          by_cases hcp : D ≤ BH
          · have hmx : max D BH = BH := by omega
            go_wp2_with fail
            refine (HMW.out _ HBN.out HRN.out).mono ?_
            rintro e w1 ⟨rfl, b1⟩
            have HR1 := hidOf (HRN.out.call b1)
            clear b1
            go_wp2_with fail
            go_roundw
            case rel => exact ⟨k + 1, by omega, by go_num, by rw [HDk.out]; (try congr 1); omega, HR1⟩
            case measure => simp [intOf]; omega
          · have hmx : max D BH = D := by omega
            go_wp2_with fail
            refine (HMW.out _ HBN.out HRN.out).mono ?_
            rintro e w1 ⟨rfl, b1⟩
            have HR1 := hidOf (HRN.out.call b1)
            clear b1
            go_wp2_with fail
            go_roundw
            case rel => exact ⟨k + 1, by omega, by go_num, by rw [HDk.out]; (try congr 1); omega, HR1⟩
            case measure => simp [intOf]; omega
        · have hkn : k = nt := by omega
          subst hkn
          go_wp2_with fail
          go_ret
          exact ⟨ret_int HRR.out.symm, HRK.out.below⟩
end Go.Proofs.YtceokbmejnopoaaGreatDoor

/- BlockMost, by the model and by the program. -/
namespace Go.Proofs.YtceokbmejnopoaaGreatDoor
open Go Go.RowKit Go.PlainAid
set_option linter.unusedSimpArgs false
set_option linter.unusedVariables false

set_option maxHeartbeats 800000 in
set_option maxRecDepth 100000 in
theorem specBlockMost_any (B : Nat) (v : BkV) (x : Bk) (out : ByteArray) (w : World) (hB : B ≤ w.heap.size) (hwt : wtBk x ≤ 1048576) (hso : out.size ≤ 1048576) (hx : IsBk B w v x) :
    Calls Tryz.prog 17 #[v.val x.name, .string out] w fun e w' => e = .returned (.int .i64 (bmM x out)) ∧ Below w.heap.size w w' := by
  obtain ⟨p0, p1, p2, p3, p4, p5, p6, p7, p8, p9⟩ := wtBk_parts hwt
  have HX := hidOf hx
  have HC : Hid (∀ W, Below w.heap.size w W → Calls Tryz.prog 39 #[v.val x.name] W fun e w' => e = .returned (.int .i64 (checkM x)) ∧ Below W.heap.size W w') := fun W hb => l3Check_any B v x W (by have := hb.size; omega) hwt (HX.out.below (hb.mono hB))
  have HM : Hid (checkM x = 0 → ∀ W, Below w.heap.size w W → Calls Tryz.prog 55 #[v.val x.name, .string out] W fun e w' => e = .returned (.int .i64 (mostM x out)) ∧ Below W.heap.size W w') := fun hz W hb => l3Most_any B v x out W (by have := hb.size; omega) hwt hz (HX.out.below (hb.mono hB))
  have HPO : Hid (∀ W, Below w.heap.size w W → Calls Tryz.prog 54 #[.slice v.ao v.no v.co] W fun e w' => ∃ u, e = .returned u ∧ OwnS W.heap.size w' u (x.outs.map Pt.name) ∧ Below W.heap.size W w') := fun W hb => l3Ports_any B v.ao v.no v.co x.outs W (by have := hb.size; omega) (by have := hx.outs.1; omega) (HX.out.below (hb.mono hB)).outs
  have HFO := hidOf (findOwn_any (x.outs.map Pt.name) out (by simp; omega) (outs_small p4) hso)
  unfold bmM
  obtain ⟨LO, hLO⟩ : ∃ l, x.outs.map Pt.name = l := ⟨_, rfl⟩
  rw [hLO] at HPO HFO ⊢
  obtain ⟨F, hF⟩ : ∃ F, findM LO out = F := ⟨_, rfl⟩
  rw [hF] at HFO ⊢
  obtain ⟨MM, hMM⟩ : ∃ M, mostM x out = M := ⟨_, rfl⟩
  rw [hMM] at HM ⊢
  obtain ⟨P, hP⟩ : ∃ P, checkM x = P := ⟨_, rfl⟩
  rw [hP] at HC HM ⊢
  clear hLO hF hMM hP hx HX p0 p1 p2 p3 p4 p5 p6 p7 p8 p9
  obtain ⟨ai, ni, ci, ao, no, co, av, nv, cv, at_, nt, ct⟩ := v
  obtain ⟨xn, hxn⟩ : ∃ n, x.name = n := ⟨_, rfl⟩
  simp only [BkV.val] at HC HM HPO ⊢
  rw [hxn] at HC HM ⊢
  clear hxn
  have BX0 := hidOf (boxAt_new w [.string xn, .slice ai ni ci, .slice ao no co, .slice av nv cv, .slice at_ nt ct] 34)
  by_cases h0 : P = 0
  · subst h0
    by_cases hF0 : F < 0
    · have hFd : decide (F < 0) = true := decide_eq_true hF0
      go_enter Tryz.func17, Tryz.ntmps17
      go_wp2_with fail
      refine (HC.out _ (by go_grown)).mono ?_
      rintro e w1 ⟨rfl, b1⟩
      have HB1 := hidOf (below_boxed b1)
      have BX1 := hidOf (BX0.out.below b1)
      have c0 : w1.cell? ⟨w.heap.size, 0, none⟩ = some (.string xn) := (BX1.out.2 0 _ rfl).1
      have c1 : w1.cell? ⟨w.heap.size, 1, none⟩ = some (.slice ai ni ci) := (BX1.out.2 1 _ rfl).1
      have c2 : w1.cell? ⟨w.heap.size, 2, none⟩ = some (.slice ao no co) := (BX1.out.2 2 _ rfl).1
      have c3 : w1.cell? ⟨w.heap.size, 3, none⟩ = some (.slice av nv cv) := (BX1.out.2 3 _ rfl).1
      have c4 : w1.cell? ⟨w.heap.size, 4, none⟩ = some (.slice at_ nt ct) := (BX1.out.2 4 _ rfl).1
      have sx : w.heap.size < w1.heap.size := BX1.out.1
      clear b1
      go_wp2_with fail
      refine (HPO.out _ HB1.out).mono ?_
      rintro e w2 ⟨u, rfl, o2, b2⟩
      obtain ⟨a2, k2, e2, _⟩ := o2.form
      subst e2
      have HO2 := hidOf o2
      have HB2 : Hid (Below w.heap.size w w2) := HB1.out.trans (b2.mono HB1.out.size)
      have BX2 := hidOf (BX1.out.below b2)
      clear o2 b2 c0 c1 c2 c3 c4 sx
      go_wp2_with fail
      refine (HFO.out _ _ _ _ _ HO2.out).mono ?_
      rintro e w' ⟨rfl, hw'⟩
      rw [hw']
      clear hw' w'
      go_wp2_with fail
      go_ret
      exact ⟨by first | rfl | (simp [*]; done), HB2.out⟩
    · have hFd : decide (F < 0) = false := decide_eq_false hF0
      go_enter Tryz.func17, Tryz.ntmps17
      go_wp2_with fail
      refine (HC.out _ (by go_grown)).mono ?_
      rintro e w1 ⟨rfl, b1⟩
      have HB1 := hidOf (below_boxed b1)
      have BX1 := hidOf (BX0.out.below b1)
      have c0 : w1.cell? ⟨w.heap.size, 0, none⟩ = some (.string xn) := (BX1.out.2 0 _ rfl).1
      have c1 : w1.cell? ⟨w.heap.size, 1, none⟩ = some (.slice ai ni ci) := (BX1.out.2 1 _ rfl).1
      have c2 : w1.cell? ⟨w.heap.size, 2, none⟩ = some (.slice ao no co) := (BX1.out.2 2 _ rfl).1
      have c3 : w1.cell? ⟨w.heap.size, 3, none⟩ = some (.slice av nv cv) := (BX1.out.2 3 _ rfl).1
      have c4 : w1.cell? ⟨w.heap.size, 4, none⟩ = some (.slice at_ nt ct) := (BX1.out.2 4 _ rfl).1
      have sx : w.heap.size < w1.heap.size := BX1.out.1
      clear b1
      go_wp2_with fail
      refine (HPO.out _ HB1.out).mono ?_
      rintro e w2 ⟨u, rfl, o2, b2⟩
      obtain ⟨a2, k2, e2, _⟩ := o2.form
      subst e2
      have HO2 := hidOf o2
      have HB2 : Hid (Below w.heap.size w w2) := HB1.out.trans (b2.mono HB1.out.size)
      have BX2 := hidOf (BX1.out.below b2)
      clear o2 b2 c0 c1 c2 c3 c4 sx
      go_wp2_with fail
      refine (HFO.out _ _ _ _ _ HO2.out).mono ?_
      rintro e w' ⟨rfl, hw'⟩
      rw [hw']
      clear hw' w'
      have c0 : w2.cell? ⟨w.heap.size, 0, none⟩ = some (.string xn) := (BX2.out.2 0 _ rfl).1
      have c1 : w2.cell? ⟨w.heap.size, 1, none⟩ = some (.slice ai ni ci) := (BX2.out.2 1 _ rfl).1
      have c2 : w2.cell? ⟨w.heap.size, 2, none⟩ = some (.slice ao no co) := (BX2.out.2 2 _ rfl).1
      have c3 : w2.cell? ⟨w.heap.size, 3, none⟩ = some (.slice av nv cv) := (BX2.out.2 3 _ rfl).1
      have c4 : w2.cell? ⟨w.heap.size, 4, none⟩ = some (.slice at_ nt ct) := (BX2.out.2 4 _ rfl).1
      have sx : w.heap.size < w2.heap.size := BX2.out.1
      go_wp2_with fail
      refine (HM.out trivial _ HB2.out).mono ?_
      rintro e w3 ⟨rfl, b3⟩
      have HB3 : Hid (Below w.heap.size w w3) := HB2.out.trans (b3.mono HB2.out.size)
      clear b3
      go_wp2_with fail
      go_ret
      exact ⟨by first | rfl | (simp [*]; done), HB3.out⟩
  · have h0' : (P != 0) = true := by simp [h0]
    go_enter Tryz.func17, Tryz.ntmps17
    go_wp2_with fail
    refine (HC.out _ (by go_grown)).mono ?_
    rintro e w1 ⟨rfl, b1⟩
    have HB1 := hidOf (below_boxed b1)
    clear b1
    go_wp2_with fail
    go_ret
    exact ⟨by first | rfl | (simp [*]; done), HB1.out⟩

set_option maxHeartbeats 800000 in
set_option maxRecDepth 100000 in
theorem implBlockMost_any (B : Nat) (v : BkV) (x : Bk) (out : ByteArray) (w : World) (hB : B ≤ w.heap.size) (hwt : wtBk x ≤ 1048576) (hso : out.size ≤ 1048576) (hx : IsBk B w v x) (hT : Tabs w) :
    Calls Tryz.prog 18 #[v.val x.name, .string out] w fun e w' => e = .returned (.int .i64 (bmM x out)) ∧ Below w.heap.size w w' := by
  obtain ⟨p0, p1, p2, p3, p4, p5, p6, p7, p8, p9⟩ := wtBk_parts hwt
  have HX := hidOf hx
  have HC : Hid (∀ W, Below w.heap.size w W → Calls Tryz.prog 44 #[v.val x.name] W fun e w' => e = .returned (.int .i64 (checkM x)) ∧ Below W.heap.size W w') := fun W hb => implBlockCheck_any B v x W (hT.below hb) (by have := hb.size; omega) hwt (HX.out.below (hb.mono hB))
  have HM : Hid (checkM x = 0 → ∀ W, Below w.heap.size w W → Calls Tryz.prog 57 #[v.val x.name, .string out] W fun e w' => e = .returned (.int .i64 (mostM x out)) ∧ Below W.heap.size W w') := fun hz W hb => mostOf_any B v x out W (by have := hb.size; omega) hwt hz (HX.out.below (hb.mono hB))
  have HPA : Hid (∀ W, Below w.heap.size w W → Calls Tryz.prog 56 #[.slice v.ao v.no v.co, .string out] W fun e w' => e = .returned (.int .i64 (findM (x.outs.map Pt.name) out)) ∧ Below W.heap.size W w') := fun W hb => portAt_any B v.ao v.no v.co x.outs out W (by have := hb.size; omega) (by have := hx.outs.1; omega) (HX.out.below (hb.mono hB)).outs
  unfold bmM
  obtain ⟨LO, hLO⟩ : ∃ l, x.outs.map Pt.name = l := ⟨_, rfl⟩
  rw [hLO] at HPA ⊢
  obtain ⟨F, hF⟩ : ∃ F, findM LO out = F := ⟨_, rfl⟩
  rw [hF] at HPA ⊢
  obtain ⟨MM, hMM⟩ : ∃ M, mostM x out = M := ⟨_, rfl⟩
  rw [hMM] at HM ⊢
  obtain ⟨P, hP⟩ : ∃ P, checkM x = P := ⟨_, rfl⟩
  rw [hP] at HC HM ⊢
  clear hLO hF hMM hP hx HX hT p0 p1 p2 p3 p4 p5 p6 p7 p8 p9
  obtain ⟨ai, ni, ci, ao, no, co, av, nv, cv, at_, nt, ct⟩ := v
  obtain ⟨xn, hxn⟩ : ∃ n, x.name = n := ⟨_, rfl⟩
  simp only [BkV.val] at HC HM HPA ⊢
  rw [hxn] at HC HM ⊢
  clear hxn
  have BX0 := hidOf (boxAt_new w [.string xn, .slice ai ni ci, .slice ao no co, .slice av nv cv, .slice at_ nt ct] 34)
  by_cases h0 : P = 0
  · subst h0
    by_cases hF0 : F < 0
    · have hFd : decide (F < 0) = true := decide_eq_true hF0
      go_enter Tryz.func18, Tryz.ntmps18
      go_wp2_with fail
      refine (HC.out _ (by go_grown)).mono ?_
      rintro e w1 ⟨rfl, b1⟩
      have HB1 := hidOf (below_boxed b1)
      have BX1 := hidOf (BX0.out.below b1)
      have c0 : w1.cell? ⟨w.heap.size, 0, none⟩ = some (.string xn) := (BX1.out.2 0 _ rfl).1
      have c1 : w1.cell? ⟨w.heap.size, 1, none⟩ = some (.slice ai ni ci) := (BX1.out.2 1 _ rfl).1
      have c2 : w1.cell? ⟨w.heap.size, 2, none⟩ = some (.slice ao no co) := (BX1.out.2 2 _ rfl).1
      have c3 : w1.cell? ⟨w.heap.size, 3, none⟩ = some (.slice av nv cv) := (BX1.out.2 3 _ rfl).1
      have c4 : w1.cell? ⟨w.heap.size, 4, none⟩ = some (.slice at_ nt ct) := (BX1.out.2 4 _ rfl).1
      have sx : w.heap.size < w1.heap.size := BX1.out.1
      clear b1
      go_wp2_with fail
      refine (HPA.out _ HB1.out).mono ?_
      rintro e w2 ⟨rfl, b2⟩
      have HB2 : Hid (Below w.heap.size w w2) := HB1.out.trans (b2.mono HB1.out.size)
      have BX2 := hidOf (BX1.out.below b2)
      clear b2 c0 c1 c2 c3 c4 sx
      go_wp2_with fail
      go_ret
      exact ⟨by first | rfl | (simp [*]; done), HB2.out⟩
    · have hFd : decide (F < 0) = false := decide_eq_false hF0
      go_enter Tryz.func18, Tryz.ntmps18
      go_wp2_with fail
      refine (HC.out _ (by go_grown)).mono ?_
      rintro e w1 ⟨rfl, b1⟩
      have HB1 := hidOf (below_boxed b1)
      have BX1 := hidOf (BX0.out.below b1)
      have c0 : w1.cell? ⟨w.heap.size, 0, none⟩ = some (.string xn) := (BX1.out.2 0 _ rfl).1
      have c1 : w1.cell? ⟨w.heap.size, 1, none⟩ = some (.slice ai ni ci) := (BX1.out.2 1 _ rfl).1
      have c2 : w1.cell? ⟨w.heap.size, 2, none⟩ = some (.slice ao no co) := (BX1.out.2 2 _ rfl).1
      have c3 : w1.cell? ⟨w.heap.size, 3, none⟩ = some (.slice av nv cv) := (BX1.out.2 3 _ rfl).1
      have c4 : w1.cell? ⟨w.heap.size, 4, none⟩ = some (.slice at_ nt ct) := (BX1.out.2 4 _ rfl).1
      have sx : w.heap.size < w1.heap.size := BX1.out.1
      clear b1
      go_wp2_with fail
      refine (HPA.out _ HB1.out).mono ?_
      rintro e w2 ⟨rfl, b2⟩
      have HB2 : Hid (Below w.heap.size w w2) := HB1.out.trans (b2.mono HB1.out.size)
      have BX2 := hidOf (BX1.out.below b2)
      clear b2 c0 c1 c2 c3 c4 sx
      have c0 : w2.cell? ⟨w.heap.size, 0, none⟩ = some (.string xn) := (BX2.out.2 0 _ rfl).1
      have c1 : w2.cell? ⟨w.heap.size, 1, none⟩ = some (.slice ai ni ci) := (BX2.out.2 1 _ rfl).1
      have c2 : w2.cell? ⟨w.heap.size, 2, none⟩ = some (.slice ao no co) := (BX2.out.2 2 _ rfl).1
      have c3 : w2.cell? ⟨w.heap.size, 3, none⟩ = some (.slice av nv cv) := (BX2.out.2 3 _ rfl).1
      have c4 : w2.cell? ⟨w.heap.size, 4, none⟩ = some (.slice at_ nt ct) := (BX2.out.2 4 _ rfl).1
      have sx : w.heap.size < w2.heap.size := BX2.out.1
      go_wp2_with fail
      refine (HM.out trivial _ HB2.out).mono ?_
      rintro e w3 ⟨rfl, b3⟩
      have HB3 : Hid (Below w.heap.size w w3) := HB2.out.trans (b3.mono HB2.out.size)
      clear b3
      go_wp2_with fail
      go_ret
      exact ⟨by first | rfl | (simp [*]; done), HB3.out⟩
  · have h0' : (P != 0) = true := by simp [h0]
    go_enter Tryz.func18, Tryz.ntmps18
    go_wp2_with fail
    refine (HC.out _ (by go_grown)).mono ?_
    rintro e w1 ⟨rfl, b1⟩
    have HB1 := hidOf (below_boxed b1)
    clear b1
    go_wp2_with fail
    go_ret
    exact ⟨by first | rfl | (simp [*]; done), HB1.out⟩
end Go.Proofs.YtceokbmejnopoaaGreatDoor
