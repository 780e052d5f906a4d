/- A block at first: its values, name by name, and by the program's way. Plain: no program. -/
import Derived.Test.YtceokbmejnopoaaGreatDoorBunY27
import Derived.Test.YtceokbmejnopoaaGreatDoorInstImpl
import Derived.Test.YtceokbmejnopoaaGreatDoorBunY50
import Derived.Deep.RegionWith
import Derived.Test.YtceokbmejnopoaaGreatDoorBunY34
namespace Go.Proofs.YtceokbmejnopoaaGreatDoor
open Go Go.RowKit Go.PlainAid
set_option linter.unusedSimpArgs false
set_option linter.unusedVariables false

def firstV (b : Bk) (x : ByteArray) : Int := if findM (varsM b) x < 0 then 0 else (b.vars.getD (findM (varsM b) x).toNat ⟨noName, 0⟩).num
def firstVals (b : Bk) : List Int := (namesM b).map (firstV b)
theorem findM_nodup {l : List ByteArray} (h : l.Nodup) {k : Nat} (hk : k < l.length) : findM l l[k] = k :=
  findM_at hk rfl (fun j hj e => by
    have := List.pairwise_iff_getElem.1 h j k (by omega) hk hj
    exact this e)
theorem firstVals_eq {b : Bk} (h : NamesOk b) : firstVals b = List.replicate ((concatM b).length - b.vars.length) 0 ++ b.vars.map Vr.num := by
  have e := names_eq h
  obtain ⟨⟨_, _, _, hv, _⟩, ⟨h1, h2, h3⟩, _⟩ := h
  unfold firstVals
  rw [e]
  unfold concatM
  rw [← List.append_assoc, List.map_append]
  have hl : ((valsM b.ins ++ valsM b.outs) ++ varsM b).length - b.vars.length = (valsM b.ins ++ valsM b.outs).length := by
    rw [List.length_append (bs := varsM b)]
    simp [varsM]
  rw [hl]
  congr 1
  · apply List.ext_getElem
    · simp
    · intro i hi hi2
      simp only [List.length_map] at hi
      simp only [List.getElem_map, List.getElem_replicate]
      unfold firstV
      rw [if_pos]
      rw [findM_neg]
      have hm := List.getElem_mem hi
      rcases List.mem_append.1 hm with hx | hx
      · exact h2 _ hx
      · exact h3 _ hx
  · apply List.ext_getElem
    · simp [varsM]
    · intro i hi hi2
      simp only [List.length_map] at hi hi2
      simp only [List.getElem_map]
      unfold firstV
      rw [findM_nodup (show (varsM b).Nodup from hv.2.1.2) hi, if_neg (by omega)]
      simp [hi2]
end Go.Proofs.YtceokbmejnopoaaGreatDoor

/- The program's InstNew: a block as it is at first. -/
namespace Go.Proofs.YtceokbmejnopoaaGreatDoor
open Go Go.RowKit Go.PlainAid
set_option linter.unusedSimpArgs false
set_option linter.unusedVariables false

def OwnI (B : Nat) (w : World) (v : Value) (l : List Int) : Prop := w.ownsRow B 3 1 v l.length (l.map (Value.int .i64))
theorem OwnI.keep {B : Nat} {v : Value} {l : List Int} {w w' : World} (h : OwnI B w v l) (hb : Below w.heap.size w w') : OwnI B w' v l := own_of_block h (fun q hq => hb.block q (World.ownsRow.lt h q hq).2)
theorem own_zeros (w : World) (B m : Nat) (hB : B ≤ w.heap.size) (hm : m ≤ maxLen) : OwnI B (w.alloc (.cells (madeCells #[.int .i64 0] m) 3)) (.slice (some ⟨w.heap.size, 0, none⟩) m m) (List.replicate m 0) := by
  refine ⟨by simp, .inr ⟨w.heap.size, m, madeCells #[.int .i64 0] m, by simp, hB, heap_alloc_new w _, by simp, hm, by rw [size_madeCells]; omega, ?_⟩⟩
  rw [toList_madeCells_one]
  simp

set_option maxHeartbeats 3200000 in
set_option maxRecDepth 100000 in
theorem firstInst_any (B : Nat) (v : BkV) (x : Bk) (w : World) (hB : B ≤ w.heap.size) (hwt : wtBk x ≤ 1048576) (hok : checkM x = 0) (hx : IsBk B w v x) :
    Calls Tryz.prog 59 #[v.val x.name] w fun e w' => ∃ a c, e = .returned (.agg #[.int .i64 0, .slice a (firstVals x).length c]) ∧ FreeI w.heap.size w' a (firstVals x).length (firstVals x) ∧ Below w.heap.size w w' := by
  obtain ⟨p0, p1, p2, p3, p4, p5, p6, p7, p8, p9⟩ := wtBk_parts hwt
  have HX := hidOf hx
  have hno := check_names hok
  have hne := firstVals_eq hno
  have hlc : x.vars.length ≤ (concatM x).length := by
    rw [← names_eq hno]
    have : (varsM x).length = x.vars.length := by simp [varsM]
    rw [names_eq hno]
    unfold concatM
    simp only [List.length_append]
    omega
  have h16 : (concatM x).length ≤ 16 := by rw [← names_eq hno]; exact hno.2.2
  have HN : Hid (∀ W, Below w.heap.size w W → Calls Tryz.prog 45 #[v.val x.name] W fun e w' => ∃ a' c', e = .returned (.slice a' (concatM x).length c') ∧ Below W.heap.size W w') := fun W hb => (namesOf_any B v x W (by have := hb.size; omega) hwt (check_few hok) (HX.out.below (hb.mono hB))).mono fun e w' ⟨u, h1, h2, h3⟩ => by
    obtain ⟨a', c', e', _⟩ := h2.form
    exact ⟨a', c', by rw [h1, e'], h3⟩
  have HQV : Hid (∀ W, Below w.heap.size w W → IsArr 2 QVr B W v.av v.nv x.vars) := fun W hb => (HX.out.below (hb.mono hB)).vars
  have lv := hx.vars.1
  obtain ⟨NN, hNN⟩ : ∃ k, (concatM x).length = k := ⟨_, rfl⟩
  rw [hNN] at HN hlc h16 hne
  obtain ⟨M, hM⟩ : ∃ M, NN - x.vars.length = M := ⟨_, rfl⟩
  rw [hM] at hne
  have HNE := hidOf hne
  have hnv : v.nv ≤ NN := by omega
  have hw : IntKind.i64.wrap ((NN : Int) - v.nv) = M := by rw [IntKind.wrap_i64]; omega
  have hM6 : M ≤ 16 := by omega
  have hl : (firstVals x).length = M + v.nv := by rw [hne]; simp; omega
  rw [hl]
  have HLV := hidOf lv
  obtain ⟨i0, hi, hz0, hz1, hz2⟩ := info_parts infoInt
  have hmk : ∀ u : World, (Instr.makeSlice 43 (.int .i64 (M : Int)) (.int .i64 (M : Int))).run Tryz.prog u =
      .ok (.slice (some ⟨u.heap.size, 0, none⟩) M M) (u.alloc (.cells (madeCells #[.int .i64 0] M) 3)) := fun u => by
    have h := run_make (P := Tryz.prog) u 43 3 i0 (.int .i64 0) Tryz.underlying43 hi hz0 .i64 .i64 (M : Int) (M : Int) (by omega) (Int.le_refl _) (by rw [hz2]; omega) (by omega)
    have e : ((M : Int)).toNat = M := by omega
    rw [e] at h
    simpa [hz1, Value.cells] using h
  clear hNN hM hne hlc hl lv hx HX hwt hok hno p0 p1 p2 p3 p4 p5 p6 p7 p8 p9
  obtain ⟨ai, ni, ci, ao, no, co, av, nv, cv, at_, nt, ct⟩ := v
  obtain ⟨xn, hxn⟩ : ∃ n, x.name = n := ⟨_, rfl⟩
  simp only [BkV.val] at HN HQV HLV hw hnv ⊢
  rw [hxn] at HN ⊢
  clear hxn
  obtain ⟨W0, hW0⟩ : ∃ W, W = ((w.alloc (.cells #[.string xn, .slice ai ni ci, .slice ao no co, .slice av nv cv, .slice at_ nt ct] 34)).alloc (.cells #[.int .i64 0, .slice none 0 0] 45)) := ⟨_, rfl⟩
  have HB0 : Hid (Below w.heap.size w W0) := by show Below _ _ _; rw [hW0]; exact ((Below.refl _ _).alloc (Nat.le_refl _) _).alloc (by simp) _
  have BX0 : Hid (BoxAt w.heap.size [.string xn, .slice ai ni ci, .slice ao no co, .slice av nv cv, .slice at_ nt ct] W0) := by
    show BoxAt _ _ _
    rw [hW0]; exact (boxAt_new w [.string xn, .slice ai ni ci, .slice ao no co, .slice av nv cv, .slice at_ nt ct] 34).below ((Below.refl _ _).alloc (Nat.le_refl _) _)
  have BR0 : Hid (BoxAt (w.heap.size + 1) [.int .i64 0, .slice none 0 0] W0) := by
    have := boxAt_new (w.alloc (.cells #[.string xn, .slice ai ni ci, .slice ao no co, .slice av nv cv, .slice at_ nt ct] 34)) [.int .i64 0, .slice none 0 0] 45
    show BoxAt _ _ _
    rw [hW0]; simpa using this
  have HW0 := hidOf hW0
  go_enter Tryz.func59, Tryz.ntmps59
  go_wp2_with fail
  rw [hW0] at HB0 BX0 BR0
  clear hW0
  go_cut [3] from 6 to 13 (fun s3 wx => ∃ g, s3 = .slice (some ⟨g, 0, none⟩) M M ∧ Hid (OwnI (w.heap.size + 2) wx s3 (List.replicate M 0)) ∧ Hid (Below w.heap.size w wx) ∧ Hid (BoxAt w.heap.size [.string xn, .slice ai ni ci, .slice ao no co, .slice av nv cv, .slice at_ nt ct] wx) ∧ Hid (BoxAt (w.heap.size + 1) [.int .i64 0, .slice none 0 0] wx))
  case first =>
    first
      | go_region_with (go_at_call 45; refine (HN.out _ (by first | exact HB0.out | exact below_drew1 HB0.out | exact drewN HB0.out _)).mono ?_; rintro e w1 ⟨a', c', rfl, b1⟩; have HB1 : Hid (Below w.heap.size w w1) := HB0.out.trans ((undrew b1).mono HB0.out.size); have HX1 := hidOf (BX0.out.below (undrew b1)); have HR1 := hidOf (BR0.out.below (undrew b1)); have hs1 : w.heap.size + 1 < w1.heap.size := HR1.out.1; have ht1 : w.heap.size < w1.heap.size := (by omega); obtain ⟨hc1, hf1⟩ := bcell (undrew b1); clear b1 hf1)
      | fail
    all_goals
      go_wp2_with fail
      go_meet
      case rel => exact ⟨_, rfl, own_zeros _ _ _ (by first | omega | (simp; omega)) (by unfold maxLen; omega), HB1.out.trans ((show Below w1.heap.size w1 _ by go_grown).mono HB1.out.size), HX1.out.below (by go_grown), HR1.out.below (by go_grown)⟩
  case rest =>
    obtain ⟨g0, rfl, HO0, HBc, HXc, HRc⟩ := hcut
    have c3 : wc.cell? ⟨w.heap.size, 3, none⟩ = some (.slice av nv cv) := (HXc.out.2 3 _ rfl).1
    have sx : w.heap.size < wc.heap.size := HXc.out.1
    clear hmk HB0 BX0 BR0 HN hw HW0
    go_wp2_with fail
    clear c3 sx
    go_loopw [3, 17] (fun u i wr => ∃ k : Nat, k ≤ nv ∧ i = .int .i64 k ∧ Hid (OwnI (w.heap.size + 2) wr u (List.replicate M 0 ++ (x.vars.take k).map Vr.num)) ∧ Hid (Below w.heap.size w wr) ∧ Hid (BoxAt (w.heap.size + 1) [.int .i64 0, .slice none 0 0] wr)) (fun _ i _ => nv - (intOf i).toNat)
    case atStart => exact ⟨0, Nat.zero_le _, rfl, by simpa using HO0, HBc, HRc⟩
    case round =>
      obtain ⟨k, hk, rfl, HO, HB, HR⟩ := hrel
      have HOl : Hid ((List.replicate M (0 : Int) ++ (x.vars.take k).map Vr.num).length = M + k) := by
        show _ = _
        have h1 : x.vars.length = nv := HLV.out
        simp; omega
      by_cases hlt : k < nv
      · have hkl : k < x.vars.length := by have h1 : x.vars.length = nv := HLV.out; omega
        obtain ⟨b, off, cs, rfl, hb, hq, hcell⟩ := IsArr.at (HQV.out wr HB.out) hlt hkl
        have hbs := HB.out.size
        have hbr : b < wr.heap.size := by omega
        have HT : Hid ((x.vars.take (k + 1)).map Vr.num = (x.vars.take k).map Vr.num ++ [x.vars[k].num]) := by
          show _ = _
          rw [List.take_succ_eq_append_getElem hkl, List.map_append]; rfl
        obtain ⟨y, hy⟩ : ∃ y, x.vars[k] = y := ⟨_, rfl⟩
        rw [hy] at hq HT
        have hq' : cs = [.string y.name, .int .i64 y.num] := hq
        subst hq'
        have c0 : wr.cell? ⟨b, off + k * 2, none⟩ = some (.string y.name) := hcell 0 _ rfl
        have c1 : wr.cell? ⟨b, off + k * 2 + 1, none⟩ = some (.int .i64 y.num) := hcell 1 _ rfl
        obtain ⟨yn, hyn⟩ : ∃ n, y.name = n := ⟨_, rfl⟩
        obtain ⟨z, hz⟩ : ∃ n, y.num = n := ⟨_, rfl⟩
        rw [hyn] at c0
        rw [hz] at c1 HT
        obtain ⟨L, hL⟩ : ∃ L, List.replicate M (0 : Int) ++ (x.vars.take k).map Vr.num = L := ⟨_, rfl⟩
        have HT2 : Hid (List.replicate M (0 : Int) ++ (x.vars.take (k + 1)).map Vr.num = L ++ [z]) := by show _ = _; rw [HT.out, ← List.append_assoc, hL]
        rw [hL] at HO HOl
        have hLl : L.length = M + k := HOl.out
        obtain ⟨n, hn⟩ : ∃ n, L.length = n := ⟨_, rfl⟩
        have hfo := HO.out
        unfold OwnI at hfo
        obtain ⟨ua, uc, eu, huc, _⟩ := own_freeI hfo
        rw [hn] at eu huc hfo
        subst eu
        have HOW : Hid (wr.ownsRow (w.heap.size + 2) 3 1 (.slice ua n uc) n (L.map (Value.int .i64))) := hfo
        clear hfo
        have HLn := hidOf hn
        have hn6 : n ≤ 1048576 := by omega
        have hws2 : w.heap.size + 2 ≤ wr.heap.size := by have := HR.out.1; omega
        clear hcell hq hy hyn hz hL hLl hn HT
        go_wp2_with (at_builtin; (refine wpList_append_own _ rfl (.tmp 21) (.tmp 24) 43 rfl (w.heap.size + 2) 3 i0 (.int .i64 0) 1 8 Tryz.underlying43 hi hz0 hz1 hz2 rfl (by decide) _ n (L.map (Value.int .i64)) rfl (by exact ((HOW.out.alloc _).alloc _)) ⟨wr.heap.size + 1, 0, none⟩ 1 1 [.int .i64 z] rfl rfl (by exact one_new' _ _ _ _ (by simp)) (by intro u hu; simp at hu; subst hu; rfl) (by unfold maxLen; omega) (by omega) (by simp; omega) ?_))
        intro v' w2 hown' hgrow' _
        have HG : Hid (Below w.heap.size w w2) := ((HB.out.alloc hbs _).alloc (by simp; omega) _).grown hgrow' (by simp; omega) (fun q hq => by have := (World.ownsRow.lt HOW.out q hq).1; omega)
        have HR2 : Hid (BoxAt (w.heap.size + 1) [.int .i64 0, .slice none 0 0] w2) := by
          have hg2 : Below (w.heap.size + 2) wr w2 := (((Below.refl _ _).alloc hws2 _).alloc (by simp; omega) _).grown hgrow' (by simp; omega) (fun q hq => (World.ownsRow.lt HOW.out q hq).1)
          exact ⟨by have := hg2.size; have := HR.out.1; omega, fun j u hu => ⟨(hg2.cell (p := ⟨w.heap.size + 1, j, none⟩) (by simp)).trans (HR.out.2 j u hu).1, (hg2.frozen (p := ⟨w.heap.size + 1, j, none⟩) (by simp)).trans (HR.out.2 j u hu).2⟩⟩
        have HO2 : Hid (OwnI (w.heap.size + 2) w2 v' (L ++ [z])) := by
          show World.ownsRow _ _ _ _ _ _ _
          rw [List.length_append, HLn.out, List.map_append]
          exact hown'
        clear hown' hgrow'
        go_wp2_with fail
        go_roundw
        case rel => exact ⟨k + 1, by omega, by go_num, by show OwnI _ _ _ _; rw [HT2.out]; exact HO2.out, HG, HR2⟩
        case measure => simp [intOf]; omega
      · have : k = nv := by omega
        subst this
        have h1 : x.vars.length = k := HLV.out
        have h2 := HO.out
        rw [List.take_of_length_le (by omega), ← HNE.out] at h2
        obtain ⟨a, c, eu, _, hf⟩ := own_freeI h2
        have e2 : (firstVals x).length = M + k := by rw [HNE.out]; simp; omega
        rw [e2] at eu hf
        subst eu
        clear h1 h2 e2
        have d0 := (HR.out.2 0 _ rfl).1
        have d1 := (HR.out.2 1 _ rfl).1
        have g0' := (HR.out.2 0 _ rfl).2
        have g1' := (HR.out.2 1 _ rfl).2
        have sr := HR.out.1
        have HFF := hidOf hf
        have k0 : (wr.setCell ⟨w.heap.size + 1, 0, none⟩ (.int .i64 0)).cell? ⟨w.heap.size + 1, 0, none⟩ = some (.int .i64 0) := World.cell?_setCell_same _ _ _ d0
        have k1 : ((wr.setCell ⟨w.heap.size + 1, 0, none⟩ (.int .i64 0)).setCell ⟨w.heap.size + 1, 1, none⟩ (.slice a (M + k) c)).cell? ⟨w.heap.size + 1, 1, none⟩ = some (.slice a (M + k) c) := World.cell?_setCell_same _ _ _ (by rw [setCell_ne _ _ _ _ _ (by omega)]; exact d1)
        clear hf
        go_wp2_with fail
        refine bodyPost_ret (by simp [results, Tryz.results59, go_sem, k0, k1]; try rfl) rfl ?_
        have hm : Mv (w.heap.size + 1) wr ((wr.setCell ⟨w.heap.size + 1, 0, none⟩ (.int .i64 0)).setCell ⟨w.heap.size + 1, 1, none⟩ (.slice a (M + k) c)) := ((Mv.refl _ _).cell _ _).cell _ _
        exact ⟨a, c, rfl, (HFF.out.mvR (hm.range (L := w.heap.size + 1) (H := w.heap.size + 2) (Nat.le_refl _) (by omega)) (Nat.le_refl _)).low (by omega), (HB.out.setCell (by simp) _).setCell (by simp) _⟩
end Go.Proofs.YtceokbmejnopoaaGreatDoor

/- The model's l4New: a block as it is at first. -/
namespace Go.Proofs.YtceokbmejnopoaaGreatDoor
open Go Go.RowKit Go.PlainAid
set_option linter.unusedSimpArgs false
set_option linter.unusedVariables false

theorem strs_set {B p : Nat} {w : World} {a : Option Addr} {n j : Nat} {v : Value} {l : List ByteArray} (h : IsStrs B w a n l) (hne : ∀ b o, a = some ⟨b, o, none⟩ → b ≠ p) : IsStrs B (w.setCell ⟨p, j, none⟩ v) a n l := by
  obtain ⟨h1, h2⟩ := h
  refine ⟨h1, ?_⟩
  rcases h2 with h2 | ⟨b, off, e, hlt, hc⟩
  · exact .inl h2
  · refine .inr ⟨b, off, e, hlt, fun i hi => ?_⟩
    rw [World.cell?_setCell_other _ _ _ _ (by intro hh; injection hh with h3 _; exact hne b off e h3.symm)]
    exact hc i hi

set_option maxHeartbeats 3200000 in
set_option maxRecDepth 100000 in
theorem l4New_any (B : Nat) (v : BkV) (x : Bk) (w : World) (hB : B ≤ w.heap.size) (hwt : wtBk x ≤ 1048576) (hok : checkM x = 0) (hx : IsBk B w v x) :
    Calls Tryz.prog 58 #[v.val x.name] w fun e w' => ∃ a c, e = .returned (.agg #[.int .i64 0, .slice a (firstVals x).length c]) ∧ FreeI w.heap.size w' a (firstVals x).length (firstVals x) ∧ Below w.heap.size w w' := by
  obtain ⟨p0, p1, p2, p3, p4, p5, p6, p7, p8, p9⟩ := wtBk_parts hwt
  have HX := hidOf hx
  have h16 : (namesM x).length ≤ 16 := (check_names hok).2.2
  have hvl : (varsM x).length ≤ 1048576 := by simp [varsM]; omega
  have HSM := hidOf (names_small hwt)
  have HN : Hid (∀ W, Below w.heap.size w W → Calls Tryz.prog 40 #[v.val x.name] W fun e w' => ∃ u, e = .returned u ∧ OwnS W.heap.size w' u (namesM x) ∧ Below W.heap.size W w') := fun W hb => l3Names_any B v x W (by have := hb.size; omega) hwt (HX.out.below (hb.mono hB))
  have HV : Hid (∀ W, Below w.heap.size w W → Calls Tryz.prog 79 #[v.val x.name] W fun e w' => ∃ u, e = .returned u ∧ OwnS W.heap.size w' u (varsM x) ∧ Below W.heap.size W w') := fun W hb => l3Vars_any B v x W (by have := hb.size; omega) (by have := hx.vars.1; omega) (HX.out.below (hb.mono hB))
  have HFV : Hid (∀ y, y.size ≤ 1048576 → ∀ W B' a n c, OwnS B' W (.slice a n c) (varsM x) → Calls Tryz.prog 53 #[.slice a n c, .string y] W fun e w' => e = .returned (.int .i64 (findM (varsM x) y)) ∧ w' = W) := fun y hy W B' => findOwn_any (varsM x) y hvl (vars_small p6) hy B' W
  have HQV : Hid (∀ W, Below w.heap.size w W → IsArr 2 QVr B W v.av v.nv x.vars) := fun W hb => (HX.out.below (hb.mono hB)).vars
  have lv := hx.vars.1
  have HFL := hidOf (fun y => findM_lt (varsM x) y)
  have HVL : Hid ((varsM x).length = v.nv) := by show _ = _; simp [varsM]; exact lv
  have HLV := hidOf lv
  have hnv : v.nv ≤ 1048576 := by omega
  have hfl : (firstVals x).length = (namesM x).length := by simp [firstVals]
  have HFA : Hid (∀ k, (h : k < (namesM x).length) → (firstVals x).take (k + 1) = (firstVals x).take k ++ [firstV x (namesM x)[k]]) := fun k h => by
    rw [List.take_succ_eq_append_getElem (by rw [hfl]; exact h)]
    simp [firstVals]
  have HFV1 : Hid (∀ y, firstV x y = if findM (varsM x) y < 0 then 0 else (x.vars.getD (findM (varsM x) y).toNat ⟨noName, 0⟩).num) := fun y => rfl
  obtain ⟨FV, hFV⟩ : ∃ l, firstVals x = l := ⟨_, rfl⟩
  obtain ⟨NM, hNM⟩ : ∃ l, namesM x = l := ⟨_, rfl⟩
  obtain ⟨VM, hVM⟩ : ∃ l, varsM x = l := ⟨_, rfl⟩
  rw [hNM] at HN HSM h16 hfl HFA
  rw [hFV] at hfl HFA ⊢
  rw [hVM] at HV HFV HFL HVL HFV1
  obtain ⟨n, hn⟩ : ∃ n, NM.length = n := ⟨_, rfl⟩
  rw [hfl, hn]
  rw [hn] at h16
  have HNL := hidOf hn
  have HFLn := hidOf hfl
  obtain ⟨i0, hi, hz0, hz1, hz2⟩ := info_parts infoInt
  clear hvl hfl hFV hNM hVM hn lv hx HX hwt hok p0 p1 p2 p3 p4 p5 p6 p7 p8 p9
  obtain ⟨ai, ni, ci, ao, no, co, av, nv, cv, at_, nt, ct⟩ := v
  obtain ⟨xn, hxn⟩ : ∃ n, x.name = n := ⟨_, rfl⟩
  simp only [BkV.val] at HN HV HQV HVL HLV hnv ⊢
  rw [hxn] at HN HV ⊢
  clear hxn
  have HB0 : Hid (Below w.heap.size w (((w.alloc (.cells #[.string xn, .slice ai ni ci, .slice ao no co, .slice av nv cv, .slice at_ nt ct] 34)).alloc (.cells #[.int .i64 0, .slice none 0 0] 45)).alloc (.cells #[.int .i64 0, .slice none 0 0] 45))) := (((Below.refl _ _).alloc (Nat.le_refl _) _).alloc (by simp) _).alloc (by simp; omega) _
  have BX0 : Hid (BoxAt w.heap.size [.string xn, .slice ai ni ci, .slice ao no co, .slice av nv cv, .slice at_ nt ct] (((w.alloc (.cells #[.string xn, .slice ai ni ci, .slice ao no co, .slice av nv cv, .slice at_ nt ct] 34)).alloc (.cells #[.int .i64 0, .slice none 0 0] 45)).alloc (.cells #[.int .i64 0, .slice none 0 0] 45))) := (boxAt_new w [.string xn, .slice ai ni ci, .slice ao no co, .slice av nv cv, .slice at_ nt ct] 34).below (((Below.refl _ _).alloc (Nat.le_refl _) _).alloc (by simp) _)
  have BR0 : Hid (BoxAt (w.heap.size + 1) [.int .i64 0, .slice none 0 0] (((w.alloc (.cells #[.string xn, .slice ai ni ci, .slice ao no co, .slice av nv cv, .slice at_ nt ct] 34)).alloc (.cells #[.int .i64 0, .slice none 0 0] 45)).alloc (.cells #[.int .i64 0, .slice none 0 0] 45))) := by
    have := (boxAt_new (w.alloc (.cells #[.string xn, .slice ai ni ci, .slice ao no co, .slice av nv cv, .slice at_ nt ct] 34)) [.int .i64 0, .slice none 0 0] 45).below ((Below.refl _ _).alloc (Nat.le_refl _) (.cells #[.int .i64 0, .slice none 0 0] 45))
    show BoxAt _ _ _
    simpa using this
  have BI0 : Hid (BoxAt (w.heap.size + 2) [.int .i64 0, .slice none 0 0] (((w.alloc (.cells #[.string xn, .slice ai ni ci, .slice ao no co, .slice av nv cv, .slice at_ nt ct] 34)).alloc (.cells #[.int .i64 0, .slice none 0 0] 45)).alloc (.cells #[.int .i64 0, .slice none 0 0] 45))) := by
    have := boxAt_new ((w.alloc (.cells #[.string xn, .slice ai ni ci, .slice ao no co, .slice av nv cv, .slice at_ nt ct] 34)).alloc (.cells #[.int .i64 0, .slice none 0 0] 45)) [.int .i64 0, .slice none 0 0] 45
    show BoxAt _ _ _
    simpa using this
  have hz3 : Hid ((((w.alloc (.cells #[.string xn, .slice ai ni ci, .slice ao no co, .slice av nv cv, .slice at_ nt ct] 34)).alloc (.cells #[.int .i64 0, .slice none 0 0] 45)).alloc (.cells #[.int .i64 0, .slice none 0 0] 45)).heap.size = w.heap.size + 3) := by show _ = _; simp
  go_enter Tryz.func58, Tryz.ntmps58
  go_wp2_with fail
  refine (HN.out _ HB0.out).mono ?_
  rintro e w1 ⟨u, rfl, o1, b1⟩
  have HB1 : Hid (Below w.heap.size w w1) := HB0.out.trans (b1.mono HB0.out.size)
  have BX1 := hidOf (BX0.out.below b1)
  have BR1 := hidOf (BR0.out.below b1)
  have BI1 := hidOf (BI0.out.below b1)
  have hs3 : Hid (w.heap.size + 3 ≤ w1.heap.size) := by have := b1.size; have := hz3.out; show _ ≤ _; omega
  obtain ⟨na, nc, eu, hnc, hns, hown⟩ := o1.form
  have hna : Hid (∀ b o, na = some ⟨b, o, none⟩ → w.heap.size + 3 ≤ b) := fun b o e => by
    have h1 := (World.ownsRow.lt o1 b (hown b o e)).1
    have := hz3.out
    omega
  rw [HNL.out] at eu hnc hns
  have HNS := hidOf hns
  subst eu
  clear o1 b1 hns hown HB0 BX0 BR0 BI0 HN hnc
  go_wp2_with fail
  go_loopw [5] (fun i wr => ∃ k : Nat, k ≤ n ∧ i = .int .i64 k ∧ ∃ u, Hid (OwnI w1.heap.size wr u (FV.take k)) ∧ Hid (BoxAt (w.heap.size + 2) [.int .i64 0, u] wr) ∧ Hid (BoxAt w.heap.size [.string xn, .slice ai ni ci, .slice ao no co, .slice av nv cv, .slice at_ nt ct] wr) ∧ Hid (BoxAt (w.heap.size + 1) [.int .i64 0, .slice none 0 0] wr) ∧ Hid (IsStrs w1.heap.size wr na n NM) ∧ Hid (Below w.heap.size w wr) ∧ Hid (w1.heap.size ≤ wr.heap.size)) (fun i _ => n - (intOf i).toNat)
  case atStart => exact ⟨0, Nat.zero_le _, rfl, .slice none 0 0, ⟨rfl, .inl ⟨rfl, rfl⟩⟩, BI1, BX1, BR1, HNS, HB1, Nat.le_refl _⟩
  case round =>
    obtain ⟨k, hk, rfl, u, HO, HI, HXB, HR, HS, HB, HSZ⟩ := hrel
    have HSn : Hid (w.heap.size + 3 ≤ wr.heap.size) := Nat.le_trans hs3.out HSZ.out
    by_cases hlt : k < n
    · have hkl : k < NM.length := by have h1 : NM.length = n := HNL.out; omega
      have h2 := HS.out.2
      rcases h2 with h0 | ⟨nb, noff, ena, hnb, hnc⟩
      · omega
      subst ena
      have e0 := hnc k hkl
      have hsm := HSM.out _ (List.getElem_mem hkl)
      have HT := hidOf (HFA.out k hkl)
      obtain ⟨y, hy⟩ : ∃ y, NM[k] = y := ⟨_, rfl⟩
      rw [hy] at hsm HT e0
      have e0' : wr.cell? ⟨nb, noff + k, none⟩ = some (.string y) := e0
      have HFF := hidOf (HFV.out y hsm)
      have hFy := HFL.out y
      have hfv := HFV1.out y
      obtain ⟨F, hF⟩ : ∃ F, findM VM y = F := ⟨_, rfl⟩
      rw [hF] at HFF hFy hfv
      have hFb : F < nv := by have := HVL.out; omega
      have hnbr : nb < wr.heap.size := by have := HSZ.out; omega
      clear hnc e0 hy hF hsm
      have c0 : wr.cell? ⟨w.heap.size, 0, none⟩ = some (.string xn) := (HXB.out.2 0 _ rfl).1
      have c1 : wr.cell? ⟨w.heap.size, 1, none⟩ = some (.slice ai ni ci) := (HXB.out.2 1 _ rfl).1
      have c2 : wr.cell? ⟨w.heap.size, 2, none⟩ = some (.slice ao no co) := (HXB.out.2 2 _ rfl).1
      have c3 : wr.cell? ⟨w.heap.size, 3, none⟩ = some (.slice av nv cv) := (HXB.out.2 3 _ rfl).1
      have c4 : wr.cell? ⟨w.heap.size, 4, none⟩ = some (.slice at_ nt ct) := (HXB.out.2 4 _ rfl).1
      have sx : w.heap.size < wr.heap.size := HXB.out.1
      go_wp2_with fail
      go_region_held3 (fun w' => w'.cell? ⟨w.heap.size, 0, none⟩ = some (.string xn) ∧ w'.cell? ⟨w.heap.size, 1, none⟩ = some (.slice ai ni ci) ∧ w'.cell? ⟨w.heap.size, 2, none⟩ = some (.slice ao no co) ∧ w'.cell? ⟨w.heap.size, 3, none⟩ = some (.slice av nv cv) ∧ w'.cell? ⟨w.heap.size, 4, none⟩ = some (.slice at_ nt ct) ∧ w'.cell? ⟨nb, noff + k, none⟩ = some (.string y)) (simp [go_sem, *])
        (first
         | (go_at_call 79; refine (HV.out _ (by first | exact HB.out | exact below_drew1 HB.out | exact drewN HB.out _)).mono ?_; rintro e w2 ⟨u2, rfl, o2, b2⟩; obtain ⟨a2, k2, e2, _⟩ := o2.form; subst e2; replace b2 : Below wr.heap.size wr w2 := undrew b2; have HO2 := hidOf o2; have HB2 : Hid (Below w.heap.size w w2) := HB.out.trans (b2.mono HB.out.size); have HR2 := hidOf (HR.out.below b2); have HI2 := hidOf (HI.out.below b2); have HX2 := hidOf (HXB.out.below b2); have HW2 := hidOf (HO.out.keep b2); have HS2 := hidOf (HS.out.below (b2.mono HSZ.out)); have HSZ2 : Hid (w1.heap.size ≤ w2.heap.size) := Nat.le_trans HSZ.out b2.size; have q1 := HX2.out.1; have q2 : nb < w2.heap.size := Nat.lt_of_lt_of_le hnbr b2.size; obtain ⟨hc2, hf2⟩ := bcell b2; clear o2 b2 hf2)
         | (go_at_call 53; refine (HFF.out _ _ _ _ _ HO2.out).mono ?_; rintro e w' ⟨rfl, hw'⟩; rw [hw']; clear hw' w'))
      clear c0 c1 c2 c3 c4 sx
      clear e0' hc2 q1 q2 HO2
      obtain ⟨ua, uc, eu, huc, huf⟩ := own_freeI (show w2.ownsRow _ _ _ _ _ _ from HW2.out)
      obtain ⟨m, hm⟩ : ∃ m, (FV.take k).length = m := ⟨_, rfl⟩
      have hmk : m = k := by have h1 : FV.length = NM.length := HFLn.out; rw [← hm]; simp; omega
      rw [hm] at eu
      subst eu
      have HOW : Hid (w2.ownsRow w1.heap.size 3 1 (.slice ua m uc) m ((FV.take k).map (Value.int .i64))) := by
        have := HW2.out
        unfold OwnI at this
        rw [hm] at this
        exact this
      have HLm := hidOf hm
      have hm6 : m ≤ 16 := by omega
      clear hm hmk huc huf HW2
      have c0 : w2.cell? ⟨w.heap.size, 0, none⟩ = some (.string xn) := (HX2.out.2 0 _ rfl).1
      have c1 : w2.cell? ⟨w.heap.size, 1, none⟩ = some (.slice ai ni ci) := (HX2.out.2 1 _ rfl).1
      have c2 : w2.cell? ⟨w.heap.size, 2, none⟩ = some (.slice ao no co) := (HX2.out.2 2 _ rfl).1
      have c3 : w2.cell? ⟨w.heap.size, 3, none⟩ = some (.slice av nv cv) := (HX2.out.2 3 _ rfl).1
      have c4 : w2.cell? ⟨w.heap.size, 4, none⟩ = some (.slice at_ nt ct) := (HX2.out.2 4 _ rfl).1
      have sx : w.heap.size < w2.heap.size := HX2.out.1
      have i0' : w2.cell? ⟨w.heap.size + 2, 0, none⟩ = some (.int .i64 0) := (HI2.out.2 0 _ rfl).1
      have i1 : w2.cell? ⟨w.heap.size + 2, 1, none⟩ = some (.slice ua m uc) := (HI2.out.2 1 _ rfl).1
      have f1 : w2.frozen? ⟨w.heap.size + 2, 1, none⟩ = false := (HI2.out.2 1 _ rfl).2
      have si : w.heap.size + 2 < w2.heap.size := HI2.out.1
      have hB1 : w1.heap.size ≤ w2.heap.size := HSZ2.out
      have h3 := hs3.out
      by_cases hF0 : F < 0
      · have hFd : decide (0 ≤ F) = false := decide_eq_false (by omega)
        rw [if_pos hF0] at hfv
        rw [hfv] at HT
        clear hfv
        go_wp2_with (at_builtin; (refine wpList_append_own _ rfl (.tmp 33) (.tmp 35) 43 rfl w1.heap.size 3 i0 (.int .i64 0) 1 8 Tryz.underlying43 hi hz0 hz1 hz2 rfl (by decide) _ m ((FV.take k).map (Value.int .i64)) rfl (by exact (HOW.out.alloc _)) ⟨w2.heap.size, 0, none⟩ 1 1 [.int .i64 0] rfl rfl (by exact one_new' _ _ _ _ (by simp)) (by intro u hu; simp at hu; subst hu; rfl) (by unfold maxLen; omega) (by omega) (by simp; omega) ?_))
        intro v' w3 hown' hgrow' _
        have hg : Below w1.heap.size w2 w3 := ((Below.refl _ _).alloc hB1 _).grown hgrow' (by simp; omega) (fun q hq => (World.ownsRow.lt HOW.out q hq).1)
        have HB3 : Hid (Below w.heap.size w w3) := HB2.out.trans (hg.mono (by omega))
        have HO3 : Hid (OwnI w1.heap.size w3 v' (FV.take (k + 1))) := by
          show World.ownsRow _ _ _ _ _ _ _
          rw [HT.out, List.length_append, HLm.out, List.map_append, List.map_take]
          exact hown'
        obtain ⟨va, vc, ev, _, _⟩ := own_freeI (show w3.ownsRow _ _ _ _ _ _ from HO3.out)
        obtain ⟨m', hm'⟩ : ∃ m', (FV.take (k + 1)).length = m' := ⟨_, rfl⟩
        rw [hm'] at ev
        clear hm'
        subst ev
        have HI3 : Hid (BoxAt (w.heap.size + 2) [.int .i64 0, .slice ua m uc] w3) := ⟨by have := hg.size; omega, fun j u hu => ⟨(hg.cell (p := ⟨w.heap.size + 2, j, none⟩) (by simp; omega)).trans (HI2.out.2 j u hu).1, (hg.frozen (p := ⟨w.heap.size + 2, j, none⟩) (by simp; omega)).trans (HI2.out.2 j u hu).2⟩⟩
        have HX3 : Hid (BoxAt w.heap.size [.string xn, .slice ai ni ci, .slice ao no co, .slice av nv cv, .slice at_ nt ct] w3) := ⟨by have := hg.size; omega, fun j u hu => ⟨(hg.cell (p := ⟨w.heap.size, j, none⟩) (by simp; omega)).trans (HX2.out.2 j u hu).1, (hg.frozen (p := ⟨w.heap.size, j, none⟩) (by simp; omega)).trans (HX2.out.2 j u hu).2⟩⟩
        have HR3 : Hid (BoxAt (w.heap.size + 1) [.int .i64 0, .slice none 0 0] w3) := ⟨by have := hg.size; omega, fun j u hu => ⟨(hg.cell (p := ⟨w.heap.size + 1, j, none⟩) (by simp; omega)).trans (HR2.out.2 j u hu).1, (hg.frozen (p := ⟨w.heap.size + 1, j, none⟩) (by simp; omega)).trans (HR2.out.2 j u hu).2⟩⟩
        have HS3 := hidOf (HS2.out.below hg)
        have HSZ3 : Hid (w1.heap.size ≤ w3.heap.size) := Nat.le_trans HSZ2.out hg.size
        have j1 := (HI3.out.2 1 _ rfl).1
        have jf1 := (HI3.out.2 1 _ rfl).2
        have hs3w : w.heap.size + 2 < w3.heap.size := HI3.out.1
        have HRL : Hid (∀ q, (Value.slice va m' vc).ownBlock = some q → q ≠ w.heap.size + 2) := fun q hq => by have := (World.ownsRow.lt HO3.out q hq).1; omega
        clear hown' hgrow' hg i0' i1 f1 si c0 c1 c2 c3 c4 sx
        go_wp2_with fail
        go_roundw
        case rel =>
          have hmv : Mv (w.heap.size + 2) w3 (w3.setCell ⟨w.heap.size + 2, 1, none⟩ (.slice va m' vc)) := (Mv.refl _ _).cell _ _
          refine ⟨k + 1, by omega, by go_num, .slice va m' vc, own_of_block HO3.out (fun q hq => hmv.block q (World.ownsRow.lt HO3.out q hq).2 (HRL.out q hq)), HI3.out.set 1 (.slice va m' vc), HX3.out.mv hmv (by omega), HR3.out.mv hmv (by omega), strs_set HS3.out (fun b o e => by have := hna.out b o e; omega), HB3.out.setCell (by show _ ≤ _ + 1 + 1; omega) _, ?_⟩
          show _ ≤ _
          simpa [World.setCell] using HSZ3.out
        case measure => simp [intOf]; omega
      · have hFd : decide (0 ≤ F) = true := decide_eq_true (by omega)
        rw [if_neg hF0] at hfv
        obtain ⟨q, rfl⟩ : ∃ q : Nat, F = q := ⟨F.toNat, by omega⟩
        have hql : q < x.vars.length := by have h1 : x.vars.length = nv := HLV.out; omega
        obtain ⟨b, off, cs, rfl, hb, hq, hcell⟩ := IsArr.at (HQV.out w2 HB2.out) (show q < nv by omega) hql
        have hbr : b < w2.heap.size := by have := HB2.out.size; omega
        have egv : (x.vars.getD (q : Int).toNat ⟨noName, 0⟩).num = x.vars[q].num := by simp [List.getD_eq_getElem?_getD, hql]
        rw [egv] at hfv
        obtain ⟨yv, hyv⟩ : ∃ yv, x.vars[q] = yv := ⟨_, rfl⟩
        rw [hyv] at hq hfv
        have hq' : cs = [.string yv.name, .int .i64 yv.num] := hq
        subst hq'
        have g1 : w2.cell? ⟨b, off + q * 2 + 1, none⟩ = some (.int .i64 yv.num) := hcell 1 _ rfl
        obtain ⟨z, hz⟩ : ∃ z, yv.num = z := ⟨_, rfl⟩
        rw [hz] at g1 hfv
        rw [hfv] at HT
        clear hcell hq hyv hz hfv egv
        go_wp2_with (at_builtin; (refine wpList_append_own _ rfl (.tmp 33) (.tmp 35) 43 rfl w1.heap.size 3 i0 (.int .i64 0) 1 8 Tryz.underlying43 hi hz0 hz1 hz2 rfl (by decide) _ m ((FV.take k).map (Value.int .i64)) rfl (by exact (HOW.out.alloc _)) ⟨w2.heap.size, 0, none⟩ 1 1 [.int .i64 z] rfl rfl (by exact one_new' _ _ _ _ (by simp)) (by intro u hu; simp at hu; subst hu; rfl) (by unfold maxLen; omega) (by omega) (by simp; omega) ?_))
        intro v' w3 hown' hgrow' _
        have hg : Below w1.heap.size w2 w3 := ((Below.refl _ _).alloc hB1 _).grown hgrow' (by simp; omega) (fun q hq => (World.ownsRow.lt HOW.out q hq).1)
        have HB3 : Hid (Below w.heap.size w w3) := HB2.out.trans (hg.mono (by omega))
        have HO3 : Hid (OwnI w1.heap.size w3 v' (FV.take (k + 1))) := by
          show World.ownsRow _ _ _ _ _ _ _
          rw [HT.out, List.length_append, HLm.out, List.map_append, List.map_take]
          exact hown'
        obtain ⟨va, vc, ev, _, _⟩ := own_freeI (show w3.ownsRow _ _ _ _ _ _ from HO3.out)
        obtain ⟨m', hm'⟩ : ∃ m', (FV.take (k + 1)).length = m' := ⟨_, rfl⟩
        rw [hm'] at ev
        clear hm'
        subst ev
        have HI3 : Hid (BoxAt (w.heap.size + 2) [.int .i64 0, .slice ua m uc] w3) := ⟨by have := hg.size; omega, fun j u hu => ⟨(hg.cell (p := ⟨w.heap.size + 2, j, none⟩) (by simp; omega)).trans (HI2.out.2 j u hu).1, (hg.frozen (p := ⟨w.heap.size + 2, j, none⟩) (by simp; omega)).trans (HI2.out.2 j u hu).2⟩⟩
        have HX3 : Hid (BoxAt w.heap.size [.string xn, .slice ai ni ci, .slice ao no co, .slice (some ⟨b, off, none⟩) nv cv, .slice at_ nt ct] w3) := ⟨by have := hg.size; omega, fun j u hu => ⟨(hg.cell (p := ⟨w.heap.size, j, none⟩) (by simp; omega)).trans (HX2.out.2 j u hu).1, (hg.frozen (p := ⟨w.heap.size, j, none⟩) (by simp; omega)).trans (HX2.out.2 j u hu).2⟩⟩
        have HR3 : Hid (BoxAt (w.heap.size + 1) [.int .i64 0, .slice none 0 0] w3) := ⟨by have := hg.size; omega, fun j u hu => ⟨(hg.cell (p := ⟨w.heap.size + 1, j, none⟩) (by simp; omega)).trans (HR2.out.2 j u hu).1, (hg.frozen (p := ⟨w.heap.size + 1, j, none⟩) (by simp; omega)).trans (HR2.out.2 j u hu).2⟩⟩
        have HS3 := hidOf (HS2.out.below hg)
        have HSZ3 : Hid (w1.heap.size ≤ w3.heap.size) := Nat.le_trans HSZ2.out hg.size
        have j1 := (HI3.out.2 1 _ rfl).1
        have jf1 := (HI3.out.2 1 _ rfl).2
        have hs3w : w.heap.size + 2 < w3.heap.size := HI3.out.1
        have HRL : Hid (∀ q, (Value.slice va m' vc).ownBlock = some q → q ≠ w.heap.size + 2) := fun q hq => by have := (World.ownsRow.lt HO3.out q hq).1; omega
        clear hown' hgrow' hg i0' i1 f1 si c0 c1 c2 c3 c4 sx
        go_wp2_with fail
        go_roundw
        case rel =>
          have hmv : Mv (w.heap.size + 2) w3 (w3.setCell ⟨w.heap.size + 2, 1, none⟩ (.slice va m' vc)) := (Mv.refl _ _).cell _ _
          refine ⟨k + 1, by omega, by go_num, .slice va m' vc, own_of_block HO3.out (fun q hq => hmv.block q (World.ownsRow.lt HO3.out q hq).2 (HRL.out q hq)), HI3.out.set 1 (.slice va m' vc), HX3.out.mv hmv (by omega), HR3.out.mv hmv (by omega), strs_set HS3.out (fun b o e => by have := hna.out b o e; omega), HB3.out.setCell (by show _ ≤ _ + 1 + 1; omega) _, ?_⟩
          show _ ≤ _
          simpa [World.setCell] using HSZ3.out
        case measure => simp [intOf]; omega
    · have : k = n := by omega
      subst this
      have h1 : FV.length = NM.length := HFLn.out
      have h2 : NM.length = k := HNL.out
      have h3 := HO.out
      rw [List.take_of_length_le (by omega)] at h3
      obtain ⟨a, c, eu, _, hf⟩ := own_freeI (show wr.ownsRow _ _ _ _ _ _ from h3)
      rw [h1, h2] at eu hf
      subst eu
      have i0' : wr.cell? ⟨w.heap.size + 2, 0, none⟩ = some (.int .i64 0) := (HI.out.2 0 _ rfl).1
      have i1 : wr.cell? ⟨w.heap.size + 2, 1, none⟩ = some (.slice a k c) := (HI.out.2 1 _ rfl).1
      have si : w.heap.size + 2 < wr.heap.size := HI.out.1
      have d0 := (HR.out.2 0 _ rfl).1
      have d1 := (HR.out.2 1 _ rfl).1
      have g0' := (HR.out.2 0 _ rfl).2
      have g1' := (HR.out.2 1 _ rfl).2
      have sr := HR.out.1
      have HFF := hidOf hf
      have hs3' := hs3.out
      have k0 : (wr.setCell ⟨w.heap.size + 1, 0, none⟩ (.int .i64 0)).cell? ⟨w.heap.size + 1, 0, none⟩ = some (.int .i64 0) := World.cell?_setCell_same _ _ _ d0
      have k1 : ((wr.setCell ⟨w.heap.size + 1, 0, none⟩ (.int .i64 0)).setCell ⟨w.heap.size + 1, 1, none⟩ (.slice a k c)).cell? ⟨w.heap.size + 1, 1, none⟩ = some (.slice a k c) := World.cell?_setCell_same _ _ _ (by rw [setCell_ne _ _ _ _ _ (by omega)]; exact d1)
      clear hf h3
      go_wp2_with fail
      refine bodyPost_ret (by simp [results, Tryz.results58, go_sem, k0, k1]; try rfl) rfl ?_
      have hm : Mv (w.heap.size + 1) wr ((wr.setCell ⟨w.heap.size + 1, 0, none⟩ (.int .i64 0)).setCell ⟨w.heap.size + 1, 1, none⟩ (.slice a k c)) := ((Mv.refl _ _).cell _ _).cell _ _
      exact ⟨a, c, rfl, (HFF.out.mvR (hm.range (L := w.heap.size + 1) (H := w.heap.size + 2) (Nat.le_refl _) (by omega)) (by omega)).low (by omega), (HB.out.setCell (by simp) _).setCell (by simp) _⟩
end Go.Proofs.YtceokbmejnopoaaGreatDoor

/- InstNew, by the model and by the program. -/
namespace Go.Proofs.YtceokbmejnopoaaGreatDoor
open Go Go.RowKit Go.PlainAid
set_option linter.unusedSimpArgs false
set_option linter.unusedVariables false

def newM (x : Bk) : List Int := if checkM x = 0 then firstVals x else []
theorem newM_few {x : Bk} (h : wtBk x ≤ 1048576) : (newM x).length ≤ 1048576 := by
  unfold newM
  split
  · rename_i hz
    have := (check_names hz).2.2
    simp [firstVals]
    omega
  · simp

set_option maxHeartbeats 800000 in
set_option maxRecDepth 100000 in
theorem specInstNew_any (B : Nat) (v : BkV) (x : Bk) (w : World) (hB : B ≤ w.heap.size) (hwt : wtBk x ≤ 1048576) (hx : IsBk B w v x) :
    Calls Tryz.prog 19 #[v.val x.name] w fun e w' => ∃ a c, e = .returned (.agg #[.int .i64 0, .slice a (newM x).length c]) ∧ FreeI w.heap.size w' a (newM x).length (newM x) ∧ Below w.heap.size w w' := by
  have HX := hidOf hx
  have HC : Hid (∀ W, Below w.heap.size w W → Calls Tryz.prog 39 #[v.val x.name] W fun e w' => e = .returned (.int .i64 (checkM x)) ∧ Below W.heap.size W w') := fun W hb => l3Check_any B v x W (by have := hb.size; omega) hwt (HX.out.below (hb.mono hB))
  have HN : Hid (checkM x = 0 → ∀ W, Below w.heap.size w W → Calls Tryz.prog 58 #[v.val x.name] W fun e w' => ∃ a c, e = .returned (.agg #[.int .i64 0, .slice a (newM x).length c]) ∧ FreeI W.heap.size w' a (newM x).length (newM x) ∧ Below W.heap.size W w') := fun hz W hb => by
    have e : newM x = firstVals x := by unfold newM; rw [if_pos hz]
    rw [e]
    exact l4New_any B v x W (by have := hb.size; omega) hwt hz (HX.out.below (hb.mono hB))
  have hno : checkM x ≠ 0 → newM x = [] := fun h => by unfold newM; rw [if_neg h]
  obtain ⟨N, hN⟩ : ∃ N, newM x = N := ⟨_, rfl⟩
  obtain ⟨P, hP⟩ : ∃ P, checkM x = P := ⟨_, rfl⟩
  rw [hN] at HN hno ⊢
  obtain ⟨n, hn⟩ : ∃ n, N.length = n := ⟨_, rfl⟩
  rw [hn] at HN ⊢
  have HNn := hidOf hn
  clear hn
  rw [hP] at HC HN hno
  clear hN hP hx HX
  obtain ⟨ai, ni, ci, ao, no, co, av, nv, cv, at_, nt, ct⟩ := v
  obtain ⟨xn, hxn⟩ : ∃ n, x.name = n := ⟨_, rfl⟩
  simp only [BkV.val] at HC HN ⊢
  rw [hxn] at HC HN ⊢
  clear hxn
  have HB0 : Hid (Below w.heap.size w ((w.alloc (.cells #[.string xn, .slice ai ni ci, .slice ao no co, .slice av nv cv, .slice at_ nt ct] 34)).alloc (.cells #[.int .i64 0, .slice none 0 0] 45))) := ((Below.refl _ _).alloc (Nat.le_refl _) _).alloc (by simp) _
  have BX0 : Hid (BoxAt w.heap.size [.string xn, .slice ai ni ci, .slice ao no co, .slice av nv cv, .slice at_ nt ct] ((w.alloc (.cells #[.string xn, .slice ai ni ci, .slice ao no co, .slice av nv cv, .slice at_ nt ct] 34)).alloc (.cells #[.int .i64 0, .slice none 0 0] 45))) := (boxAt_new w [.string xn, .slice ai ni ci, .slice ao no co, .slice av nv cv, .slice at_ nt ct] 34).below ((Below.refl _ _).alloc (Nat.le_refl _) _)
  have BR0 : Hid (BoxAt (w.heap.size + 1) [.int .i64 0, .slice none 0 0] ((w.alloc (.cells #[.string xn, .slice ai ni ci, .slice ao no co, .slice av nv cv, .slice at_ nt ct] 34)).alloc (.cells #[.int .i64 0, .slice none 0 0] 45))) := by
    have := boxAt_new (w.alloc (.cells #[.string xn, .slice ai ni ci, .slice ao no co, .slice av nv cv, .slice at_ nt ct] 34)) [.int .i64 0, .slice none 0 0] 45
    show BoxAt _ _ _
    simpa using this
  by_cases h0 : P = 0
  · subst h0
    clear hno
    go_enter Tryz.func19, Tryz.ntmps19
    go_wp2_with fail
    refine (HC.out _ HB0.out).mono ?_
    rintro e w1 ⟨rfl, b1⟩
    have HB1 : Hid (Below w.heap.size w w1) := HB0.out.trans (b1.mono HB0.out.size)
    have BX1 := hidOf (BX0.out.below b1)
    have BR1 := hidOf (BR0.out.below b1)
    have c0 : w1.cell? ⟨w.heap.size, 0, none⟩ = some (.string xn) := (BX1.out.2 0 _ rfl).1
    have c1 : w1.cell? ⟨w.heap.size, 1, none⟩ = some (.slice ai ni ci) := (BX1.out.2 1 _ rfl).1
    have c2 : w1.cell? ⟨w.heap.size, 2, none⟩ = some (.slice ao no co) := (BX1.out.2 2 _ rfl).1
    have c3 : w1.cell? ⟨w.heap.size, 3, none⟩ = some (.slice av nv cv) := (BX1.out.2 3 _ rfl).1
    have c4 : w1.cell? ⟨w.heap.size, 4, none⟩ = some (.slice at_ nt ct) := (BX1.out.2 4 _ rfl).1
    have sx : w.heap.size < w1.heap.size := BX1.out.1
    clear b1
    go_wp2_with fail
    refine (HN.out trivial _ HB1.out).mono ?_
    rintro e w2 ⟨a, c, rfl, f2, b2⟩
    have HRR := hidOf (BR1.out.below b2)
    have hs2 : w.heap.size + 2 ≤ w1.heap.size := BR1.out.1
    have HF := hidOf (f2.low hs2)
    have HB2 : Hid (Below w.heap.size w w2) := HB1.out.trans (b2.mono HB1.out.size)
    clear b2 f2 c0 c1 c2 c3 c4 sx
    clear HN
    have d0 := (HRR.out.2 0 _ rfl).1
    have d1 := (HRR.out.2 1 _ rfl).1
    have g0' := (HRR.out.2 0 _ rfl).2
    have g1' := (HRR.out.2 1 _ rfl).2
    have sr := HRR.out.1
    have k0 : (w2.setCell ⟨w.heap.size + 1, 0, none⟩ (.int .i64 0)).cell? ⟨w.heap.size + 1, 0, none⟩ = some (.int .i64 0) := World.cell?_setCell_same _ _ _ d0
    have k1 : ((w2.setCell ⟨w.heap.size + 1, 0, none⟩ (.int .i64 0)).setCell ⟨w.heap.size + 1, 1, none⟩ (.slice a n c)).cell? ⟨w.heap.size + 1, 1, none⟩ = some (.slice a n c) := World.cell?_setCell_same _ _ _ (by rw [setCell_ne _ _ _ _ _ (by omega)]; exact d1)
    go_wp2_with fail
    refine bodyPost_ret (by simp [results, Tryz.results19, go_sem, k0, k1]; try rfl) rfl ?_
    have hm : Mv (w.heap.size + 1) w2 ((w2.setCell ⟨w.heap.size + 1, 0, none⟩ (.int .i64 0)).setCell ⟨w.heap.size + 1, 1, none⟩ (.slice a n c)) := ((Mv.refl _ _).cell _ _).cell _ _
    refine ⟨a, c, rfl, ?_, (HB2.out.setCell (by simp) _).setCell (by simp) _⟩
    have hff := HF.out.mvR (hm.range (L := w.heap.size + 1) (H := w.heap.size + 2) (Nat.le_refl _) (by omega)) (Nat.le_refl _)
    exact hff.low (by omega)
  · have h0' : (P != 0) = true := by simp [h0]
    have e0 := hno h0
    subst e0
    have en : n = 0 := HNn.out.symm
    subst en
    clear hno HN
    go_enter Tryz.func19, Tryz.ntmps19
    go_wp2_with fail
    refine (HC.out _ HB0.out).mono ?_
    rintro e w1 ⟨rfl, b1⟩
    have HB1 : Hid (Below w.heap.size w w1) := HB0.out.trans (b1.mono HB0.out.size)
    have HRR := hidOf (BR0.out.below b1)
    clear b1
    have d0 := (HRR.out.2 0 _ rfl).1
    have d1 := (HRR.out.2 1 _ rfl).1
    have g0' := (HRR.out.2 0 _ rfl).2
    have g1' := (HRR.out.2 1 _ rfl).2
    have sr := HRR.out.1
    have k0 : (w1.setCell ⟨w.heap.size + 1, 0, none⟩ (.int .i64 0)).cell? ⟨w.heap.size + 1, 0, none⟩ = some (.int .i64 0) := World.cell?_setCell_same _ _ _ d0
    have k1 : ((w1.setCell ⟨w.heap.size + 1, 0, none⟩ (.int .i64 0)).setCell ⟨w.heap.size + 1, 1, none⟩ (.slice none 0 0)).cell? ⟨w.heap.size + 1, 1, none⟩ = some (.slice none 0 0) := World.cell?_setCell_same _ _ _ (by rw [setCell_ne _ _ _ _ _ (by omega)]; exact d1)
    go_wp2_with fail
    refine bodyPost_ret (by simp [results, Tryz.results19, go_sem, k0, k1]; try rfl) rfl ?_
    have hm : Mv (w.heap.size + 1) w1 ((w1.setCell ⟨w.heap.size + 1, 0, none⟩ (.int .i64 0)).setCell ⟨w.heap.size + 1, 1, none⟩ (.slice none 0 0)) := ((Mv.refl _ _).cell _ _).cell _ _
    exact ⟨none, 0, rfl, ⟨⟨rfl, .inl rfl⟩, .inl rfl⟩, (HB1.out.setCell (by simp) _).setCell (by simp) _⟩

set_option maxHeartbeats 800000 in
set_option maxRecDepth 100000 in
theorem implInstNew_any (B : Nat) (v : BkV) (x : Bk) (w : World) (hB : B ≤ w.heap.size) (hwt : wtBk x ≤ 1048576) (hx : IsBk B w v x) (hT : Tabs w) :
    Calls Tryz.prog 20 #[v.val x.name] w fun e w' => ∃ a c, e = .returned (.agg #[.int .i64 0, .slice a (newM x).length c]) ∧ FreeI w.heap.size w' a (newM x).length (newM x) ∧ Below w.heap.size w w' := by
  have HX := hidOf hx
  have HC : Hid (∀ W, Below w.heap.size w W → Calls Tryz.prog 44 #[v.val x.name] W fun e w' => e = .returned (.int .i64 (checkM x)) ∧ Below W.heap.size W w') := fun W hb => implBlockCheck_any B v x W (hT.below hb) (by have := hb.size; omega) hwt (HX.out.below (hb.mono hB))
  have HN : Hid (checkM x = 0 → ∀ W, Below w.heap.size w W → Calls Tryz.prog 59 #[v.val x.name] W fun e w' => ∃ a c, e = .returned (.agg #[.int .i64 0, .slice a (newM x).length c]) ∧ FreeI W.heap.size w' a (newM x).length (newM x) ∧ Below W.heap.size W w') := fun hz W hb => by
    have e : newM x = firstVals x := by unfold newM; rw [if_pos hz]
    rw [e]
    exact firstInst_any B v x W (by have := hb.size; omega) hwt hz (HX.out.below (hb.mono hB))
  have hno : checkM x ≠ 0 → newM x = [] := fun h => by unfold newM; rw [if_neg h]
  obtain ⟨N, hN⟩ : ∃ N, newM x = N := ⟨_, rfl⟩
  obtain ⟨P, hP⟩ : ∃ P, checkM x = P := ⟨_, rfl⟩
  rw [hN] at HN hno ⊢
  obtain ⟨n, hn⟩ : ∃ n, N.length = n := ⟨_, rfl⟩
  rw [hn] at HN ⊢
  have HNn := hidOf hn
  clear hn
  rw [hP] at HC HN hno
  clear hN hP hx HX hT
  obtain ⟨ai, ni, ci, ao, no, co, av, nv, cv, at_, nt, ct⟩ := v
  obtain ⟨xn, hxn⟩ : ∃ n, x.name = n := ⟨_, rfl⟩
  simp only [BkV.val] at HC HN ⊢
  rw [hxn] at HC HN ⊢
  clear hxn
  have HB0 : Hid (Below w.heap.size w ((w.alloc (.cells #[.string xn, .slice ai ni ci, .slice ao no co, .slice av nv cv, .slice at_ nt ct] 34)).alloc (.cells #[.int .i64 0, .slice none 0 0] 45))) := ((Below.refl _ _).alloc (Nat.le_refl _) _).alloc (by simp) _
  have BX0 : Hid (BoxAt w.heap.size [.string xn, .slice ai ni ci, .slice ao no co, .slice av nv cv, .slice at_ nt ct] ((w.alloc (.cells #[.string xn, .slice ai ni ci, .slice ao no co, .slice av nv cv, .slice at_ nt ct] 34)).alloc (.cells #[.int .i64 0, .slice none 0 0] 45))) := (boxAt_new w [.string xn, .slice ai ni ci, .slice ao no co, .slice av nv cv, .slice at_ nt ct] 34).below ((Below.refl _ _).alloc (Nat.le_refl _) _)
  have BR0 : Hid (BoxAt (w.heap.size + 1) [.int .i64 0, .slice none 0 0] ((w.alloc (.cells #[.string xn, .slice ai ni ci, .slice ao no co, .slice av nv cv, .slice at_ nt ct] 34)).alloc (.cells #[.int .i64 0, .slice none 0 0] 45))) := by
    have := boxAt_new (w.alloc (.cells #[.string xn, .slice ai ni ci, .slice ao no co, .slice av nv cv, .slice at_ nt ct] 34)) [.int .i64 0, .slice none 0 0] 45
    show BoxAt _ _ _
    simpa using this
  by_cases h0 : P = 0
  · subst h0
    clear hno
    go_enter Tryz.func20, Tryz.ntmps20
    go_wp2_with fail
    refine (HC.out _ HB0.out).mono ?_
    rintro e w1 ⟨rfl, b1⟩
    have HB1 : Hid (Below w.heap.size w w1) := HB0.out.trans (b1.mono HB0.out.size)
    have BX1 := hidOf (BX0.out.below b1)
    have BR1 := hidOf (BR0.out.below b1)
    have c0 : w1.cell? ⟨w.heap.size, 0, none⟩ = some (.string xn) := (BX1.out.2 0 _ rfl).1
    have c1 : w1.cell? ⟨w.heap.size, 1, none⟩ = some (.slice ai ni ci) := (BX1.out.2 1 _ rfl).1
    have c2 : w1.cell? ⟨w.heap.size, 2, none⟩ = some (.slice ao no co) := (BX1.out.2 2 _ rfl).1
    have c3 : w1.cell? ⟨w.heap.size, 3, none⟩ = some (.slice av nv cv) := (BX1.out.2 3 _ rfl).1
    have c4 : w1.cell? ⟨w.heap.size, 4, none⟩ = some (.slice at_ nt ct) := (BX1.out.2 4 _ rfl).1
    have sx : w.heap.size < w1.heap.size := BX1.out.1
    clear b1
    go_wp2_with fail
    refine (HN.out trivial _ HB1.out).mono ?_
    rintro e w2 ⟨a, c, rfl, f2, b2⟩
    have HRR := hidOf (BR1.out.below b2)
    have hs2 : w.heap.size + 2 ≤ w1.heap.size := BR1.out.1
    have HF := hidOf (f2.low hs2)
    have HB2 : Hid (Below w.heap.size w w2) := HB1.out.trans (b2.mono HB1.out.size)
    clear b2 f2 c0 c1 c2 c3 c4 sx
    clear HN
    have d0 := (HRR.out.2 0 _ rfl).1
    have d1 := (HRR.out.2 1 _ rfl).1
    have g0' := (HRR.out.2 0 _ rfl).2
    have g1' := (HRR.out.2 1 _ rfl).2
    have sr := HRR.out.1
    have k0 : (w2.setCell ⟨w.heap.size + 1, 0, none⟩ (.int .i64 0)).cell? ⟨w.heap.size + 1, 0, none⟩ = some (.int .i64 0) := World.cell?_setCell_same _ _ _ d0
    have k1 : ((w2.setCell ⟨w.heap.size + 1, 0, none⟩ (.int .i64 0)).setCell ⟨w.heap.size + 1, 1, none⟩ (.slice a n c)).cell? ⟨w.heap.size + 1, 1, none⟩ = some (.slice a n c) := World.cell?_setCell_same _ _ _ (by rw [setCell_ne _ _ _ _ _ (by omega)]; exact d1)
    go_wp2_with fail
    refine bodyPost_ret (by simp [results, Tryz.results20, go_sem, k0, k1]; try rfl) rfl ?_
    have hm : Mv (w.heap.size + 1) w2 ((w2.setCell ⟨w.heap.size + 1, 0, none⟩ (.int .i64 0)).setCell ⟨w.heap.size + 1, 1, none⟩ (.slice a n c)) := ((Mv.refl _ _).cell _ _).cell _ _
    refine ⟨a, c, rfl, ?_, (HB2.out.setCell (by simp) _).setCell (by simp) _⟩
    have hff := HF.out.mvR (hm.range (L := w.heap.size + 1) (H := w.heap.size + 2) (Nat.le_refl _) (by omega)) (Nat.le_refl _)
    exact hff.low (by omega)
  · have h0' : (P != 0) = true := by simp [h0]
    have e0 := hno h0
    subst e0
    have en : n = 0 := HNn.out.symm
    subst en
    clear hno HN
    go_enter Tryz.func20, Tryz.ntmps20
    go_wp2_with fail
    refine (HC.out _ HB0.out).mono ?_
    rintro e w1 ⟨rfl, b1⟩
    have HB1 : Hid (Below w.heap.size w w1) := HB0.out.trans (b1.mono HB0.out.size)
    have HRR := hidOf (BR0.out.below b1)
    clear b1
    have d0 := (HRR.out.2 0 _ rfl).1
    have d1 := (HRR.out.2 1 _ rfl).1
    have g0' := (HRR.out.2 0 _ rfl).2
    have g1' := (HRR.out.2 1 _ rfl).2
    have sr := HRR.out.1
    have k0 : (w1.setCell ⟨w.heap.size + 1, 0, none⟩ (.int .i64 0)).cell? ⟨w.heap.size + 1, 0, none⟩ = some (.int .i64 0) := World.cell?_setCell_same _ _ _ d0
    have k1 : ((w1.setCell ⟨w.heap.size + 1, 0, none⟩ (.int .i64 0)).setCell ⟨w.heap.size + 1, 1, none⟩ (.slice none 0 0)).cell? ⟨w.heap.size + 1, 1, none⟩ = some (.slice none 0 0) := World.cell?_setCell_same _ _ _ (by rw [setCell_ne _ _ _ _ _ (by omega)]; exact d1)
    go_wp2_with fail
    refine bodyPost_ret (by simp [results, Tryz.results20, go_sem, k0, k1]; try rfl) rfl ?_
    have hm : Mv (w.heap.size + 1) w1 ((w1.setCell ⟨w.heap.size + 1, 0, none⟩ (.int .i64 0)).setCell ⟨w.heap.size + 1, 1, none⟩ (.slice none 0 0)) := ((Mv.refl _ _).cell _ _).cell _ _
    exact ⟨none, 0, rfl, ⟨⟨rfl, .inl rfl⟩, .inl rfl⟩, (HB1.out.setCell (by simp) _).setCell (by simp) _⟩
end Go.Proofs.YtceokbmejnopoaaGreatDoor
