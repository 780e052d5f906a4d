/- The model's l26Get and EventGet. -/
import Derived.Test.YtjmgfpldjccilaaGreatDoorEvValsM
import Derived.Test.YtjmgfpldjccilaaGreatDoorEvPutM
import Derived.Test.YtjmgfpldjccilaaGreatDoorEvGot
import Derived.Test.YtjmgfpldjccilaaGreatDoorCpMem
import Derived.Test.YtjmgfpldjccilaaGreatDoorMvR
import Derived.Deep.RegionHeld3
namespace Go.Proofs.YtjmgfpldjccilaaGreatDoor
open Go Go.RowKit Go.PlainAid
set_option linter.unusedSimpArgs false
set_option linter.unusedVariables false

/-- a number of at most six figures is read as that -/
def Reads6 (s : ByteArray) (v : Int) : Prop := ∀ n : Int, 0 ≤ n → n ≤ 999999 → s = bt8 (Lib.itoa n) → v = n
theorem evReadM {s : ByteArray} {l : List ByteArray} (hl : l = cutS 32 3 s) {k t m : Int} {vs : List Int} (hk : ∀ x, l[0]? = some x → ∀ j : Int, 1 ≤ j → j ≤ 9 → x = bt8 (wd j) → k = j) (ht : ∀ x, l[1]? = some x → Reads6 x t)
    (hm : (l.length = 3 ∧ k = 7 ∧ (∀ x, l[2]? = some x → Reads6 x m) ∧ vs = []) ∨ (l.length = 3 ∧ k ≠ 7 ∧ m = 0 ∧ ∀ x, l[2]? = some x → ReadsM x vs) ∨ (l.length ≠ 3 ∧ m = 0 ∧ vs = [])) :
    ∀ f : Ev, OkE f → s = bt8 (evT f) → (k, t, m, vs) = f := by
  rintro ⟨fk, ft, fm, fl⟩ hf hs
  have h1 := hf.kind
  have h2 := hf.at_
  have h3 := hf.num
  have h4 := hf.spoil
  have h5 := hf.push
  simp only [] at h1 h2 h3 h4 h5
  have hw : l = (evW (fk, ft, fm, fl)).map bt8 := by
    rw [hl]; unfold cutS; rw [hs, bt8_list, evT_cut hf]
  have e1 : k = fk := hk (bt8 (wd fk)) (by rw [hw]; rfl) fk h1.1 h1.2 rfl
  have e2 : t = ft := ht (bt8 (Lib.itoa ft)) (by rw [hw]; rfl) ft h2.1 h2.2 rfl
  subst e1 e2
  have hlen : l.length = (evW (k, t, fm, fl)).length := by rw [hw, List.length_map]
  rcases hm with ⟨a0, a1, a2, a3⟩ | ⟨a0, a1, a2, a3⟩ | ⟨a1, a2, a3⟩
  · subst a1 a3
    have e3 : m = fm := a2 (bt8 (Lib.itoa fm)) (by rw [hw]; rfl) fm h3.1 h3.2 rfl
    have e4 : fl = [] := h5.resolve_right (fun h => by omega)
    rw [e3, e4]
  · subst a2
    have e3 : fm = 0 := h4.resolve_right a1
    have e4 : fl ≠ [] := by
      intro e
      rw [hlen] at a0
      simp [evW, e, a1] at a0
    have h6 := h5.resolve_left e4
    have e5 := a3 (bt8 (valsT fl)) (by rw [hw]; simp [evW, e4, a1]) fl e4 h6.2.1 h6.2.2 rfl
    rw [e3, e5]
  · subst a2 a3
    have e7 : k ≠ 7 := by
      intro e
      rw [hlen] at a1
      simp [evW, e] at a1
    have e3 : fm = 0 := h4.resolve_right e7
    have e4 : fl = [] := by
      by_cases e : fl = []
      · exact e
      · rw [hlen] at a1
        simp [evW, e, e7] at a1
    rw [e3, e4]
/-- no word, or too few or too many of them: no event -/
theorem evNoneM {s : ByteArray} {l : List ByteArray} (hl : l = cutS 32 3 s) {k : Int} (hk : ∀ x, l[0]? = some x → ∀ j : Int, 1 ≤ j → j ≤ 9 → x = bt8 (wd j) → k = j) (hbad : k < 1 ∨ l.length < 2 ∨ 3 < l.length) : ∀ f : Ev, OkE f → s ≠ bt8 (evT f) := by
  rintro ⟨fk, ft, fm, fl⟩ hf hs
  have h1 := hf.kind
  simp only [] at h1
  have hw : l = (evW (fk, ft, fm, fl)).map bt8 := by
    rw [hl]; unfold cutS; rw [hs, bt8_list, evT_cut hf]
  have e1 : k = fk := hk (bt8 (wd fk)) (by rw [hw]; rfl) fk h1.1 h1.2 rfl
  have hlen : 2 ≤ l.length ∧ l.length ≤ 3 := by
    rw [hw, List.length_map]
    unfold evW
    split
    · exact ⟨by simp, by simp⟩
    · split
      · exact ⟨by simp, by simp⟩
      · exact ⟨by simp, by simp⟩
  omega
/-- where a word stands -/
theorem wordAt {x : ByteArray} {j : Int} (h1 : 1 ≤ j) (h2 : j ≤ 9) (e : x = bt8 (wd j)) : findM (wordsL.map bt8) x = j := by
  have hj : j.toNat < 10 := by omega
  have key : ∀ a b : Fin 10, wordsL.getD a.val [] = wordsL.getD b.val [] → a = b := by decide
  have hget : ∀ i, (h : i < (wordsL.map bt8).length) → (wordsL.map bt8)[i] = bt8 (wordsL.getD i []) := fun i h => by
    rw [List.getElem_map, List.getD_eq_getElem?_getD, List.getElem?_eq_getElem (by simpa using h)]
    rfl
  have hlen : (wordsL.map bt8).length = 10 := rfl
  have := findM_at (l := wordsL.map bt8) (x := x) (k := j.toNat) (by omega) (by rw [hget _ (by omega), e]; rfl) (fun i hi => by
    intro e2
    rw [hget i (by omega), e] at e2
    have := key ⟨i, by omega⟩ ⟨j.toNat, hj⟩ (bt8_inj e2)
    have := congrArg Fin.val this
    simp at this
    omega)
  rw [this]
  omega
theorem gotE_ofM {s : ByteArray} {e : Ev} (hr : ∀ f : Ev, OkE f → s = bt8 (evT f) → e = f) :
    (okE e = true → bt8 (evT e) = s → GotE s e true) ∧ (okE e = false ∨ bt8 (evT e) ≠ s → GotE s (0, 0, 0, []) false) := by
  refine ⟨fun h0 h1 => .inl ⟨rfl, okE_iff.1 h0, h1.symm⟩, fun h => .inr ⟨rfl, rfl, fun f hf hs => ?_⟩⟩
  have e1 := hr f hf hs
  subst e1
  rcases h with h | h
  · rw [okE_iff.2 hf] at h; cases h
  · exact h hs.symm

set_option maxHeartbeats 12800000 in
set_option maxRecDepth 100000 in
theorem l26Get_any (s : ByteArray) (w : World) (hs : s.size ≤ 1048576) :
    Calls Tryz.prog 29 #[.string s] w (EvGot s w.heap.size w) := by
  obtain ⟨W0, hW0⟩ : ∃ W0, w.alloc (.cells #[.int .i64 0, .int .i64 0, .int .i64 0, .slice none 0 0] 26) = W0 := ⟨_, rfl⟩
  have hb0 : Below w.heap.size w W0 := by rw [← hW0]; exact (Below.refl _ _).alloc (Nat.le_refl _) _
  have hs0 : W0.heap.size = w.heap.size + 1 := by rw [← hW0]; simp
  have BX0 := hidOf (show BoxAt w.heap.size [.int .i64 0, .int .i64 0, .int .i64 0, .slice none 0 0] W0 by rw [← hW0]; exact boxAt_new w _ _)
  have HW0 := hidOf hW0
  have HSP := hidOf (l1Cut_any s 32 3 W0 hs (by decide))
  have HB0 := hidOf hb0
  have hlen := cutS_len 32 3 s
  have hsz := cutS_sizes 32 3 s
  obtain ⟨l, hl⟩ : ∃ l, l = cutS 32 3 s := ⟨_, rfl⟩
  rw [← hl] at HSP hlen hsz
  have HL := hidOf hl
  have HSZ : Hid (∀ x ∈ l, x.size ≤ 1048576) := fun x hx => Nat.le_trans (hsz x hx) hs
  clear hW0 hb0 hsz hl
  go_enter Tryz.func29, Tryz.ntmps29
  go_wp2_with fail
  rw [HW0.out]
  refine HSP.out.mono ?_
  rintro e w1 ⟨lu, rfl, hlo, hb1⟩
  obtain ⟨n, hn⟩ : ∃ n, l.length = n := ⟨_, rfl⟩
  obtain ⟨lb, lc, hlu, hlc⟩ : ∃ g c, lu = .slice (some ⟨g, 0, none⟩) n c ∧ n ≤ c := by
    rcases hlo.2 with ⟨_, h2⟩ | ⟨g, cap, cur, h1, _, _, h4, _⟩
    · omega
    · exact ⟨g, cap, by rw [h1, hn], by omega⟩
  subst hlu
  have hcl : ∀ j, (h : j < l.length) → lb < w1.heap.size ∧ w1.cell? ⟨lb, j, none⟩ = some (.string l[j]) := fun j h => by
    have := World.ownsRow.cells hlo (g := lb) rfl j (.string l[j]) (by simp [h])
    rw [Go.WideShapes.add_plain, Nat.zero_add] at this
    exact ⟨World.block_lt_of_cell? w1 _ this, this⟩
  have HN := hidOf hn
  rw [hn] at hlen
  have hl0 : 0 < l.length := by omega
  obtain ⟨hlb, hc0⟩ := hcl 0 hl0
  obtain ⟨x0, hx0⟩ : ∃ x, l[0]'hl0 = x := ⟨_, rfl⟩
  have hxs := HSZ.out _ (List.getElem_mem hl0)
  rw [hx0] at hc0 hxs
  have HX0 : Hid (∀ x, l[0]? = some x → x = x0) := fun x hx => by
    rw [List.getElem?_eq_getElem hl0, hx0] at hx
    exact (Option.some.inj hx).symm
  have HCL := hidOf hcl
  have HB1 := hidOf (HB0.out.trans (hb1.mono HB0.out.size))
  have BX1 := hidOf (BX0.out.below hb1)
  have hs1 : w.heap.size + 1 ≤ w1.heap.size := by have := hb1.size; omega
  obtain ⟨F, hF⟩ : ∃ F, findM (wordsL.map bt8) x0 = F := ⟨_, rfl⟩
  have hFb : -1 ≤ F ∧ F < 10 := by rw [← hF]; have := findM_lt (wordsL.map bt8) x0; simpa [wordsL] using this
  have HK : Hid (∀ x, l[0]? = some x → ∀ j : Int, 1 ≤ j → j ≤ 9 → x = bt8 (wd j) → F = j) := fun x hx j h1 h2 e => by
    rw [HX0.out x hx] at e
    rw [← hF]
    exact wordAt h1 h2 e
  have HWO := hidOf (fun W => l26Words_any W)
  have HFI : Hid (∀ W B a, IsStrs B W a 10 (wordsL.map bt8) → Calls Tryz.prog 52 #[.slice a 10 10, .string x0] W fun e w' => e = .returned (.int .i64 F) ∧ w' = W) := fun W B a h => by
    rw [← hF]
    exact l1Find_any B a 10 10 _ x0 W (by decide) hxs (fun y hy => by
      have : ∀ z ∈ wordsL, z.length ≤ 5 := by decide
      obtain ⟨z, hz, rfl⟩ := List.mem_map.1 hy
      rw [bt8_size]
      have := this z hz
      omega) h
  have hn1 : (0 : Int) < n := by omega
  have hn1n : 0 < n := by omega
  clear hb1 hlo hn hcl hx0 hF
  go_wp2_with fail
  go_region_held3 (fun w' => w'.cell? ⟨lb, 0, none⟩ = some (.string x0)) (simp [go_sem, *])
    (first
      | (go_at_call 53; refine (HWO.out _).mono ?_; rintro e w2 ⟨rfl, hz2, hb2⟩; replace hb2 : Below w1.heap.size w1 w2 := undrew hb2; have HZ2 := hidOf hz2; have HB2 := hidOf hb2; have s2 : lb < w2.heap.size := Nat.lt_of_lt_of_le hlb hb2.size; obtain ⟨hc1, hf1⟩ := bcell hb2; clear hb2 hz2)
      | (go_at_call 52; refine (HFI.out _ _ _ HZ2.out).mono ?_; rintro e w3 ⟨rfl, hw3⟩; rw [hw3]; clear hw3 w3))
  have HBW := hidOf (HB1.out.trans (HB2.out.mono HB1.out.size))
  have BX2 := hidOf (BX1.out.below HB2.out)
  have hs2 : w1.heap.size ≤ w2.heap.size := HB2.out.size
  have HC2 : Hid (∀ j, (h : j < l.length) → w2.cell? ⟨lb, j, none⟩ = some (.string l[j])) := fun j h => (HB2.out.cell (p := ⟨lb, j, none⟩) hlb).trans (HCL.out j h).2
  clear hc0 hc1 hf1 HZ2 HFI HWO HCL
  by_cases hF1 : F < 1
  · skip
    have HG : Hid (GotE s (0, 0, 0, []) false) := .inr ⟨rfl, rfl, evNoneM HL.out HK.out (.inl hF1)⟩
    have r0 : w2.cell? ⟨w.heap.size, 0, none⟩ = some _ := (BX2.out.2 0 _ rfl).1
    have r1 : w2.cell? ⟨w.heap.size, 1, none⟩ = some _ := (BX2.out.2 1 _ rfl).1
    have r2 : w2.cell? ⟨w.heap.size, 2, none⟩ = some _ := (BX2.out.2 2 _ rfl).1
    have r3 : w2.cell? ⟨w.heap.size, 3, none⟩ = some _ := (BX2.out.2 3 _ rfl).1
    have f0 := (BX2.out.2 0 _ rfl).2
    have f1 := (BX2.out.2 1 _ rfl).2
    have f2 := (BX2.out.2 2 _ rfl).2
    have f3 := (BX2.out.2 3 _ rfl).2
    have s6 := BX2.out.1
    have e0 := (BX2.out.2 0 _ rfl).1
    have e1 := ((BX2.out.set 0 (.int .i64 0)).2 1 _ rfl).1
    have e2 := (((BX2.out.set 0 (.int .i64 0)).set 1 (.int .i64 0)).2 2 _ rfl).1
    have e3 := ((((BX2.out.set 0 (.int .i64 0)).set 1 (.int .i64 0)).set 2 (.int .i64 0)).2 3 _ rfl).1
    have k0 := (((((BX2.out.set 0 (.int .i64 0)).set 1 (.int .i64 0)).set 2 (.int .i64 0)).set 3 (.slice none 0 0)).2 0 _ rfl).1
    have k1 := (((((BX2.out.set 0 (.int .i64 0)).set 1 (.int .i64 0)).set 2 (.int .i64 0)).set 3 (.slice none 0 0)).2 1 _ rfl).1
    have k2 := (((((BX2.out.set 0 (.int .i64 0)).set 1 (.int .i64 0)).set 2 (.int .i64 0)).set 3 (.slice none 0 0)).2 2 _ rfl).1
    have k3 := (((((BX2.out.set 0 (.int .i64 0)).set 1 (.int .i64 0)).set 2 (.int .i64 0)).set 3 (.slice none 0 0)).2 3 _ rfl).1
    go_wp2_with fail
    refine bodyPost_ret (by simp [results, Tryz.results29, go_sem, k0, k1, k2, k3]; try rfl) rfl ?_
    exact ⟨0, 0, 0, none, 0, 0, [], false, rfl, ⟨⟨rfl, .inl rfl⟩, .inl rfl⟩, Nat.le_refl _, HG.out, ((((HBW.out.setCell (by simp) _).setCell (by simp) _).setCell (by simp) _).setCell (by simp) _)⟩
  by_cases hn2 : n < 2
  · skip
    have hn2' : (n : Int) < 2 := by omega
    have HG : Hid (GotE s (0, 0, 0, []) false) := .inr ⟨rfl, rfl, evNoneM HL.out HK.out (.inr (.inl (by rw [HN.out]; exact hn2)))⟩
    have r0 : w2.cell? ⟨w.heap.size, 0, none⟩ = some _ := (BX2.out.2 0 _ rfl).1
    have r1 : w2.cell? ⟨w.heap.size, 1, none⟩ = some _ := (BX2.out.2 1 _ rfl).1
    have r2 : w2.cell? ⟨w.heap.size, 2, none⟩ = some _ := (BX2.out.2 2 _ rfl).1
    have r3 : w2.cell? ⟨w.heap.size, 3, none⟩ = some _ := (BX2.out.2 3 _ rfl).1
    have f0 := (BX2.out.2 0 _ rfl).2
    have f1 := (BX2.out.2 1 _ rfl).2
    have f2 := (BX2.out.2 2 _ rfl).2
    have f3 := (BX2.out.2 3 _ rfl).2
    have s6 := BX2.out.1
    have e0 := (BX2.out.2 0 _ rfl).1
    have e1 := ((BX2.out.set 0 (.int .i64 0)).2 1 _ rfl).1
    have e2 := (((BX2.out.set 0 (.int .i64 0)).set 1 (.int .i64 0)).2 2 _ rfl).1
    have e3 := ((((BX2.out.set 0 (.int .i64 0)).set 1 (.int .i64 0)).set 2 (.int .i64 0)).2 3 _ rfl).1
    have k0 := (((((BX2.out.set 0 (.int .i64 0)).set 1 (.int .i64 0)).set 2 (.int .i64 0)).set 3 (.slice none 0 0)).2 0 _ rfl).1
    have k1 := (((((BX2.out.set 0 (.int .i64 0)).set 1 (.int .i64 0)).set 2 (.int .i64 0)).set 3 (.slice none 0 0)).2 1 _ rfl).1
    have k2 := (((((BX2.out.set 0 (.int .i64 0)).set 1 (.int .i64 0)).set 2 (.int .i64 0)).set 3 (.slice none 0 0)).2 2 _ rfl).1
    have k3 := (((((BX2.out.set 0 (.int .i64 0)).set 1 (.int .i64 0)).set 2 (.int .i64 0)).set 3 (.slice none 0 0)).2 3 _ rfl).1
    go_wp2_with fail
    refine bodyPost_ret (by simp [results, Tryz.results29, go_sem, k0, k1, k2, k3]; try rfl) rfl ?_
    exact ⟨0, 0, 0, none, 0, 0, [], false, rfl, ⟨⟨rfl, .inl rfl⟩, .inl rfl⟩, Nat.le_refl _, HG.out, ((((HBW.out.setCell (by simp) _).setCell (by simp) _).setCell (by simp) _).setCell (by simp) _)⟩
  by_cases hn3 : 3 < n
  · skip
    have hn2' : ¬ (n : Int) < 2 := by omega
    have hn3' : (3 : Int) < n := by omega
    have HG : Hid (GotE s (0, 0, 0, []) false) := .inr ⟨rfl, rfl, evNoneM HL.out HK.out (.inr (.inr (by rw [HN.out]; exact hn3)))⟩
    have r0 : w2.cell? ⟨w.heap.size, 0, none⟩ = some _ := (BX2.out.2 0 _ rfl).1
    have r1 : w2.cell? ⟨w.heap.size, 1, none⟩ = some _ := (BX2.out.2 1 _ rfl).1
    have r2 : w2.cell? ⟨w.heap.size, 2, none⟩ = some _ := (BX2.out.2 2 _ rfl).1
    have r3 : w2.cell? ⟨w.heap.size, 3, none⟩ = some _ := (BX2.out.2 3 _ rfl).1
    have f0 := (BX2.out.2 0 _ rfl).2
    have f1 := (BX2.out.2 1 _ rfl).2
    have f2 := (BX2.out.2 2 _ rfl).2
    have f3 := (BX2.out.2 3 _ rfl).2
    have s6 := BX2.out.1
    have e0 := (BX2.out.2 0 _ rfl).1
    have e1 := ((BX2.out.set 0 (.int .i64 0)).2 1 _ rfl).1
    have e2 := (((BX2.out.set 0 (.int .i64 0)).set 1 (.int .i64 0)).2 2 _ rfl).1
    have e3 := ((((BX2.out.set 0 (.int .i64 0)).set 1 (.int .i64 0)).set 2 (.int .i64 0)).2 3 _ rfl).1
    have k0 := (((((BX2.out.set 0 (.int .i64 0)).set 1 (.int .i64 0)).set 2 (.int .i64 0)).set 3 (.slice none 0 0)).2 0 _ rfl).1
    have k1 := (((((BX2.out.set 0 (.int .i64 0)).set 1 (.int .i64 0)).set 2 (.int .i64 0)).set 3 (.slice none 0 0)).2 1 _ rfl).1
    have k2 := (((((BX2.out.set 0 (.int .i64 0)).set 1 (.int .i64 0)).set 2 (.int .i64 0)).set 3 (.slice none 0 0)).2 2 _ rfl).1
    have k3 := (((((BX2.out.set 0 (.int .i64 0)).set 1 (.int .i64 0)).set 2 (.int .i64 0)).set 3 (.slice none 0 0)).2 3 _ rfl).1
    go_wp2_with fail
    refine bodyPost_ret (by simp [results, Tryz.results29, go_sem, k0, k1, k2, k3]; try rfl) rfl ?_
    exact ⟨0, 0, 0, none, 0, 0, [], false, rfl, ⟨⟨rfl, .inl rfl⟩, .inl rfl⟩, Nat.le_refl _, HG.out, ((((HBW.out.setCell (by simp) _).setCell (by simp) _).setCell (by simp) _).setCell (by simp) _)⟩
  have hn2' : ¬ (n : Int) < 2 := by omega
  have hn3' : ¬ (3 : Int) < n := by omega
  have hn1' : (1 : Int) < n := by omega
  have hl1 : 1 < l.length := by rw [HN.out]; omega
  have c1 := HC2.out 1 hl1
  have hxs1 := HSZ.out _ (List.getElem_mem hl1)
  obtain ⟨x1, hx1⟩ : ∃ x, l[1]'hl1 = x := ⟨_, rfl⟩
  rw [hx1] at c1 hxs1
  have HX1 : Hid (∀ x, l[1]? = some x → x = x1) := fun x hx => by
    rw [List.getElem?_eq_getElem hl1, hx1] at hx
    exact (Option.some.inj hx).symm
  have HN1 := hidOf (l1Num_any x1 w2 hxs1)
  clear hx1
  have slb : lb < w2.heap.size := s2
  go_wp2_with fail
  refine HN1.out.mono ?_
  rintro e w3 ⟨t, rfl, ht, hw3⟩
  rw [hw3]
  clear hw3 w3
  have HT : Hid (∀ x, l[1]? = some x → Reads6 x t) := fun x hx => by rw [HX1.out x hx]; exact ht
  clear ht c1
  obtain ⟨W4, hW4⟩ : ∃ W4, w2.alloc (.cells #[.int .i64 F, .int .i64 t, .int .i64 0, .slice none 0 0] 26) = W4 := ⟨_, rfl⟩
  have hb4 : Below w2.heap.size w2 W4 := by rw [← hW4]; exact (Below.refl _ _).alloc (Nat.le_refl _) _
  have hs4 : W4.heap.size = w2.heap.size + 1 := by rw [← hW4]; simp
  have BQ4 := hidOf (show BoxAt w2.heap.size [.int .i64 F, .int .i64 t, .int .i64 0, .slice none 0 0] W4 by rw [← hW4]; exact boxAt_new w2 _ _)
  have HW4 := hidOf hW4
  have HB4 := hidOf (HBW.out.trans (hb4.mono HBW.out.size))
  have BX4 := hidOf (BX2.out.below hb4)
  clear hb4 hW4
  have hne : w.heap.size ≠ w2.heap.size := by omega
  have hq1 : w2.heap.size < W4.heap.size := by omega
  by_cases h3 : n = 3
  case neg =>
    have h3b : ((n : Int) == 3) = false := by rw [beq_eq_false_iff_ne]; omega
    have HGM := hidOf (gotE_ofM (evReadM HL.out HK.out HT.out (m := 0) (vs := []) (.inr (.inr ⟨by rw [HN.out]; exact h3, rfl, rfl⟩))))
    obtain ⟨WQ, hWQ⟩ : ∃ W, w2.alloc (.cells #[.int .i64 F, .int .i64 t, .int .i64 0, .slice none 0 0] 26) = W := ⟨_, rfl⟩
    have BQQ := hidOf (show BoxAt w2.heap.size [.int .i64 F, .int .i64 t, .int .i64 0, .slice none 0 0] WQ by rw [← hWQ]; exact (by rw [HW4.out]; exact BQ4.out))
    have BXQ := hidOf (show BoxAt w.heap.size [.int .i64 0, .int .i64 0, .int .i64 0, .slice none 0 0] WQ by rw [← hWQ]; exact (by rw [HW4.out]; exact BX4.out))
    have HBQ := hidOf (show Below w.heap.size w WQ by rw [← hWQ]; exact (by rw [HW4.out]; exact HB4.out))
    have hiQ : IsInts WQ.heap.size WQ none 0 [] := by rw [← hWQ]; exact ⟨rfl, .inl rfl⟩
    have HFQ := hidOf (show FreeI (w.heap.size + 1) WQ none 0 [] by rw [← hWQ]; exact ⟨⟨rfl, .inl rfl⟩, .inl rfl⟩)
    have HWQ := hidOf hWQ
    have HOK := hidOf (l26Ok_any WQ.heap.size F t 0 none 0 0 [] WQ (Nat.le_refl _) (by decide) hiQ)
    have HPUT : Hid (okE (F, t, 0, []) = true → ∀ W, Below WQ.heap.size WQ W → Calls Tryz.prog 39 #[.agg #[.int .i64 F, .int .i64 t, .int .i64 0, .slice none 0 0]] W fun e w' => e = .returned (.string (bt8 (evT (F, t, 0, [])))) ∧ Below W.heap.size W w') := fun h W hb =>
      l26Put_any W.heap.size F t 0 none 0 0 [] W (Nat.le_refl _) ((hiQ.below hb).mono hb.size) h
    obtain ⟨K, hK⟩ : ∃ K, okE (F, t, 0, []) = K := ⟨_, rfl⟩
    rw [hK] at HOK HPUT
    clear hWQ hiQ
    cases K with
    | false =>
      have HG := hidOf (HGM.out.2 (.inl hK))
      clear hK
      go_wp2_with fail
      rw [HWQ.out]
      refine HOK.out.mono ?_
      rintro e w6 ⟨rfl, hb6⟩
      have HB6 := hidOf (HBQ.out.trans (hb6.mono HBQ.out.size))
      have BX6 := hidOf (BXQ.out.below hb6)
      clear hb6
      have r0 : w6.cell? ⟨w.heap.size, 0, none⟩ = some _ := (BX6.out.2 0 _ rfl).1
      have r1 : w6.cell? ⟨w.heap.size, 1, none⟩ = some _ := (BX6.out.2 1 _ rfl).1
      have r2 : w6.cell? ⟨w.heap.size, 2, none⟩ = some _ := (BX6.out.2 2 _ rfl).1
      have r3 : w6.cell? ⟨w.heap.size, 3, none⟩ = some _ := (BX6.out.2 3 _ rfl).1
      have f0 := (BX6.out.2 0 _ rfl).2
      have f1 := (BX6.out.2 1 _ rfl).2
      have f2 := (BX6.out.2 2 _ rfl).2
      have f3 := (BX6.out.2 3 _ rfl).2
      have s6 := BX6.out.1
      have e0 := (BX6.out.2 0 _ rfl).1
      have e1 := ((BX6.out.set 0 (.int .i64 0)).2 1 _ rfl).1
      have e2 := (((BX6.out.set 0 (.int .i64 0)).set 1 (.int .i64 0)).2 2 _ rfl).1
      have e3 := ((((BX6.out.set 0 (.int .i64 0)).set 1 (.int .i64 0)).set 2 (.int .i64 0)).2 3 _ rfl).1
      have k0 := (((((BX6.out.set 0 (.int .i64 0)).set 1 (.int .i64 0)).set 2 (.int .i64 0)).set 3 (.slice none 0 0)).2 0 _ rfl).1
      have k1 := (((((BX6.out.set 0 (.int .i64 0)).set 1 (.int .i64 0)).set 2 (.int .i64 0)).set 3 (.slice none 0 0)).2 1 _ rfl).1
      have k2 := (((((BX6.out.set 0 (.int .i64 0)).set 1 (.int .i64 0)).set 2 (.int .i64 0)).set 3 (.slice none 0 0)).2 2 _ rfl).1
      have k3 := (((((BX6.out.set 0 (.int .i64 0)).set 1 (.int .i64 0)).set 2 (.int .i64 0)).set 3 (.slice none 0 0)).2 3 _ rfl).1
      go_wp2_with fail
      refine bodyPost_ret (by simp [results, Tryz.results29, go_sem, k0, k1, k2, k3]; try rfl) rfl ?_
      exact ⟨0, 0, 0, none, 0, 0, [], false, rfl, ⟨⟨rfl, .inl rfl⟩, .inl rfl⟩, Nat.le_refl _, HG.out, ((((HB6.out.setCell (by simp) _).setCell (by simp) _).setCell (by simp) _).setCell (by simp) _)⟩
    | true =>
      by_cases hp : bt8 (evT (F, t, 0, [])) = s
      · have HG := hidOf (HGM.out.1 hK hp)
        rw [hp] at HPUT
        clear hK hp
        go_wp2_with fail
        rw [HWQ.out]
        refine HOK.out.mono ?_
        rintro e w6 ⟨rfl, hb6⟩
        have HB6 := hidOf (HBQ.out.trans (hb6.mono HBQ.out.size))
        have BX6 := hidOf (BXQ.out.below hb6)
        have BQ6 := hidOf (BQQ.out.below hb6)
        have HF6 := hidOf (HFQ.out.below hb6)
        have HP6 := hidOf (by first | exact HPUT.out rfl w6 hb6 | exact HPUT.out trivial w6 hb6 | exact HPUT.out w6 hb6)
        clear hb6
        have u0 : w6.cell? ⟨w2.heap.size, 0, none⟩ = some _ := (BQ6.out.2 0 _ rfl).1
        have u1 : w6.cell? ⟨w2.heap.size, 1, none⟩ = some _ := (BQ6.out.2 1 _ rfl).1
        have u2 : w6.cell? ⟨w2.heap.size, 2, none⟩ = some _ := (BQ6.out.2 2 _ rfl).1
        have u3 : w6.cell? ⟨w2.heap.size, 3, none⟩ = some _ := (BQ6.out.2 3 _ rfl).1
        have s6 := BQ6.out.1
        go_wp2_with fail
        refine HP6.out.mono ?_
        rintro e w7 ⟨rfl, hb7⟩
        have HB7 := hidOf (HB6.out.trans (hb7.mono HB6.out.size))
        have BX7 := hidOf (BX6.out.below hb7)
        have BQ7 := hidOf (BQ6.out.below hb7)
        have HF7 := hidOf (HF6.out.below hb7)
        clear hb7
        have q0 : w7.cell? ⟨w2.heap.size, 0, none⟩ = some _ := (BQ7.out.2 0 _ rfl).1
        have q1 : w7.cell? ⟨w2.heap.size, 1, none⟩ = some _ := (BQ7.out.2 1 _ rfl).1
        have q2 : w7.cell? ⟨w2.heap.size, 2, none⟩ = some _ := (BQ7.out.2 2 _ rfl).1
        have q3 : w7.cell? ⟨w2.heap.size, 3, none⟩ = some _ := (BQ7.out.2 3 _ rfl).1
        have r0 : w7.cell? ⟨w.heap.size, 0, none⟩ = some _ := (BX7.out.2 0 _ rfl).1
        have r1 : w7.cell? ⟨w.heap.size, 1, none⟩ = some _ := (BX7.out.2 1 _ rfl).1
        have r2 : w7.cell? ⟨w.heap.size, 2, none⟩ = some _ := (BX7.out.2 2 _ rfl).1
        have r3 : w7.cell? ⟨w.heap.size, 3, none⟩ = some _ := (BX7.out.2 3 _ rfl).1
        have f0 := (BX7.out.2 0 _ rfl).2
        have f1 := (BX7.out.2 1 _ rfl).2
        have f2 := (BX7.out.2 2 _ rfl).2
        have f3 := (BX7.out.2 3 _ rfl).2
        have s7 := BX7.out.1
        have s8 := BQ7.out.1
        have e0 := (BX7.out.2 0 _ rfl).1
        have e1 := ((BX7.out.set 0 (.int .i64 F)).2 1 _ rfl).1
        have e2 := (((BX7.out.set 0 (.int .i64 F)).set 1 (.int .i64 t)).2 2 _ rfl).1
        have e3 := ((((BX7.out.set 0 (.int .i64 F)).set 1 (.int .i64 t)).set 2 (.int .i64 0)).2 3 _ rfl).1
        have k0 := (((((BX7.out.set 0 (.int .i64 F)).set 1 (.int .i64 t)).set 2 (.int .i64 0)).set 3 (.slice none 0 0)).2 0 _ rfl).1
        have k1 := (((((BX7.out.set 0 (.int .i64 F)).set 1 (.int .i64 t)).set 2 (.int .i64 0)).set 3 (.slice none 0 0)).2 1 _ rfl).1
        have k2 := (((((BX7.out.set 0 (.int .i64 F)).set 1 (.int .i64 t)).set 2 (.int .i64 0)).set 3 (.slice none 0 0)).2 2 _ rfl).1
        have k3 := (((((BX7.out.set 0 (.int .i64 F)).set 1 (.int .i64 t)).set 2 (.int .i64 0)).set 3 (.slice none 0 0)).2 3 _ rfl).1
        have HM : Hid (MvR w.heap.size (w.heap.size + 1) w7 ((((w7.setCell ⟨w.heap.size, 0, none⟩ (.int .i64 F)).setCell ⟨w.heap.size, 1, none⟩ (.int .i64 t)).setCell ⟨w.heap.size, 2, none⟩ (.int .i64 0)).setCell ⟨w.heap.size, 3, none⟩ (.slice none 0 0))) :=
          ((((((Mv.refl w.heap.size _).cell 0 _).cell 1 _).cell 2 _).cell 3 _).range (Nat.le_refl _) (by omega))
        go_wp2_with fail
        refine bodyPost_ret (by simp [results, Tryz.results29, go_sem, k0, k1, k2, k3]; try rfl) rfl ?_
        exact ⟨F, t, 0, none, 0, 0, [], true, rfl, (HF7.out.mvR HM.out (Nat.le_refl _)).low (by omega), (by first | exact Nat.le_refl _ | exact hc), HG.out, ((((HB7.out.setCell (by simp) _).setCell (by simp) _).setCell (by simp) _).setCell (by simp) _)⟩
      · have HG := hidOf (HGM.out.2 (.inr hp))
        have hpb := txt_ne hp
        obtain ⟨P, hP⟩ : ∃ P, bt8 (evT (F, t, 0, [])) = P := ⟨_, rfl⟩
        rw [hP] at HPUT hpb
        clear hK hp hP
        go_wp2_with fail
        rw [HWQ.out]
        refine HOK.out.mono ?_
        rintro e w6 ⟨rfl, hb6⟩
        have HB6 := hidOf (HBQ.out.trans (hb6.mono HBQ.out.size))
        have BX6 := hidOf (BXQ.out.below hb6)
        have BQ6 := hidOf (BQQ.out.below hb6)
        have HP6 := hidOf (by first | exact HPUT.out rfl w6 hb6 | exact HPUT.out trivial w6 hb6 | exact HPUT.out w6 hb6)
        clear hb6
        have u0 : w6.cell? ⟨w2.heap.size, 0, none⟩ = some _ := (BQ6.out.2 0 _ rfl).1
        have u1 : w6.cell? ⟨w2.heap.size, 1, none⟩ = some _ := (BQ6.out.2 1 _ rfl).1
        have u2 : w6.cell? ⟨w2.heap.size, 2, none⟩ = some _ := (BQ6.out.2 2 _ rfl).1
        have u3 : w6.cell? ⟨w2.heap.size, 3, none⟩ = some _ := (BQ6.out.2 3 _ rfl).1
        have s6 := BQ6.out.1
        go_wp2_with fail
        refine HP6.out.mono ?_
        rintro e w7 ⟨rfl, hb7⟩
        have HB7 := hidOf (HB6.out.trans (hb7.mono HB6.out.size))
        have BX7 := hidOf (BX6.out.below hb7)
        clear hb7
        have r0 : w7.cell? ⟨w.heap.size, 0, none⟩ = some _ := (BX7.out.2 0 _ rfl).1
        have r1 : w7.cell? ⟨w.heap.size, 1, none⟩ = some _ := (BX7.out.2 1 _ rfl).1
        have r2 : w7.cell? ⟨w.heap.size, 2, none⟩ = some _ := (BX7.out.2 2 _ rfl).1
        have r3 : w7.cell? ⟨w.heap.size, 3, none⟩ = some _ := (BX7.out.2 3 _ rfl).1
        have f0 := (BX7.out.2 0 _ rfl).2
        have f1 := (BX7.out.2 1 _ rfl).2
        have f2 := (BX7.out.2 2 _ rfl).2
        have f3 := (BX7.out.2 3 _ rfl).2
        have s7 := BX7.out.1
        have e0 := (BX7.out.2 0 _ rfl).1
        have e1 := ((BX7.out.set 0 (.int .i64 0)).2 1 _ rfl).1
        have e2 := (((BX7.out.set 0 (.int .i64 0)).set 1 (.int .i64 0)).2 2 _ rfl).1
        have e3 := ((((BX7.out.set 0 (.int .i64 0)).set 1 (.int .i64 0)).set 2 (.int .i64 0)).2 3 _ rfl).1
        have k0 := (((((BX7.out.set 0 (.int .i64 0)).set 1 (.int .i64 0)).set 2 (.int .i64 0)).set 3 (.slice none 0 0)).2 0 _ rfl).1
        have k1 := (((((BX7.out.set 0 (.int .i64 0)).set 1 (.int .i64 0)).set 2 (.int .i64 0)).set 3 (.slice none 0 0)).2 1 _ rfl).1
        have k2 := (((((BX7.out.set 0 (.int .i64 0)).set 1 (.int .i64 0)).set 2 (.int .i64 0)).set 3 (.slice none 0 0)).2 2 _ rfl).1
        have k3 := (((((BX7.out.set 0 (.int .i64 0)).set 1 (.int .i64 0)).set 2 (.int .i64 0)).set 3 (.slice none 0 0)).2 3 _ rfl).1
        go_wp2_with fail
        refine bodyPost_ret (by simp [results, Tryz.results29, go_sem, k0, k1, k2, k3]; try rfl) rfl ?_
        exact ⟨0, 0, 0, none, 0, 0, [], false, rfl, ⟨⟨rfl, .inl rfl⟩, .inl rfl⟩, Nat.le_refl _, HG.out, ((((HB7.out.setCell (by simp) _).setCell (by simp) _).setCell (by simp) _).setCell (by simp) _)⟩
  have h3b : ((n : Int) == 3) = true := by rw [beq_iff_eq]; omega
  have hl2 : 2 < l.length := by rw [HN.out]; omega
  have c2 := HC2.out 2 hl2
  have hn22 : (2 : Int) < n := by omega
  have hxs2 := HSZ.out _ (List.getElem_mem hl2)
  obtain ⟨x2, hx2⟩ : ∃ x, l[2]'hl2 = x := ⟨_, rfl⟩
  rw [hx2] at c2 hxs2
  have HX2 : Hid (∀ x, l[2]? = some x → x = x2) := fun x hx => by
    rw [List.getElem?_eq_getElem hl2, hx2] at hx
    exact (Option.some.inj hx).symm
  have HL3 : Hid (l.length = 3) := by show _ = _; rw [HN.out]; exact h3
  clear hx2 h3
  by_cases h7 : F = 7
  · have H7 := hidOf h7
    have h7b : (F == 7) = true := by rw [beq_iff_eq]; exact h7
    have HNM := hidOf (l1Num_any x2 W4 hxs2)
    clear h7
    go_wp2_with fail
    rw [HW4.out]
    refine HNM.out.mono ?_
    rintro e w5 ⟨m, rfl, hm, hw5⟩
    rw [hw5]
    clear hw5 w5
    have HGM := hidOf (gotE_ofM (evReadM HL.out HK.out HT.out (m := m) (vs := []) (.inl ⟨HL3.out, H7.out, fun x hx => by rw [HX2.out x hx]; exact hm, rfl⟩)))
    have BY := BX4.out.mv ((Mv.refl w2.heap.size W4).cell 2 (.int .i64 m)) hne
    have BZ := BQ4.out.set 2 (.int .i64 m)
    have t0 := (BZ.2 0 _ rfl).1
    have t1 := (BZ.2 1 _ rfl).1
    have t2 := (BZ.2 2 _ rfl).1
    have t3 := (BZ.2 3 _ rfl).1
    have u2 : W4.cell? ⟨w2.heap.size, 2, none⟩ = some (.int .i64 0) := (BQ4.out.2 2 _ rfl).1
    have v2 := (BQ4.out.2 2 _ rfl).2
    have hbz : Below w.heap.size w (W4.setCell ⟨w2.heap.size, 2, none⟩ (.int .i64 m)) := HB4.out.setCell (by simp; omega) _
    clear hm
    obtain ⟨WQ, hWQ⟩ : ∃ W, W4.setCell ⟨w2.heap.size, 2, none⟩ (.int .i64 m) = W := ⟨_, rfl⟩
    have BQQ := hidOf (show BoxAt w2.heap.size [.int .i64 F, .int .i64 t, .int .i64 m, .slice none 0 0] WQ by rw [← hWQ]; exact BZ)
    have BXQ := hidOf (show BoxAt w.heap.size [.int .i64 0, .int .i64 0, .int .i64 0, .slice none 0 0] WQ by rw [← hWQ]; exact BY)
    have HBQ := hidOf (show Below w.heap.size w WQ by rw [← hWQ]; exact hbz)
    have hiQ : IsInts WQ.heap.size WQ none 0 [] := by rw [← hWQ]; exact ⟨rfl, .inl rfl⟩
    have HFQ := hidOf (show FreeI (w.heap.size + 1) WQ none 0 [] by rw [← hWQ]; exact ⟨⟨rfl, .inl rfl⟩, .inl rfl⟩)
    have HWQ := hidOf hWQ
    have HOK := hidOf (l26Ok_any WQ.heap.size F t m none 0 0 [] WQ (Nat.le_refl _) (by decide) hiQ)
    have HPUT : Hid (okE (F, t, m, []) = true → ∀ W, Below WQ.heap.size WQ W → Calls Tryz.prog 39 #[.agg #[.int .i64 F, .int .i64 t, .int .i64 m, .slice none 0 0]] W fun e w' => e = .returned (.string (bt8 (evT (F, t, m, [])))) ∧ Below W.heap.size W w') := fun h W hb =>
      l26Put_any W.heap.size F t m none 0 0 [] W (Nat.le_refl _) ((hiQ.below hb).mono hb.size) h
    obtain ⟨K, hK⟩ : ∃ K, okE (F, t, m, []) = K := ⟨_, rfl⟩
    rw [hK] at HOK HPUT
    clear hWQ hiQ
    cases K with
    | false =>
      have HG := hidOf (HGM.out.2 (.inl hK))
      clear hK
      clear BY BZ hbz; go_wp2_with fail
      rw [HWQ.out]
      refine HOK.out.mono ?_
      rintro e w6 ⟨rfl, hb6⟩
      have HB6 := hidOf (HBQ.out.trans (hb6.mono HBQ.out.size))
      have BX6 := hidOf (BXQ.out.below hb6)
      clear hb6
      have r0 : w6.cell? ⟨w.heap.size, 0, none⟩ = some _ := (BX6.out.2 0 _ rfl).1
      have r1 : w6.cell? ⟨w.heap.size, 1, none⟩ = some _ := (BX6.out.2 1 _ rfl).1
      have r2 : w6.cell? ⟨w.heap.size, 2, none⟩ = some _ := (BX6.out.2 2 _ rfl).1
      have r3 : w6.cell? ⟨w.heap.size, 3, none⟩ = some _ := (BX6.out.2 3 _ rfl).1
      have f0 := (BX6.out.2 0 _ rfl).2
      have f1 := (BX6.out.2 1 _ rfl).2
      have f2 := (BX6.out.2 2 _ rfl).2
      have f3 := (BX6.out.2 3 _ rfl).2
      have s6 := BX6.out.1
      have e0 := (BX6.out.2 0 _ rfl).1
      have e1 := ((BX6.out.set 0 (.int .i64 0)).2 1 _ rfl).1
      have e2 := (((BX6.out.set 0 (.int .i64 0)).set 1 (.int .i64 0)).2 2 _ rfl).1
      have e3 := ((((BX6.out.set 0 (.int .i64 0)).set 1 (.int .i64 0)).set 2 (.int .i64 0)).2 3 _ rfl).1
      have k0 := (((((BX6.out.set 0 (.int .i64 0)).set 1 (.int .i64 0)).set 2 (.int .i64 0)).set 3 (.slice none 0 0)).2 0 _ rfl).1
      have k1 := (((((BX6.out.set 0 (.int .i64 0)).set 1 (.int .i64 0)).set 2 (.int .i64 0)).set 3 (.slice none 0 0)).2 1 _ rfl).1
      have k2 := (((((BX6.out.set 0 (.int .i64 0)).set 1 (.int .i64 0)).set 2 (.int .i64 0)).set 3 (.slice none 0 0)).2 2 _ rfl).1
      have k3 := (((((BX6.out.set 0 (.int .i64 0)).set 1 (.int .i64 0)).set 2 (.int .i64 0)).set 3 (.slice none 0 0)).2 3 _ rfl).1
      go_wp2_with fail
      refine bodyPost_ret (by simp [results, Tryz.results29, go_sem, k0, k1, k2, k3]; try rfl) rfl ?_
      exact ⟨0, 0, 0, none, 0, 0, [], false, rfl, ⟨⟨rfl, .inl rfl⟩, .inl rfl⟩, Nat.le_refl _, HG.out, ((((HB6.out.setCell (by simp) _).setCell (by simp) _).setCell (by simp) _).setCell (by simp) _)⟩
    | true =>
      by_cases hp : bt8 (evT (F, t, m, [])) = s
      · have HG := hidOf (HGM.out.1 hK hp)
        rw [hp] at HPUT
        clear hK hp
        clear BY BZ hbz; go_wp2_with fail
        rw [HWQ.out]
        refine HOK.out.mono ?_
        rintro e w6 ⟨rfl, hb6⟩
        have HB6 := hidOf (HBQ.out.trans (hb6.mono HBQ.out.size))
        have BX6 := hidOf (BXQ.out.below hb6)
        have BQ6 := hidOf (BQQ.out.below hb6)
        have HF6 := hidOf (HFQ.out.below hb6)
        have HP6 := hidOf (by first | exact HPUT.out rfl w6 hb6 | exact HPUT.out trivial w6 hb6 | exact HPUT.out w6 hb6)
        clear hb6
        have u0 : w6.cell? ⟨w2.heap.size, 0, none⟩ = some _ := (BQ6.out.2 0 _ rfl).1
        have u1 : w6.cell? ⟨w2.heap.size, 1, none⟩ = some _ := (BQ6.out.2 1 _ rfl).1
        have u2 : w6.cell? ⟨w2.heap.size, 2, none⟩ = some _ := (BQ6.out.2 2 _ rfl).1
        have u3 : w6.cell? ⟨w2.heap.size, 3, none⟩ = some _ := (BQ6.out.2 3 _ rfl).1
        have s6 := BQ6.out.1
        go_wp2_with fail
        refine HP6.out.mono ?_
        rintro e w7 ⟨rfl, hb7⟩
        have HB7 := hidOf (HB6.out.trans (hb7.mono HB6.out.size))
        have BX7 := hidOf (BX6.out.below hb7)
        have BQ7 := hidOf (BQ6.out.below hb7)
        have HF7 := hidOf (HF6.out.below hb7)
        clear hb7
        have q0 : w7.cell? ⟨w2.heap.size, 0, none⟩ = some _ := (BQ7.out.2 0 _ rfl).1
        have q1 : w7.cell? ⟨w2.heap.size, 1, none⟩ = some _ := (BQ7.out.2 1 _ rfl).1
        have q2 : w7.cell? ⟨w2.heap.size, 2, none⟩ = some _ := (BQ7.out.2 2 _ rfl).1
        have q3 : w7.cell? ⟨w2.heap.size, 3, none⟩ = some _ := (BQ7.out.2 3 _ rfl).1
        have r0 : w7.cell? ⟨w.heap.size, 0, none⟩ = some _ := (BX7.out.2 0 _ rfl).1
        have r1 : w7.cell? ⟨w.heap.size, 1, none⟩ = some _ := (BX7.out.2 1 _ rfl).1
        have r2 : w7.cell? ⟨w.heap.size, 2, none⟩ = some _ := (BX7.out.2 2 _ rfl).1
        have r3 : w7.cell? ⟨w.heap.size, 3, none⟩ = some _ := (BX7.out.2 3 _ rfl).1
        have f0 := (BX7.out.2 0 _ rfl).2
        have f1 := (BX7.out.2 1 _ rfl).2
        have f2 := (BX7.out.2 2 _ rfl).2
        have f3 := (BX7.out.2 3 _ rfl).2
        have s7 := BX7.out.1
        have s8 := BQ7.out.1
        have e0 := (BX7.out.2 0 _ rfl).1
        have e1 := ((BX7.out.set 0 (.int .i64 F)).2 1 _ rfl).1
        have e2 := (((BX7.out.set 0 (.int .i64 F)).set 1 (.int .i64 t)).2 2 _ rfl).1
        have e3 := ((((BX7.out.set 0 (.int .i64 F)).set 1 (.int .i64 t)).set 2 (.int .i64 m)).2 3 _ rfl).1
        have k0 := (((((BX7.out.set 0 (.int .i64 F)).set 1 (.int .i64 t)).set 2 (.int .i64 m)).set 3 (.slice none 0 0)).2 0 _ rfl).1
        have k1 := (((((BX7.out.set 0 (.int .i64 F)).set 1 (.int .i64 t)).set 2 (.int .i64 m)).set 3 (.slice none 0 0)).2 1 _ rfl).1
        have k2 := (((((BX7.out.set 0 (.int .i64 F)).set 1 (.int .i64 t)).set 2 (.int .i64 m)).set 3 (.slice none 0 0)).2 2 _ rfl).1
        have k3 := (((((BX7.out.set 0 (.int .i64 F)).set 1 (.int .i64 t)).set 2 (.int .i64 m)).set 3 (.slice none 0 0)).2 3 _ rfl).1
        have HM : Hid (MvR w.heap.size (w.heap.size + 1) w7 ((((w7.setCell ⟨w.heap.size, 0, none⟩ (.int .i64 F)).setCell ⟨w.heap.size, 1, none⟩ (.int .i64 t)).setCell ⟨w.heap.size, 2, none⟩ (.int .i64 m)).setCell ⟨w.heap.size, 3, none⟩ (.slice none 0 0))) :=
          ((((((Mv.refl w.heap.size _).cell 0 _).cell 1 _).cell 2 _).cell 3 _).range (Nat.le_refl _) (by omega))
        go_wp2_with fail
        refine bodyPost_ret (by simp [results, Tryz.results29, go_sem, k0, k1, k2, k3]; try rfl) rfl ?_
        exact ⟨F, t, m, none, 0, 0, [], true, rfl, (HF7.out.mvR HM.out (Nat.le_refl _)).low (by omega), (by first | exact Nat.le_refl _ | exact hc), HG.out, ((((HB7.out.setCell (by simp) _).setCell (by simp) _).setCell (by simp) _).setCell (by simp) _)⟩
      · have HG := hidOf (HGM.out.2 (.inr hp))
        have hpb := txt_ne hp
        obtain ⟨P, hP⟩ : ∃ P, bt8 (evT (F, t, m, [])) = P := ⟨_, rfl⟩
        rw [hP] at HPUT hpb
        clear hK hp hP
        clear BY BZ hbz; go_wp2_with fail
        rw [HWQ.out]
        refine HOK.out.mono ?_
        rintro e w6 ⟨rfl, hb6⟩
        have HB6 := hidOf (HBQ.out.trans (hb6.mono HBQ.out.size))
        have BX6 := hidOf (BXQ.out.below hb6)
        have BQ6 := hidOf (BQQ.out.below hb6)
        have HP6 := hidOf (by first | exact HPUT.out rfl w6 hb6 | exact HPUT.out trivial w6 hb6 | exact HPUT.out w6 hb6)
        clear hb6
        have u0 : w6.cell? ⟨w2.heap.size, 0, none⟩ = some _ := (BQ6.out.2 0 _ rfl).1
        have u1 : w6.cell? ⟨w2.heap.size, 1, none⟩ = some _ := (BQ6.out.2 1 _ rfl).1
        have u2 : w6.cell? ⟨w2.heap.size, 2, none⟩ = some _ := (BQ6.out.2 2 _ rfl).1
        have u3 : w6.cell? ⟨w2.heap.size, 3, none⟩ = some _ := (BQ6.out.2 3 _ rfl).1
        have s6 := BQ6.out.1
        go_wp2_with fail
        refine HP6.out.mono ?_
        rintro e w7 ⟨rfl, hb7⟩
        have HB7 := hidOf (HB6.out.trans (hb7.mono HB6.out.size))
        have BX7 := hidOf (BX6.out.below hb7)
        clear hb7
        have r0 : w7.cell? ⟨w.heap.size, 0, none⟩ = some _ := (BX7.out.2 0 _ rfl).1
        have r1 : w7.cell? ⟨w.heap.size, 1, none⟩ = some _ := (BX7.out.2 1 _ rfl).1
        have r2 : w7.cell? ⟨w.heap.size, 2, none⟩ = some _ := (BX7.out.2 2 _ rfl).1
        have r3 : w7.cell? ⟨w.heap.size, 3, none⟩ = some _ := (BX7.out.2 3 _ rfl).1
        have f0 := (BX7.out.2 0 _ rfl).2
        have f1 := (BX7.out.2 1 _ rfl).2
        have f2 := (BX7.out.2 2 _ rfl).2
        have f3 := (BX7.out.2 3 _ rfl).2
        have s7 := BX7.out.1
        have e0 := (BX7.out.2 0 _ rfl).1
        have e1 := ((BX7.out.set 0 (.int .i64 0)).2 1 _ rfl).1
        have e2 := (((BX7.out.set 0 (.int .i64 0)).set 1 (.int .i64 0)).2 2 _ rfl).1
        have e3 := ((((BX7.out.set 0 (.int .i64 0)).set 1 (.int .i64 0)).set 2 (.int .i64 0)).2 3 _ rfl).1
        have k0 := (((((BX7.out.set 0 (.int .i64 0)).set 1 (.int .i64 0)).set 2 (.int .i64 0)).set 3 (.slice none 0 0)).2 0 _ rfl).1
        have k1 := (((((BX7.out.set 0 (.int .i64 0)).set 1 (.int .i64 0)).set 2 (.int .i64 0)).set 3 (.slice none 0 0)).2 1 _ rfl).1
        have k2 := (((((BX7.out.set 0 (.int .i64 0)).set 1 (.int .i64 0)).set 2 (.int .i64 0)).set 3 (.slice none 0 0)).2 2 _ rfl).1
        have k3 := (((((BX7.out.set 0 (.int .i64 0)).set 1 (.int .i64 0)).set 2 (.int .i64 0)).set 3 (.slice none 0 0)).2 3 _ rfl).1
        go_wp2_with fail
        refine bodyPost_ret (by simp [results, Tryz.results29, go_sem, k0, k1, k2, k3]; try rfl) rfl ?_
        exact ⟨0, 0, 0, none, 0, 0, [], false, rfl, ⟨⟨rfl, .inl rfl⟩, .inl rfl⟩, Nat.le_refl _, HG.out, ((((HB7.out.setCell (by simp) _).setCell (by simp) _).setCell (by simp) _).setCell (by simp) _)⟩
  · have H7 := hidOf h7
    have h7b : (F == 7) = false := by rw [beq_eq_false_iff_ne]; exact h7
    have HVM := hidOf (l7GetVals_any x2 W4 hxs2)
    clear h7
    go_wp2_with fail
    rw [HW4.out]
    refine HVM.out.mono ?_
    rintro e w5 ⟨u, vs, rfl, hu, hvl, hrd, hb5⟩
    have HGM := hidOf (gotE_ofM (evReadM HL.out HK.out HT.out (m := 0) (vs := vs) (.inr (.inl ⟨HL3.out, H7.out, rfl, fun x hx => by rw [HX2.out x hx]; exact hrd⟩))))
    obtain ⟨a, c, rfl, hc, hfr⟩ := hu.free
    have HFR := hidOf hfr
    have HB5 := hidOf (HB4.out.trans (hb5.mono HB4.out.size))
    have BX5 := hidOf (BX4.out.below hb5)
    have BQ5 := hidOf (BQ4.out.below hb5)
    have hs5 : W4.heap.size ≤ w5.heap.size := hb5.size
    have hM := ((Mv.refl w2.heap.size w5).cell 3 (.slice a vs.length c)).range (L := w2.heap.size) (H := W4.heap.size) (Nat.le_refl _) (by omega)
    have hfz := HFR.out.mvR hM (Nat.le_refl _)
    have BY := BX5.out.mv ((Mv.refl w2.heap.size w5).cell 3 (.slice a vs.length c)) hne
    have BZ := BQ5.out.set 3 (.slice a vs.length c)
    have t0 := (BZ.2 0 _ rfl).1
    have t1 := (BZ.2 1 _ rfl).1
    have t2 := (BZ.2 2 _ rfl).1
    have t3 := (BZ.2 3 _ rfl).1
    have u3 : w5.cell? ⟨w2.heap.size, 3, none⟩ = some (.slice none 0 0) := (BQ5.out.2 3 _ rfl).1
    have v3 := (BQ5.out.2 3 _ rfl).2
    have s5 := BQ5.out.1
    have hbz : Below w.heap.size w (w5.setCell ⟨w2.heap.size, 3, none⟩ (.slice a vs.length c)) := HB5.out.setCell (by simp; omega) _
    clear hrd hb5 hu hfr
    obtain ⟨WQ, hWQ⟩ : ∃ W, w5.setCell ⟨w2.heap.size, 3, none⟩ (.slice a vs.length c) = W := ⟨_, rfl⟩
    have BQQ := hidOf (show BoxAt w2.heap.size [.int .i64 F, .int .i64 t, .int .i64 0, .slice a vs.length c] WQ by rw [← hWQ]; exact BZ)
    have BXQ := hidOf (show BoxAt w.heap.size [.int .i64 0, .int .i64 0, .int .i64 0, .slice none 0 0] WQ by rw [← hWQ]; exact BY)
    have HBQ := hidOf (show Below w.heap.size w WQ by rw [← hWQ]; exact hbz)
    have hiQ : IsInts WQ.heap.size WQ a vs.length vs := by rw [← hWQ]; exact hfz.1
    have HFQ := hidOf (show FreeI (w.heap.size + 1) WQ a vs.length vs by rw [← hWQ]; exact hfz.low (by omega))
    have HWQ := hidOf hWQ
    have HOK := hidOf (l26Ok_any WQ.heap.size F t 0 a vs.length c vs WQ (Nat.le_refl _) (by omega) hiQ)
    have HPUT : Hid (okE (F, t, 0, vs) = true → ∀ W, Below WQ.heap.size WQ W → Calls Tryz.prog 39 #[.agg #[.int .i64 F, .int .i64 t, .int .i64 0, .slice a vs.length c]] W fun e w' => e = .returned (.string (bt8 (evT (F, t, 0, vs)))) ∧ Below W.heap.size W w') := fun h W hb =>
      l26Put_any W.heap.size F t 0 a vs.length c vs W (Nat.le_refl _) ((hiQ.below hb).mono hb.size) h
    obtain ⟨K, hK⟩ : ∃ K, okE (F, t, 0, vs) = K := ⟨_, rfl⟩
    rw [hK] at HOK HPUT
    clear hWQ hiQ
    cases K with
    | false =>
      have HG := hidOf (HGM.out.2 (.inl hK))
      clear hK
      clear BY BZ hbz hM hfz; go_wp2_with fail
      rw [HWQ.out]
      refine HOK.out.mono ?_
      rintro e w6 ⟨rfl, hb6⟩
      have HB6 := hidOf (HBQ.out.trans (hb6.mono HBQ.out.size))
      have BX6 := hidOf (BXQ.out.below hb6)
      clear hb6
      have r0 : w6.cell? ⟨w.heap.size, 0, none⟩ = some _ := (BX6.out.2 0 _ rfl).1
      have r1 : w6.cell? ⟨w.heap.size, 1, none⟩ = some _ := (BX6.out.2 1 _ rfl).1
      have r2 : w6.cell? ⟨w.heap.size, 2, none⟩ = some _ := (BX6.out.2 2 _ rfl).1
      have r3 : w6.cell? ⟨w.heap.size, 3, none⟩ = some _ := (BX6.out.2 3 _ rfl).1
      have f0 := (BX6.out.2 0 _ rfl).2
      have f1 := (BX6.out.2 1 _ rfl).2
      have f2 := (BX6.out.2 2 _ rfl).2
      have f3 := (BX6.out.2 3 _ rfl).2
      have s6 := BX6.out.1
      have e0 := (BX6.out.2 0 _ rfl).1
      have e1 := ((BX6.out.set 0 (.int .i64 0)).2 1 _ rfl).1
      have e2 := (((BX6.out.set 0 (.int .i64 0)).set 1 (.int .i64 0)).2 2 _ rfl).1
      have e3 := ((((BX6.out.set 0 (.int .i64 0)).set 1 (.int .i64 0)).set 2 (.int .i64 0)).2 3 _ rfl).1
      have k0 := (((((BX6.out.set 0 (.int .i64 0)).set 1 (.int .i64 0)).set 2 (.int .i64 0)).set 3 (.slice none 0 0)).2 0 _ rfl).1
      have k1 := (((((BX6.out.set 0 (.int .i64 0)).set 1 (.int .i64 0)).set 2 (.int .i64 0)).set 3 (.slice none 0 0)).2 1 _ rfl).1
      have k2 := (((((BX6.out.set 0 (.int .i64 0)).set 1 (.int .i64 0)).set 2 (.int .i64 0)).set 3 (.slice none 0 0)).2 2 _ rfl).1
      have k3 := (((((BX6.out.set 0 (.int .i64 0)).set 1 (.int .i64 0)).set 2 (.int .i64 0)).set 3 (.slice none 0 0)).2 3 _ rfl).1
      go_wp2_with fail
      refine bodyPost_ret (by simp [results, Tryz.results29, go_sem, k0, k1, k2, k3]; try rfl) rfl ?_
      exact ⟨0, 0, 0, none, 0, 0, [], false, rfl, ⟨⟨rfl, .inl rfl⟩, .inl rfl⟩, Nat.le_refl _, HG.out, ((((HB6.out.setCell (by simp) _).setCell (by simp) _).setCell (by simp) _).setCell (by simp) _)⟩
    | true =>
      by_cases hp : bt8 (evT (F, t, 0, vs)) = s
      · have HG := hidOf (HGM.out.1 hK hp)
        rw [hp] at HPUT
        clear hK hp
        clear BY BZ hbz hM hfz; go_wp2_with fail
        rw [HWQ.out]
        refine HOK.out.mono ?_
        rintro e w6 ⟨rfl, hb6⟩
        have HB6 := hidOf (HBQ.out.trans (hb6.mono HBQ.out.size))
        have BX6 := hidOf (BXQ.out.below hb6)
        have BQ6 := hidOf (BQQ.out.below hb6)
        have HF6 := hidOf (HFQ.out.below hb6)
        have HP6 := hidOf (by first | exact HPUT.out rfl w6 hb6 | exact HPUT.out trivial w6 hb6 | exact HPUT.out w6 hb6)
        clear hb6
        have u0 : w6.cell? ⟨w2.heap.size, 0, none⟩ = some _ := (BQ6.out.2 0 _ rfl).1
        have u1 : w6.cell? ⟨w2.heap.size, 1, none⟩ = some _ := (BQ6.out.2 1 _ rfl).1
        have u2 : w6.cell? ⟨w2.heap.size, 2, none⟩ = some _ := (BQ6.out.2 2 _ rfl).1
        have u3 : w6.cell? ⟨w2.heap.size, 3, none⟩ = some _ := (BQ6.out.2 3 _ rfl).1
        have s6 := BQ6.out.1
        go_wp2_with fail
        refine HP6.out.mono ?_
        rintro e w7 ⟨rfl, hb7⟩
        have HB7 := hidOf (HB6.out.trans (hb7.mono HB6.out.size))
        have BX7 := hidOf (BX6.out.below hb7)
        have BQ7 := hidOf (BQ6.out.below hb7)
        have HF7 := hidOf (HF6.out.below hb7)
        clear hb7
        have q0 : w7.cell? ⟨w2.heap.size, 0, none⟩ = some _ := (BQ7.out.2 0 _ rfl).1
        have q1 : w7.cell? ⟨w2.heap.size, 1, none⟩ = some _ := (BQ7.out.2 1 _ rfl).1
        have q2 : w7.cell? ⟨w2.heap.size, 2, none⟩ = some _ := (BQ7.out.2 2 _ rfl).1
        have q3 : w7.cell? ⟨w2.heap.size, 3, none⟩ = some _ := (BQ7.out.2 3 _ rfl).1
        have r0 : w7.cell? ⟨w.heap.size, 0, none⟩ = some _ := (BX7.out.2 0 _ rfl).1
        have r1 : w7.cell? ⟨w.heap.size, 1, none⟩ = some _ := (BX7.out.2 1 _ rfl).1
        have r2 : w7.cell? ⟨w.heap.size, 2, none⟩ = some _ := (BX7.out.2 2 _ rfl).1
        have r3 : w7.cell? ⟨w.heap.size, 3, none⟩ = some _ := (BX7.out.2 3 _ rfl).1
        have f0 := (BX7.out.2 0 _ rfl).2
        have f1 := (BX7.out.2 1 _ rfl).2
        have f2 := (BX7.out.2 2 _ rfl).2
        have f3 := (BX7.out.2 3 _ rfl).2
        have s7 := BX7.out.1
        have s8 := BQ7.out.1
        have e0 := (BX7.out.2 0 _ rfl).1
        have e1 := ((BX7.out.set 0 (.int .i64 F)).2 1 _ rfl).1
        have e2 := (((BX7.out.set 0 (.int .i64 F)).set 1 (.int .i64 t)).2 2 _ rfl).1
        have e3 := ((((BX7.out.set 0 (.int .i64 F)).set 1 (.int .i64 t)).set 2 (.int .i64 0)).2 3 _ rfl).1
        have k0 := (((((BX7.out.set 0 (.int .i64 F)).set 1 (.int .i64 t)).set 2 (.int .i64 0)).set 3 (.slice a vs.length c)).2 0 _ rfl).1
        have k1 := (((((BX7.out.set 0 (.int .i64 F)).set 1 (.int .i64 t)).set 2 (.int .i64 0)).set 3 (.slice a vs.length c)).2 1 _ rfl).1
        have k2 := (((((BX7.out.set 0 (.int .i64 F)).set 1 (.int .i64 t)).set 2 (.int .i64 0)).set 3 (.slice a vs.length c)).2 2 _ rfl).1
        have k3 := (((((BX7.out.set 0 (.int .i64 F)).set 1 (.int .i64 t)).set 2 (.int .i64 0)).set 3 (.slice a vs.length c)).2 3 _ rfl).1
        have HM : Hid (MvR w.heap.size (w.heap.size + 1) w7 ((((w7.setCell ⟨w.heap.size, 0, none⟩ (.int .i64 F)).setCell ⟨w.heap.size, 1, none⟩ (.int .i64 t)).setCell ⟨w.heap.size, 2, none⟩ (.int .i64 0)).setCell ⟨w.heap.size, 3, none⟩ (.slice a vs.length c))) :=
          ((((((Mv.refl w.heap.size _).cell 0 _).cell 1 _).cell 2 _).cell 3 _).range (Nat.le_refl _) (by omega))
        go_wp2_with fail
        refine bodyPost_ret (by simp [results, Tryz.results29, go_sem, k0, k1, k2, k3]; try rfl) rfl ?_
        exact ⟨F, t, 0, a, vs.length, c, vs, true, rfl, (HF7.out.mvR HM.out (Nat.le_refl _)).low (by omega), (by first | exact Nat.le_refl _ | exact hc), HG.out, ((((HB7.out.setCell (by simp) _).setCell (by simp) _).setCell (by simp) _).setCell (by simp) _)⟩
      · have HG := hidOf (HGM.out.2 (.inr hp))
        have hpb := txt_ne hp
        obtain ⟨P, hP⟩ : ∃ P, bt8 (evT (F, t, 0, vs)) = P := ⟨_, rfl⟩
        rw [hP] at HPUT hpb
        clear hK hp hP
        clear BY BZ hbz hM hfz; go_wp2_with fail
        rw [HWQ.out]
        refine HOK.out.mono ?_
        rintro e w6 ⟨rfl, hb6⟩
        have HB6 := hidOf (HBQ.out.trans (hb6.mono HBQ.out.size))
        have BX6 := hidOf (BXQ.out.below hb6)
        have BQ6 := hidOf (BQQ.out.below hb6)
        have HP6 := hidOf (by first | exact HPUT.out rfl w6 hb6 | exact HPUT.out trivial w6 hb6 | exact HPUT.out w6 hb6)
        clear hb6
        have u0 : w6.cell? ⟨w2.heap.size, 0, none⟩ = some _ := (BQ6.out.2 0 _ rfl).1
        have u1 : w6.cell? ⟨w2.heap.size, 1, none⟩ = some _ := (BQ6.out.2 1 _ rfl).1
        have u2 : w6.cell? ⟨w2.heap.size, 2, none⟩ = some _ := (BQ6.out.2 2 _ rfl).1
        have u3 : w6.cell? ⟨w2.heap.size, 3, none⟩ = some _ := (BQ6.out.2 3 _ rfl).1
        have s6 := BQ6.out.1
        go_wp2_with fail
        refine HP6.out.mono ?_
        rintro e w7 ⟨rfl, hb7⟩
        have HB7 := hidOf (HB6.out.trans (hb7.mono HB6.out.size))
        have BX7 := hidOf (BX6.out.below hb7)
        clear hb7
        have r0 : w7.cell? ⟨w.heap.size, 0, none⟩ = some _ := (BX7.out.2 0 _ rfl).1
        have r1 : w7.cell? ⟨w.heap.size, 1, none⟩ = some _ := (BX7.out.2 1 _ rfl).1
        have r2 : w7.cell? ⟨w.heap.size, 2, none⟩ = some _ := (BX7.out.2 2 _ rfl).1
        have r3 : w7.cell? ⟨w.heap.size, 3, none⟩ = some _ := (BX7.out.2 3 _ rfl).1
        have f0 := (BX7.out.2 0 _ rfl).2
        have f1 := (BX7.out.2 1 _ rfl).2
        have f2 := (BX7.out.2 2 _ rfl).2
        have f3 := (BX7.out.2 3 _ rfl).2
        have s7 := BX7.out.1
        have e0 := (BX7.out.2 0 _ rfl).1
        have e1 := ((BX7.out.set 0 (.int .i64 0)).2 1 _ rfl).1
        have e2 := (((BX7.out.set 0 (.int .i64 0)).set 1 (.int .i64 0)).2 2 _ rfl).1
        have e3 := ((((BX7.out.set 0 (.int .i64 0)).set 1 (.int .i64 0)).set 2 (.int .i64 0)).2 3 _ rfl).1
        have k0 := (((((BX7.out.set 0 (.int .i64 0)).set 1 (.int .i64 0)).set 2 (.int .i64 0)).set 3 (.slice none 0 0)).2 0 _ rfl).1
        have k1 := (((((BX7.out.set 0 (.int .i64 0)).set 1 (.int .i64 0)).set 2 (.int .i64 0)).set 3 (.slice none 0 0)).2 1 _ rfl).1
        have k2 := (((((BX7.out.set 0 (.int .i64 0)).set 1 (.int .i64 0)).set 2 (.int .i64 0)).set 3 (.slice none 0 0)).2 2 _ rfl).1
        have k3 := (((((BX7.out.set 0 (.int .i64 0)).set 1 (.int .i64 0)).set 2 (.int .i64 0)).set 3 (.slice none 0 0)).2 3 _ rfl).1
        go_wp2_with fail
        refine bodyPost_ret (by simp [results, Tryz.results29, go_sem, k0, k1, k2, k3]; try rfl) rfl ?_
        exact ⟨0, 0, 0, none, 0, 0, [], false, rfl, ⟨⟨rfl, .inl rfl⟩, .inl rfl⟩, Nat.le_refl _, HG.out, ((((HB7.out.setCell (by simp) _).setCell (by simp) _).setCell (by simp) _).setCell (by simp) _)⟩

set_option maxHeartbeats 3200000 in
set_option maxRecDepth 100000 in
theorem specEventGet_any (s : ByteArray) (w : World) (hs : s.size ≤ 1048576) :
    Calls Tryz.prog 10 #[.string s] w (EvGot s w.heap.size w) := by
  obtain ⟨W0, hW0⟩ : ∃ W0, w.alloc (.cells #[.int .i64 0, .int .i64 0, .int .i64 0, .slice none 0 0] 26) = W0 := ⟨_, rfl⟩
  have hb0 : Below w.heap.size w W0 := by rw [← hW0]; exact (Below.refl _ _).alloc (Nat.le_refl _) _
  have hs0 : W0.heap.size = w.heap.size + 1 := by rw [← hW0]; simp
  have BX0 := hidOf (show BoxAt w.heap.size [.int .i64 0, .int .i64 0, .int .i64 0, .slice none 0 0] W0 by rw [← hW0]; exact boxAt_new w _ _)
  have HW0 := hidOf hW0
  have HB0 := hidOf hb0
  have HGT := hidOf (l26Get_any s W0 hs)
  by_cases h80 : 80 < s.size
  · have HG : Hid (GotE s (0, 0, 0, []) false) := .inr ⟨rfl, rfl, fun f hf e => by
      have := evT_len hf
      rw [e, bt8_size] at h80
      omega⟩
    have h80' : (80 : Int) < s.size := by omega
    clear hW0 hb0
    go_enter Tryz.func10, Tryz.ntmps10
    go_wp2_with fail
    refine bodyPost_ret (by simp [results, Tryz.results10, go_sem]; try rfl) rfl ?_
    exact ⟨0, 0, 0, none, 0, 0, [], false, rfl, ⟨⟨rfl, .inl rfl⟩, .inl rfl⟩, Nat.le_refl _, HG.out, (Below.refl _ _).alloc (Nat.le_refl _) _⟩
  · have h80' : ¬ (80 : Int) < s.size := by omega
    clear hW0 hb0
    go_enter Tryz.func10, Tryz.ntmps10
    go_wp2_with fail
    rw [HW0.out]
    refine HGT.out.mono ?_
    rintro e w1 ⟨k, t, m, a, n, c, l, b, rfl, hfr, hc, hg, hb1⟩
    have HFR := hidOf hfr
    have HG := hidOf hg
    have HB1 := hidOf (HB0.out.trans (hb1.mono HB0.out.size))
    have BX1 := hidOf (BX0.out.below hb1)
    have hs1 : w.heap.size + 1 ≤ w1.heap.size := by have := hb1.size; omega
    clear hb1 hfr hg
    have r0 : w1.cell? ⟨w.heap.size, 0, none⟩ = some _ := (BX1.out.2 0 _ rfl).1
    have r1 : w1.cell? ⟨w.heap.size, 1, none⟩ = some _ := (BX1.out.2 1 _ rfl).1
    have r2 : w1.cell? ⟨w.heap.size, 2, none⟩ = some _ := (BX1.out.2 2 _ rfl).1
    have r3 : w1.cell? ⟨w.heap.size, 3, none⟩ = some _ := (BX1.out.2 3 _ rfl).1
    have f0 := (BX1.out.2 0 _ rfl).2
    have f1 := (BX1.out.2 1 _ rfl).2
    have f2 := (BX1.out.2 2 _ rfl).2
    have f3 := (BX1.out.2 3 _ rfl).2
    have s7 := BX1.out.1
    have e0 := (BX1.out.2 0 _ rfl).1
    have e1 := ((BX1.out.set 0 (.int .i64 k)).2 1 _ rfl).1
    have e2 := (((BX1.out.set 0 (.int .i64 k)).set 1 (.int .i64 t)).2 2 _ rfl).1
    have e3 := ((((BX1.out.set 0 (.int .i64 k)).set 1 (.int .i64 t)).set 2 (.int .i64 m)).2 3 _ rfl).1
    have k0 := (((((BX1.out.set 0 (.int .i64 k)).set 1 (.int .i64 t)).set 2 (.int .i64 m)).set 3 (.slice a n c)).2 0 _ rfl).1
    have k1 := (((((BX1.out.set 0 (.int .i64 k)).set 1 (.int .i64 t)).set 2 (.int .i64 m)).set 3 (.slice a n c)).2 1 _ rfl).1
    have k2 := (((((BX1.out.set 0 (.int .i64 k)).set 1 (.int .i64 t)).set 2 (.int .i64 m)).set 3 (.slice a n c)).2 2 _ rfl).1
    have k3 := (((((BX1.out.set 0 (.int .i64 k)).set 1 (.int .i64 t)).set 2 (.int .i64 m)).set 3 (.slice a n c)).2 3 _ rfl).1
    have HM : Hid (MvR w.heap.size (w.heap.size + 1) w1 ((((w1.setCell ⟨w.heap.size, 0, none⟩ (.int .i64 k)).setCell ⟨w.heap.size, 1, none⟩ (.int .i64 t)).setCell ⟨w.heap.size, 2, none⟩ (.int .i64 m)).setCell ⟨w.heap.size, 3, none⟩ (.slice a n c))) :=
      ((((((Mv.refl w.heap.size _).cell 0 _).cell 1 _).cell 2 _).cell 3 _).range (Nat.le_refl _) (by omega))
    go_wp2_with fail
    refine bodyPost_ret (by simp [results, Tryz.results10, go_sem, k0, k1, k2, k3]; try rfl) rfl ?_
    exact ⟨k, t, m, a, n, c, l, b, rfl, (HFR.out.mvR HM.out (by omega)).low (by omega), hc, HG.out, ((((HB1.out.setCell (by simp) _).setCell (by simp) _).setCell (by simp) _).setCell (by simp) _)⟩
end Go.Proofs.YtjmgfpldjccilaaGreatDoor
