/- How the program reads an event. -/
import Derived.Test.YtjmgfpldjccilaaGreatDoorEvGetI2
import Derived.Test.YtjmgfpldjccilaaGreatDoorCpMem
import Derived.Test.YtjmgfpldjccilaaGreatDoorMvR
namespace Go.Proofs.YtjmgfpldjccilaaGreatDoor
open Go Go.RowKit Go.PlainAid
set_option linter.unusedSimpArgs false
set_option linter.unusedVariables false

theorem evRead {s : ByteArray} {l : List ByteArray} (hl : l = splS 32 s) {k t m : Int} {vs : List Int} (hk : ∀ x, l[0]? = some x → ReadsK x k) (ht : ReadsAt l 1 t)
    (hm : (k = 7 ∧ ReadsAt l 2 m ∧ vs = []) ∨ (k = 1 ∧ m = 0 ∧ ∃ x, l[2]? = some x ∧ ReadsV x vs) ∨ (k ≠ 7 ∧ (k = 1 → l.length ≤ 2) ∧ m = 0 ∧ vs = [])) :
    ∀ f : Ev, OkE f → s = bt8 (evT f) → (k, t, m, vs) = f := by
  rintro ⟨fk, ft, fm, fl⟩ hf hs
  have h1 := hf.kind
  have h2 := hf.at_
  have h3 := hf.num
  have h4 := hf.spoil
  have h5 := hf.push
  simp only [] at h1 h2 h3 h4 h5
  have hw : l = (evW (fk, ft, fm, fl)).map bt8 := by
    rw [hl]; unfold splS; rw [hs, bt8_list, evT_spl hf]
  have e1 : k = fk := hk (bt8 (wd fk)) (by rw [hw]; rfl) fk h1.1 h1.2 rfl
  have e2 : t = ft := ht.1 (bt8 (Lib.itoa ft)) (by rw [hw]; rfl) ft (by omega) (by omega) rfl
  subst e1 e2
  have hlen : l.length = (evW (k, t, fm, fl)).length := by rw [hw, List.length_map]
  rcases hm with ⟨a1, a2, a3⟩ | ⟨a1, a2, x, a3, a4⟩ | ⟨a1, a2, a3, a4⟩
  · subst a1 a3
    have e3 : m = fm := a2.1 (bt8 (Lib.itoa fm)) (by rw [hw]; rfl) fm (by omega) (by omega) rfl
    have e4 : fl = [] := h5.resolve_right (fun h => by omega)
    rw [e3, e4]
  · subst a1 a2
    have e3 : fm = 0 := h4.resolve_right (by omega)
    have e4 : fl ≠ [] := by
      intro e
      rw [hw] at a3
      simp [evW, e] at a3
    have e5 : x = bt8 (valsT fl) := by
      rw [hw] at a3
      simp [evW, e4] at a3
      exact a3.symm
    have h6 := h5.resolve_left e4
    rw [e3, a4 fl e4 h6.2.2 e5]
  · subst a3 a4
    have e3 : fm = 0 := h4.resolve_right a1
    have e4 : fl = [] := by
      rcases h5 with h | h
      · exact h
      · by_cases e : fl = []
        · exact e
        · have := a2 h.1
          rw [hlen] at this
          simp [evW, e, a1] at this
    rw [e3, e4]

/-- what the program has read -/
def ReadEv (s : ByteArray) (B : Nat) (w : World) (e : Ending) (w' : World) : Prop :=
  ∃ (k t m : Int) (a : Option Addr) (n c : Nat) (l : List Int), e = .returned (.agg #[.int .i64 k, .int .i64 t, .int .i64 m, .slice a n c]) ∧ FreeI B w' a n l ∧ n ≤ c ∧ n ≤ 1048577 ∧ (∀ f : Ev, OkE f → s = bt8 (evT f) → (k, t, m, l) = f) ∧ Below w.heap.size w w'

set_option maxHeartbeats 3200000 in
set_option maxRecDepth 100000 in
theorem readEvent_any (s : ByteArray) (w : World) (hT : TbG w) (hs : s.size ≤ 1048576) :
    Calls Tryz.prog 28 #[.string s] w (ReadEv s w.heap.size w) := by
  obtain ⟨W0, hW0⟩ : ∃ W0, w.alloc (.cells #[.int .i64 0, .int .i64 0, .int .i64 0, .slice none 0 0] 26) = W0 := ⟨_, rfl⟩
  have hb0 : Below w.heap.size w W0 := by rw [← hW0]; exact (Below.refl _ _).alloc (Nat.le_refl _) _
  have hs0 : W0.heap.size = w.heap.size + 1 := by rw [← hW0]; simp
  have BX0 := hidOf (show BoxAt w.heap.size [.int .i64 0, .int .i64 0, .int .i64 0, .slice none 0 0] W0 by rw [← hW0]; exact boxAt_new w _ _)
  have HW0 := hidOf hW0
  have HTW : Hid (∀ W, Below w.heap.size w W → TbG W) := fun W hb => hT.up hb
  have HSP := hidOf (split_any s 32 W0 (hT.up hb0) hs)
  have HB0 := hidOf hb0
  have hlen := splS_len 32 s
  have hsz := splS_sizes 32 s
  obtain ⟨l, hl⟩ : ∃ l, l = splS 32 s := ⟨_, rfl⟩
  rw [← hl] at HSP hlen hsz
  have HL := hidOf hl
  have HSZ : Hid (∀ x ∈ l, x.size ≤ 1048576) := fun x hx => Nat.le_trans (hsz x hx) hs
  clear hW0 hT hb0 hsz hl
  go_enter Tryz.func28, Tryz.ntmps28
  go_wp2_with fail
  rw [HW0.out]
  refine HSP.out.mono ?_
  rintro e w1 ⟨b, n, rfl, hz, hb1⟩
  have hn := hz.1
  have BX1 := hidOf (BX0.out.below hb1)
  have HB1 := hidOf (HB0.out.trans (hb1.mono HB0.out.size))
  have HZ := hidOf hz
  have hs1 : w.heap.size + 1 ≤ w1.heap.size := by have := hb1.size; omega
  have hl0 : 0 < l.length := by omega
  obtain ⟨hbl, hc0⟩ : b < w1.heap.size ∧ w1.cell? ⟨b, 0, none⟩ = some (.string (l[0]'hl0)) := by
    rcases hz.2 with h0 | ⟨b', o', e', h2, hc⟩
    · omega
    · cases e'
      exact ⟨h2, hc 0 hl0⟩
  obtain ⟨x0, hx0⟩ : ∃ x, l[0]'hl0 = x := ⟨_, rfl⟩
  rw [hx0] at hc0
  have HX0 : Hid (∀ x, l[0]? = some x → x = x0) := fun x hx => by
    rw [List.getElem?_eq_getElem hl0, hx0] at hx
    exact (Option.some.inj hx).symm
  have HK := hidOf (eventKind_any x0 w1 (HTW.out w1 HB1.out).put)
  have hn1 : (0 : Int) < n := by omega
  clear hb1 hz hx0
  go_wp2_with fail
  refine HK.out.mono ?_
  rintro e w2 ⟨k, rfl, hk, hb2⟩
  have HRK := hidOf hk
  have HB2 := hidOf (HB1.out.trans (hb2.mono HB1.out.size))
  have HZ2 := hidOf ((HZ.out.below hb2).mono hb2.size)
  have BX2 := hidOf (BX1.out.below hb2)
  have hs2 : w1.heap.size ≤ w2.heap.size := hb2.size
  have HN1 := hidOf (numberAt_any w2.heap.size _ n n 1 l w2 (HTW.out w2 HB2.out) (Nat.le_refl _) (by omega) (by decide) HZ2.out HSZ.out)
  clear hk hb2 hc0
  go_wp2_with fail
  refine HN1.out.mono ?_
  rintro e w3 ⟨t, rfl, ht, hb3⟩
  have HRT := hidOf ht
  have HB3 := hidOf (HB2.out.trans (hb3.mono HB2.out.size))
  have HZ3 := hidOf ((HZ2.out.below hb3).mono hb3.size)
  have BX3 := hidOf (BX2.out.below hb3)
  have hs3 : w2.heap.size ≤ w3.heap.size := hb3.size
  clear ht hb3 HN1 HK HSP
  -- ENDS
  obtain ⟨W4, hW4⟩ : ∃ W4, w3.alloc (.cells #[.int .i64 k, .int .i64 t, .int .i64 0, .slice none 0 0] 26) = W4 := ⟨_, rfl⟩
  have hb4 : Below w3.heap.size w3 W4 := by rw [← hW4]; exact (Below.refl _ _).alloc (Nat.le_refl _) _
  have hs4 : W4.heap.size = w3.heap.size + 1 := by rw [← hW4]; simp
  have BQ4 := hidOf (show BoxAt w3.heap.size [.int .i64 k, .int .i64 t, .int .i64 0, .slice none 0 0] W4 by rw [← hW4]; exact boxAt_new w3 _ _)
  have HW4 := hidOf hW4
  have HB4 := hidOf (HB3.out.trans (hb4.mono HB3.out.size))
  have BX4 := hidOf (BX3.out.below hb4)
  have HZ4 := hidOf ((HZ3.out.below hb4).mono hb4.size)
  have HN2 := hidOf (numberAt_any W4.heap.size _ n n 2 l W4 (HTW.out W4 HB4.out) (Nat.le_refl _) (by omega) (by decide) HZ4.out HSZ.out)
  have HEV : Hid (∀ m vs, ((k = 7 ∧ ReadsAt l 2 m ∧ vs = []) ∨ (k = 1 ∧ m = 0 ∧ ∃ x, l[2]? = some x ∧ ReadsV x vs) ∨ (k ≠ 7 ∧ (k = 1 → l.length ≤ 2) ∧ m = 0 ∧ vs = [])) → ∀ f : Ev, OkE f → s = bt8 (evT f) → (k, t, m, vs) = f) := fun m vs hm =>
    evRead HL.out (fun x hx => by rw [HX0.out x hx]; exact HRK.out) HRT.out hm
  have r0 : w3.cell? ⟨w.heap.size, 0, none⟩ = some (.int .i64 0) := (BX3.out.2 0 _ rfl).1
  have r1 : w3.cell? ⟨w.heap.size, 1, none⟩ = some (.int .i64 0) := (BX3.out.2 1 _ rfl).1
  have r2 : w3.cell? ⟨w.heap.size, 2, none⟩ = some (.int .i64 0) := (BX3.out.2 2 _ rfl).1
  have r3 : w3.cell? ⟨w.heap.size, 3, none⟩ = some (.slice none 0 0) := (BX3.out.2 3 _ rfl).1
  have f0 := (BX3.out.2 0 _ rfl).2
  have f1 := (BX3.out.2 1 _ rfl).2
  have f2 := (BX3.out.2 2 _ rfl).2
  have f3 := (BX3.out.2 3 _ rfl).2
  have s3 := BX3.out.1
  clear hW4 hb4
  have hne : w.heap.size ≠ w3.heap.size := by omega
  have q0 : W4.cell? ⟨w3.heap.size, 0, none⟩ = some (.int .i64 k) := (BQ4.out.2 0 _ rfl).1
  have q1 : W4.cell? ⟨w3.heap.size, 1, none⟩ = some (.int .i64 t) := (BQ4.out.2 1 _ rfl).1
  have q2 : W4.cell? ⟨w3.heap.size, 2, none⟩ = some (.int .i64 0) := (BQ4.out.2 2 _ rfl).1
  have q3 : W4.cell? ⟨w3.heap.size, 3, none⟩ = some (.slice none 0 0) := (BQ4.out.2 3 _ rfl).1
  have s4 := BQ4.out.1
  have s5 := BX4.out.1
  by_cases h7 : k = 7
  · subst h7
    go_wp2_with fail
    rw [HW4.out]
    refine HN2.out.mono ?_
    rintro e w5 ⟨m, rfl, hm, hb5⟩
    have HF := hidOf (HEV.out m [] (.inl (by simpa using hm)))
    have HB5 := hidOf (HB4.out.trans (hb5.mono HB4.out.size))
    have BX5 := hidOf (BX4.out.below hb5)
    have BQ5 := hidOf (BQ4.out.below hb5)
    have u0 : w5.cell? ⟨w3.heap.size, 0, none⟩ = some (.int .i64 7) := (BQ5.out.2 0 _ rfl).1
    have u1 : w5.cell? ⟨w3.heap.size, 1, none⟩ = some (.int .i64 t) := (BQ5.out.2 1 _ rfl).1
    have u2 : w5.cell? ⟨w3.heap.size, 2, none⟩ = some (.int .i64 0) := (BQ5.out.2 2 _ rfl).1
    have u3 : w5.cell? ⟨w3.heap.size, 3, none⟩ = some (.slice none 0 0) := (BQ5.out.2 3 _ rfl).1
    have v2 := (BQ5.out.2 2 _ rfl).2
    have z0 : w5.cell? ⟨w.heap.size, 0, none⟩ = some (.int .i64 0) := (BX5.out.2 0 _ rfl).1
    have z1 : w5.cell? ⟨w.heap.size, 1, none⟩ = some (.int .i64 0) := (BX5.out.2 1 _ rfl).1
    have z2 : w5.cell? ⟨w.heap.size, 2, none⟩ = some (.int .i64 0) := (BX5.out.2 2 _ rfl).1
    have z3 : w5.cell? ⟨w.heap.size, 3, none⟩ = some (.slice none 0 0) := (BX5.out.2 3 _ rfl).1
    have y0 := (BX5.out.2 0 _ rfl).2
    have y1 := (BX5.out.2 1 _ rfl).2
    have y2 := (BX5.out.2 2 _ rfl).2
    have y3 := (BX5.out.2 3 _ rfl).2
    have s6 := BX5.out.1
    have s7 := BQ5.out.1
    have BY := BX5.out.mv ((Mv.refl w3.heap.size w5).cell 2 (.int .i64 m)) hne
    have BZ := BQ5.out.set 2 (.int .i64 m)
    have t0 := (BZ.2 0 _ rfl).1
    have t1 := (BZ.2 1 _ rfl).1
    have t2 := (BZ.2 2 _ rfl).1
    have t3 := (BZ.2 3 _ rfl).1
    have e0 := (BY.2 0 _ rfl).1
    have e1 := ((BY.set 0 (.int .i64 7)).2 1 _ rfl).1
    have e2 := (((BY.set 0 (.int .i64 7)).set 1 (.int .i64 t)).2 2 _ rfl).1
    have e3 := ((((BY.set 0 (.int .i64 7)).set 1 (.int .i64 t)).set 2 (.int .i64 m)).2 3 _ rfl).1
    have k0 := (((((BY.set 0 (.int .i64 7)).set 1 (.int .i64 t)).set 2 (.int .i64 m)).set 3 (.slice none 0 0)).2 0 _ rfl).1
    have k1 := (((((BY.set 0 (.int .i64 7)).set 1 (.int .i64 t)).set 2 (.int .i64 m)).set 3 (.slice none 0 0)).2 1 _ rfl).1
    have k2 := (((((BY.set 0 (.int .i64 7)).set 1 (.int .i64 t)).set 2 (.int .i64 m)).set 3 (.slice none 0 0)).2 2 _ rfl).1
    have k3 := (((((BY.set 0 (.int .i64 7)).set 1 (.int .i64 t)).set 2 (.int .i64 m)).set 3 (.slice none 0 0)).2 3 _ rfl).1
    clear hm hb5 BY BZ
    go_wp2_with fail
    refine bodyPost_ret (by simp [results, Tryz.results28, go_sem, k0, k1, k2, k3]; try rfl) rfl ?_
    exact ⟨7, t, m, none, 0, 0, [], rfl, ⟨⟨rfl, .inl rfl⟩, .inl rfl⟩, Nat.le_refl _, by omega, HF.out, (((((HB5.out.setCell (by simp; omega) _).setCell (by simp) _).setCell (by simp) _).setCell (by simp) _).setCell (by simp) _)⟩
  by_cases h1 : k = 1
  · by_cases hn2 : 2 < n
    · subst h1
      have hn2' : (2 : Int) < n := by omega
      have hl2 : 2 < l.length := by omega
      obtain ⟨hb3, hc2⟩ : b < w3.heap.size ∧ w3.cell? ⟨b, 2, none⟩ = some (.string (l[2]'hl2)) := by
        rcases HZ3.out.2 with h0 | ⟨b', o', e', h2, hc⟩
        · omega
        · cases e'
          have := hc 2 hl2
          rw [Nat.zero_add] at this
          exact ⟨h2, this⟩
      have hxs := HSZ.out _ (List.getElem_mem hl2)
      obtain ⟨x2, hx2⟩ : ∃ x, l[2]'hl2 = x := ⟨_, rfl⟩
      rw [hx2] at hc2 hxs
      have HX2 : Hid (l[2]? = some x2) := by show _ = _; rw [List.getElem?_eq_getElem hl2, hx2]
      have HVI := hidOf (valuesIn_any x2 W4 (HTW.out W4 HB4.out) hxs)
      have hbne : b ≠ w3.heap.size := by omega
      clear hx2
      go_wp2_with fail
      rw [HW4.out]
      refine HVI.out.mono ?_
      rintro e w5 ⟨u, vs, rfl, hu, hvl, hrd, hb5⟩
      have HF := hidOf (HEV.out 0 vs (.inr (.inl (by first | exact ⟨rfl, rfl, x2, HX2.out, hrd⟩ | exact ⟨trivial, trivial, x2, HX2.out, hrd⟩ | (simp; exact ⟨x2, HX2.out, hrd⟩)))))
      obtain ⟨a, c, rfl, hc, hfr⟩ := hu.free
      have HFR := hidOf hfr
      have HB5 := hidOf (HB4.out.trans (hb5.mono HB4.out.size))
      have BX5 := hidOf (BX4.out.below hb5)
      have BQ5 := hidOf (BQ4.out.below hb5)
      have u0 : w5.cell? ⟨w3.heap.size, 0, none⟩ = some (.int .i64 1) := (BQ5.out.2 0 _ rfl).1
      have u1 : w5.cell? ⟨w3.heap.size, 1, none⟩ = some (.int .i64 t) := (BQ5.out.2 1 _ rfl).1
      have u2 : w5.cell? ⟨w3.heap.size, 2, none⟩ = some (.int .i64 0) := (BQ5.out.2 2 _ rfl).1
      have u3 : w5.cell? ⟨w3.heap.size, 3, none⟩ = some (.slice none 0 0) := (BQ5.out.2 3 _ rfl).1
      have v3 := (BQ5.out.2 3 _ rfl).2
      have z0 : w5.cell? ⟨w.heap.size, 0, none⟩ = some (.int .i64 0) := (BX5.out.2 0 _ rfl).1
      have z1 : w5.cell? ⟨w.heap.size, 1, none⟩ = some (.int .i64 0) := (BX5.out.2 1 _ rfl).1
      have z2 : w5.cell? ⟨w.heap.size, 2, none⟩ = some (.int .i64 0) := (BX5.out.2 2 _ rfl).1
      have z3 : w5.cell? ⟨w.heap.size, 3, none⟩ = some (.slice none 0 0) := (BX5.out.2 3 _ rfl).1
      have y0 := (BX5.out.2 0 _ rfl).2
      have y1 := (BX5.out.2 1 _ rfl).2
      have y2 := (BX5.out.2 2 _ rfl).2
      have y3 := (BX5.out.2 3 _ rfl).2
      have s6 := BX5.out.1
      have s7 := BQ5.out.1
      have BY := BX5.out.mv ((Mv.refl w3.heap.size w5).cell 3 (.slice a vs.length c)) hne
      have BZ := BQ5.out.set 3 (.slice a vs.length c)
      have t0 := (BZ.2 0 _ rfl).1
      have t1 := (BZ.2 1 _ rfl).1
      have t2 := (BZ.2 2 _ rfl).1
      have t3 := (BZ.2 3 _ rfl).1
      have e0 := (BY.2 0 _ rfl).1
      have e1 := ((BY.set 0 (.int .i64 1)).2 1 _ rfl).1
      have e2 := (((BY.set 0 (.int .i64 1)).set 1 (.int .i64 t)).2 2 _ rfl).1
      have e3 := ((((BY.set 0 (.int .i64 1)).set 1 (.int .i64 t)).set 2 (.int .i64 0)).2 3 _ rfl).1
      have k0 := (((((BY.set 0 (.int .i64 1)).set 1 (.int .i64 t)).set 2 (.int .i64 0)).set 3 (.slice a vs.length c)).2 0 _ rfl).1
      have k1 := (((((BY.set 0 (.int .i64 1)).set 1 (.int .i64 t)).set 2 (.int .i64 0)).set 3 (.slice a vs.length c)).2 1 _ rfl).1
      have k2 := (((((BY.set 0 (.int .i64 1)).set 1 (.int .i64 t)).set 2 (.int .i64 0)).set 3 (.slice a vs.length c)).2 2 _ rfl).1
      have k3 := (((((BY.set 0 (.int .i64 1)).set 1 (.int .i64 t)).set 2 (.int .i64 0)).set 3 (.slice a vs.length c)).2 3 _ rfl).1
      have HM : Hid (MvR w.heap.size W4.heap.size w5 (((((w5.setCell ⟨w3.heap.size, 3, none⟩ (.slice a vs.length c)).setCell ⟨w.heap.size, 0, none⟩ (.int .i64 1)).setCell ⟨w.heap.size, 1, none⟩ (.int .i64 t)).setCell ⟨w.heap.size, 2, none⟩ (.int .i64 0)).setCell ⟨w.heap.size, 3, none⟩ (.slice a vs.length c))) :=
        (((Mv.refl w3.heap.size w5).cell 3 (.slice a vs.length c)).range (by omega) (by omega)).trans ((((((Mv.refl w.heap.size _).cell 0 _).cell 1 _).cell 2 _).cell 3 _).range (Nat.le_refl _) (by omega))
      clear hrd hb5 BY BZ hu hfr hc2
      go_wp2_with fail
      refine bodyPost_ret (by simp [results, Tryz.results28, go_sem, k0, k1, k2, k3]; try rfl) rfl ?_
      exact ⟨1, t, 0, a, vs.length, c, vs, rfl, (HFR.out.mvR HM.out (Nat.le_refl _)).low (by omega), hc, hvl, HF.out, (((((HB5.out.setCell (by simp; omega) _).setCell (by simp) _).setCell (by simp) _).setCell (by simp) _).setCell (by simp) _)⟩
    · subst h1
      have hn2' : ¬ (2 : Int) < n := by omega
      have HF := hidOf (HEV.out 0 [] (.inr (.inr ⟨h7, fun _ => by omega, rfl, rfl⟩)))
      have e0 := (BX3.out.2 0 _ rfl).1
      have e1 := ((BX3.out.set 0 (.int .i64 1)).2 1 _ rfl).1
      have e2 := (((BX3.out.set 0 (.int .i64 1)).set 1 (.int .i64 t)).2 2 _ rfl).1
      have e3 := ((((BX3.out.set 0 (.int .i64 1)).set 1 (.int .i64 t)).set 2 (.int .i64 0)).2 3 _ rfl).1
      have k0 := (((((BX3.out.set 0 (.int .i64 1)).set 1 (.int .i64 t)).set 2 (.int .i64 0)).set 3 (.slice none 0 0)).2 0 _ rfl).1
      have k1 := (((((BX3.out.set 0 (.int .i64 1)).set 1 (.int .i64 t)).set 2 (.int .i64 0)).set 3 (.slice none 0 0)).2 1 _ rfl).1
      have k2 := (((((BX3.out.set 0 (.int .i64 1)).set 1 (.int .i64 t)).set 2 (.int .i64 0)).set 3 (.slice none 0 0)).2 2 _ rfl).1
      have k3 := (((((BX3.out.set 0 (.int .i64 1)).set 1 (.int .i64 t)).set 2 (.int .i64 0)).set 3 (.slice none 0 0)).2 3 _ rfl).1
      go_wp2_with fail
      refine bodyPost_ret (by simp [results, Tryz.results28, go_sem, k0, k1, k2, k3, s3]; try rfl) rfl ?_
      exact ⟨1, t, 0, none, 0, 0, [], rfl, ⟨⟨rfl, .inl rfl⟩, .inl rfl⟩, Nat.le_refl _, by omega, HF.out, (((((HB3.out.setCell (by simp) _).setCell (by simp) _).setCell (by simp) _).setCell (by simp) _).alloc (by simp [World.setCell]; omega) _)⟩
  · skip
    have h7b : (k == 7) = false := by simp [h7]
    have h1b : (k == 1) = false := by simp [h1]
    have HF := hidOf (HEV.out 0 [] (.inr (.inr ⟨h7, fun h => absurd h h1, rfl, rfl⟩)))
    have e0 := (BX3.out.2 0 _ rfl).1
    have e1 := ((BX3.out.set 0 (.int .i64 k)).2 1 _ rfl).1
    have e2 := (((BX3.out.set 0 (.int .i64 k)).set 1 (.int .i64 t)).2 2 _ rfl).1
    have e3 := ((((BX3.out.set 0 (.int .i64 k)).set 1 (.int .i64 t)).set 2 (.int .i64 0)).2 3 _ rfl).1
    have k0 := (((((BX3.out.set 0 (.int .i64 k)).set 1 (.int .i64 t)).set 2 (.int .i64 0)).set 3 (.slice none 0 0)).2 0 _ rfl).1
    have k1 := (((((BX3.out.set 0 (.int .i64 k)).set 1 (.int .i64 t)).set 2 (.int .i64 0)).set 3 (.slice none 0 0)).2 1 _ rfl).1
    have k2 := (((((BX3.out.set 0 (.int .i64 k)).set 1 (.int .i64 t)).set 2 (.int .i64 0)).set 3 (.slice none 0 0)).2 2 _ rfl).1
    have k3 := (((((BX3.out.set 0 (.int .i64 k)).set 1 (.int .i64 t)).set 2 (.int .i64 0)).set 3 (.slice none 0 0)).2 3 _ rfl).1
    go_wp2_with fail
    refine bodyPost_ret (by simp [results, Tryz.results28, go_sem, k0, k1, k2, k3, s3]; try rfl) rfl ?_
    exact ⟨k, t, 0, none, 0, 0, [], rfl, ⟨⟨rfl, .inl rfl⟩, .inl rfl⟩, Nat.le_refl _, by omega, HF.out, (((((HB3.out.setCell (by simp) _).setCell (by simp) _).setCell (by simp) _).setCell (by simp) _).alloc (by simp [World.setCell]; omega) _)⟩
end Go.Proofs.YtjmgfpldjccilaaGreatDoor
