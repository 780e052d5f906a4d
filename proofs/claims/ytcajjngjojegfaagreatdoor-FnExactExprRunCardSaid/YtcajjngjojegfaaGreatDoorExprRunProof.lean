/- For every list of nodes, names and values the law FnExactExprRun returns true: ExprRun of the program answers as the model's and writes into no argument. The one condition is the row's own: the package-level variables hold what the program's text lays (tied by the card). -/
import Derived.Test.YtcajjngjojegfaaGreatDoorBunF
import Derived.Test.YtcajjngjojegfaaGreatDoorBunH
import Derived.Deep.Strs
import Derived.ShutString
import Derived.ChangeOld
namespace Go.Proofs.YtcajjngjojegfaaGreatDoor.fnExactExprRun
open Go.ChangeShapes Go.WideShapes Go.ChangeAt Go.RowKit Go.Deep Go.PlainAid
set_option linter.unusedVariables false
set_option linter.unusedSimpArgs false

/-- texts that came in -/
theorem open_texts {H : Type} {enc : TypeId × Value → H} {W : World} {base : Nat} {spare : Nat → Bool} {held : Bool} {fuel : Nat} {a0 : Option Addr} {len0 cap0 : Nat} {x : DataW H × List MemPlace}
    (h : DataW.trod enc Tryz.prog W base spare held fuel 31 (Value.slice a0 len0 cap0).cells.toList = some x) :
    ∃ l, len0 ≤ maxLen ∧ IsStrs W.heap.size W a0 len0 l ∧ ∀ y ∈ l, y.size ≤ maxLen := by
  rcases open_strs Tryz.underlying31 Tryz.underlying9 (by kernel_rfl) h with ⟨hcs, _⟩ | ⟨a, len, cap, m, Sx, hcs, hb, hl, hm, hmm, _, hel⟩
  · simp [Value.cells] at hcs
    obtain ⟨rfl, rfl, rfl⟩ := hcs
    exact ⟨[], by simp, ⟨rfl, .inl rfl⟩, (fun _ h => by simp at h)⟩
  · simp [Value.cells] at hcs
    obtain ⟨rfl, rfl, rfl⟩ := hcs
    have hlm : len0 ≤ m := by rw [hmm]; split <;> omega
    refine ⟨(List.range len0).map Sx, Nat.le_trans hl hm, ⟨by simp, ?_⟩, ?_⟩
    · by_cases hz : len0 = 0
      · exact .inl hz
      obtain ⟨b, off, spot⟩ := a
      have hc := (hel 0 (by omega)).1
      have hspot : spot = none := by simpa [Addr.add] using World.cell?_spot hc
      subst hspot
      refine .inr ⟨b, off, rfl, World.block_lt_of_cell? _ _ hc, fun i hi => ?_⟩
      simp at hi
      have := (hel i (by omega)).1
      rw [add_plain] at this
      simpa using this
    · intro y hy
      obtain ⟨i, hi, rfl⟩ := List.mem_map.1 hy
      exact (hel i (by have := List.mem_range.1 hi; omega)).2
/-- numbers that came in -/
theorem open_nums {H : Type} {enc : TypeId × Value → H} {W : World} {base : Nat} {spare : Nat → Bool} {held : Bool} {fuel : Nat} {a0 : Option Addr} {len0 cap0 : Nat} {x : DataW H × List MemPlace}
    (h : DataW.trod enc Tryz.prog W base spare held fuel 32 (Value.slice a0 len0 cap0).cells.toList = some x) :
    ∃ l, len0 ≤ maxLen ∧ IsInts W.heap.size W a0 len0 l := by
  rcases open_ints Tryz.underlying32 Tryz.underlying3 (by kernel_rfl) h with ⟨hcs, _⟩ | ⟨x, l, c, zs, hcs, _, hl, hm, hz, _, hcell, hwz⟩
  · simp [Value.cells] at hcs
    obtain ⟨rfl, rfl, rfl⟩ := hcs
    exact ⟨[], by simp, rfl, .inl rfl⟩
  · simp [Value.cells] at hcs
    obtain ⟨rfl, rfl, rfl⟩ := hcs
    have hlz : len0 ≤ zs.length := by rw [hz]; split <;> omega
    refine ⟨zs.take len0, Nat.le_trans hl hm, by simp; omega, ?_⟩
    by_cases hz0 : len0 = 0
    · exact .inl hz0
    obtain ⟨b, off, spot⟩ := x
    have hc := hcell 0 (by omega)
    have hspot : spot = none := by simpa [Addr.add] using World.cell?_spot hc
    subst hspot
    refine .inr ⟨b, off, rfl, World.block_lt_of_cell? _ _ hc, fun i hi => ?_⟩
    have g := hcell i (by omega)
    rw [add_plain] at g
    rw [g]
    simp [hi, List.getElem?_take]

/-- all three arguments -/
structure Args (w : World) (a0 : Option Addr) (n : Nat) (l : List Nd) (a1 : Option Addr) (n1 : Nat) (names : List ByteArray) (a2 : Option Addr) (n2 : Nat) (vals : List Int) : Prop where
  nds : IsNds w.heap.size w a0 n l
  sc : ScopeAt w.heap.size w a1 n1 a2 n2 names vals
theorem Args.up {w w' : World} {a0 : Option Addr} {n : Nat} {l : List Nd} {a1 : Option Addr} {n1 : Nat} {names : List ByteArray} {a2 : Option Addr} {n2 : Nat} {vals : List Int} (h : Args w a0 n l a1 n1 names a2 n2 vals) (hb : Below w.heap.size w w') : Args w' a0 n l a1 n1 names a2 n2 vals :=
  ⟨(h.nds.below hb).mono hb.size, (h.sc.keep hb).mono hb.size⟩

set_option maxHeartbeats 1600000 in
set_option maxRecDepth 100000 in
theorem walk (a0 : Option Addr) (n cap : Nat) (l : List Nd) (a1 : Option Addr) (n1 c1 : Nat) (names : List ByteArray) (a2 : Option Addr) (n2 c2 : Nat) (vals : List Int) (w : World) (hw : Tabs w) (hm : n ≤ maxLen) (hm1 : n1 ≤ maxLen) (hm2 : n2 ≤ maxLen) (hs : ∀ x ∈ l, x.2.2.size ≤ maxLen) (hs1 : ∀ x ∈ names, x.size ≤ maxLen) (h64 : Nums64 l) (hz : Args w a0 n l a1 n1 names a2 n2 vals) :
    Calls Tryz.prog 10 #[.slice a0 n cap, .slice a1 n1 c1, .slice a2 n2 c2] w fun e w' => e = .returned (.bool true) ∧ Below w.heap.size w w' := by
  have HZ : Hid (Args w a0 n l a1 n1 names a2 n2 vals) := hz
  have HW : Hid (Tabs w) := hw
  have H64 : Hid (Nums64 l) := h64
  have HSZ : Hid (Calls Tryz.prog 32 #[.slice a0 n cap, .int .i64 1048576] w fun e w' => SzPost n l 1048576 w e w') := szNodeS_any w.heap.size a0 n cap l 1048576 w (by decide) (by decide) hm (Nat.le_refl _) hs hz.nds
  have HM1 : Hid (n1 ≤ maxLen) := hm1
  have HS1 : Hid (∀ x ∈ names, x.size ≤ maxLen) := hs1
  clear hz hw h64 hs hs1
  unfold maxLen at hm hm1 hm2
  by_cases hbig : 1048576 < n2
  · go_enter Tryz.func10, Tryz.ntmps10
    go_wp2_with fail
    go_ret
    exact ⟨rfl, Below.refl _ _⟩
  go_enter Tryz.func10, Tryz.ntmps10
  go_wp2_with fail
  refine HSZ.out.mono ?_
  rintro e w1 ⟨r, rfl, hb1, hr1, hr2, hr3⟩
  clear HSZ
  by_cases hr : r < 0
  · go_wp2_with fail
    go_ret
    exact ⟨rfl, hb1⟩
  obtain ⟨hn, hsz⟩ := hr3 (by omega)
  have HS : Hid (∀ x ∈ l, x.2.2.size ≤ 1048576) := hsz
  have HB1 : Hid (Below w.heap.size w w1) := hb1
  have HZ1 : Hid (Args w1 a0 n l a1 n1 names a2 n2 vals) := HZ.out.up hb1
  have HW1 : Hid (Tabs w1) := HW.out.up hb1
  clear hb1 hr3 hsz HZ HW
  go_wp2_with fail
  refine (szStringS_any w1.heap.size a1 n1 c1 names r w1 (by omega) hr1 HM1.out HS1.out HZ1.out.sc.names).mono ?_
  rintro e w1' ⟨q, rfl, hw1', hq1, hq2, hq3⟩
  rw [hw1']
  clear hw1' w1'
  by_cases hq : q < 0
  · go_wp2_with fail
    go_ret
    exact ⟨rfl, HB1.out⟩
  obtain ⟨hn1, hsz1⟩ := hq3 (by omega)
  have HN1 : Hid (∀ x ∈ names, x.size ≤ 1048576) := hsz1
  have hn2 : n2 ≤ 1048576 := by omega
  clear hq3 hsz1 HM1 HS1
  go_wp2_with fail
  refine (toNodeS_any w1.heap.size a0 n cap l w1 hn (Nat.le_refl _) HZ1.out.nds).mono ?_
  rintro e w2 ⟨b2, rfl, hb2, hz2, bel2⟩
  have HB2 : Hid (Below w1.heap.size w1 w2) := bel2
  have I2 : Hid (IsNds w2.heap.size w2 (some ⟨b2, 0, none⟩) n l) := hz2
  have HZ2 : Hid (Args w2 a0 n l a1 n1 names a2 n2 vals) := HZ1.out.up bel2
  clear bel2 hz2
  go_wp2_with fail
  refine (toStringS_any w2.heap.size a1 n1 c1 names w2 hn1 (Nat.le_refl _) HZ2.out.sc.names).mono ?_
  rintro e w3 ⟨b3, rfl, hb3, hz3, bel3⟩
  have HB3 : Hid (Below w1.heap.size w1 w3) := below_up HB2.out HB2.out.size bel3
  have I3 : Hid (IsNds w3.heap.size w3 (some ⟨b2, 0, none⟩) n l) := (I2.out.below bel3).mono bel3.size
  have J3 : Hid (IsStrs w3.heap.size w3 (some ⟨b3, 0, none⟩) n1 names) := hz3
  have HZ3 : Hid (Args w3 a0 n l a1 n1 names a2 n2 vals) := HZ2.out.up bel3
  clear bel3 hz3 I2 HZ2 HB2
  go_wp2_with fail
  refine (toIntS_any w3.heap.size a2 n2 c2 vals w3 hn2 (Nat.le_refl _) HZ3.out.sc.vals).mono ?_
  rintro e w4 ⟨b4, rfl, hb4, hz4, bel4⟩
  have HB4 : Hid (Below w1.heap.size w1 w4) := below_up HB3.out HB3.out.size bel4
  have I4 : Hid (IsNds w4.heap.size w4 (some ⟨b2, 0, none⟩) n l) := (I3.out.below bel4).mono bel4.size
  have S4 : Hid (ScopeAt w4.heap.size w4 (some ⟨b3, 0, none⟩) n1 (some ⟨b4, 0, none⟩) n2 names vals) := ⟨(J3.out.below bel4).mono bel4.size, hz4⟩
  clear bel4 hz4 I3 J3 HZ3 HB3
  go_wp2_with fail
  refine (specRun_nds w4.heap.size (some ⟨b2, 0, none⟩) n n l (some ⟨b3, 0, none⟩) n1 n1 (some ⟨b4, 0, none⟩) n2 n2 names vals w4 hn (Nat.le_refl _) HS.out I4.out hn1 hn2 HN1.out S4.out).mono ?_
  rintro e w5 ⟨rfl, bel5⟩
  have HB5 : Hid (Below w1.heap.size w1 w5) := below_up HB4.out HB4.out.size bel5
  have HZ5 : Hid (Args w5 a0 n l a1 n1 names a2 n2 vals) := HZ1.out.up HB5.out
  have HW5 : Hid (Tabs w5) := HW1.out.up HB5.out
  clear bel5 I4 S4 HB4
  go_wp2_with fail
  refine (toNodeS_any w5.heap.size a0 n cap l w5 hn (Nat.le_refl _) HZ5.out.nds).mono ?_
  rintro e w6 ⟨b6, rfl, hb6, hz6, bel6⟩
  have HB6 : Hid (Below w1.heap.size w1 w6) := below_up HB5.out HB5.out.size bel6
  have I6 : Hid (IsNds w6.heap.size w6 (some ⟨b6, 0, none⟩) n l) := hz6
  have HZ6 : Hid (Args w6 a0 n l a1 n1 names a2 n2 vals) := HZ5.out.up bel6
  clear bel6 hz6 HZ5 HB5
  go_wp2_with fail
  refine (toStringS_any w6.heap.size a1 n1 c1 names w6 hn1 (Nat.le_refl _) HZ6.out.sc.names).mono ?_
  rintro e w7 ⟨b7, rfl, hb7, hz7, bel7⟩
  have HB7 : Hid (Below w1.heap.size w1 w7) := below_up HB6.out HB6.out.size bel7
  have I7 : Hid (IsNds w7.heap.size w7 (some ⟨b6, 0, none⟩) n l) := (I6.out.below bel7).mono bel7.size
  have J7 : Hid (IsStrs w7.heap.size w7 (some ⟨b7, 0, none⟩) n1 names) := hz7
  have HZ7 : Hid (Args w7 a0 n l a1 n1 names a2 n2 vals) := HZ6.out.up bel7
  clear bel7 hz7 HZ6 HB6 I6
  go_wp2_with fail
  refine (toIntS_any w7.heap.size a2 n2 c2 vals w7 hn2 (Nat.le_refl _) HZ7.out.sc.vals).mono ?_
  rintro e w8 ⟨b8, rfl, hb8, hz8, bel8⟩
  have HB8 : Hid (Below w1.heap.size w1 w8) := below_up HB7.out HB7.out.size bel8
  have I8 : Hid (IsNds w8.heap.size w8 (some ⟨b6, 0, none⟩) n l) := (I7.out.below bel8).mono bel8.size
  have S8 : Hid (ScopeAt w8.heap.size w8 (some ⟨b7, 0, none⟩) n1 (some ⟨b8, 0, none⟩) n2 names vals) := ⟨(J7.out.below bel8).mono bel8.size, hz8⟩
  have HW8 : Hid (Tabs w8) := HW1.out.up HB8.out
  clear bel8 hz8 HZ7 HB7 I7 J7
  go_wp2_with fail
  refine (implRun_nds w8.heap.size (some ⟨b6, 0, none⟩) n n l (some ⟨b7, 0, none⟩) n1 n1 (some ⟨b8, 0, none⟩) n2 n2 names vals w8 HW8.out hn (Nat.le_refl _) HS.out H64.out I8.out hn1 hn2 S8.out).mono ?_
  rintro e w9 ⟨rfl, bel9⟩
  have HB9 : Hid (Below w1.heap.size w1 w9) := below_up HB8.out HB8.out.size bel9
  have I9 : Hid (IsNds w9.heap.size w9 (some ⟨b6, 0, none⟩) n l) := (I8.out.below bel9).mono bel9.size
  have S9 : Hid (ScopeAt w9.heap.size w9 (some ⟨b7, 0, none⟩) n1 (some ⟨b8, 0, none⟩) n2 names vals) := (S8.out.keep bel9).mono bel9.size
  have HZ9 : Hid (Args w9 a0 n l a1 n1 names a2 n2 vals) := HZ1.out.up HB9.out
  clear bel9 I8 S8 HB8 HW8
  generalize valM (ofM names vals) l = V
  go_wp2_with fail
  refine (toNodeS_any w9.heap.size a0 n cap l w9 hn (Nat.le_refl _) HZ9.out.nds).mono ?_
  rintro e w10 ⟨b10, rfl, hb10, hz10, bel10⟩
  have HB10 : Hid (Below w1.heap.size w1 w10) := below_up HB9.out HB9.out.size bel10
  have I10 : Hid (IsNds w10.heap.size w10 (some ⟨b6, 0, none⟩) n l) := (I9.out.below bel10).mono bel10.size
  have K10 : Hid (IsNds w10.heap.size w10 (some ⟨b10, 0, none⟩) n l) := hz10
  have S10 : Hid (ScopeAt w10.heap.size w10 (some ⟨b7, 0, none⟩) n1 (some ⟨b8, 0, none⟩) n2 names vals) := (S9.out.keep bel10).mono bel10.size
  clear bel10 hz10 S9
  go_wp2_with fail
  refine (eqNodeS_same w10.heap.size (some ⟨b6, 0, none⟩) (some ⟨b10, 0, none⟩) n n n l w10 hn (Nat.le_refl _) I10.out K10.out).mono ?_
  rintro e w11 ⟨rfl, bel11⟩
  have HB11 : Hid (Below w1.heap.size w1 w11) := below_up HB10.out HB10.out.size bel11
  have HZ11 : Hid (Args w11 a0 n l a1 n1 names a2 n2 vals) := HZ1.out.up HB11.out
  have S11 : Hid (ScopeAt w11.heap.size w11 (some ⟨b7, 0, none⟩) n1 (some ⟨b8, 0, none⟩) n2 names vals) := (S10.out.keep bel11).mono bel11.size
  clear bel11 S10 I10 K10 HB10 HZ9
  go_wp2_with fail
  refine (toStringS_any w11.heap.size a1 n1 c1 names w11 hn1 (Nat.le_refl _) HZ11.out.sc.names).mono ?_
  rintro e w12 ⟨b12, rfl, hb12, hz12, bel12⟩
  have HB12 : Hid (Below w1.heap.size w1 w12) := below_up HB11.out HB11.out.size bel12
  have S12 : Hid (ScopeAt w12.heap.size w12 (some ⟨b7, 0, none⟩) n1 (some ⟨b8, 0, none⟩) n2 names vals) := (S11.out.keep bel12).mono bel12.size
  have J12 : Hid (IsStrs w12.heap.size w12 (some ⟨b12, 0, none⟩) n1 names) := hz12
  clear bel12 hz12 S11
  go_wp2_with fail
  refine (eqStringS_same w12.heap.size (some ⟨b7, 0, none⟩) (some ⟨b12, 0, none⟩) n1 n1 n1 names w12 hn1 (Nat.le_refl _) S12.out.names J12.out).mono ?_
  rintro e w13 ⟨rfl, bel13⟩
  have HB13 : Hid (Below w1.heap.size w1 w13) := below_up HB12.out HB12.out.size bel13
  have S13 : Hid (ScopeAt w13.heap.size w13 (some ⟨b7, 0, none⟩) n1 (some ⟨b8, 0, none⟩) n2 names vals) := (S12.out.keep bel13).mono bel13.size
  have HZ13 : Hid (Args w13 a0 n l a1 n1 names a2 n2 vals) := HZ1.out.up HB13.out
  clear bel13 S12 J12
  go_wp2_with fail
  refine (toIntS_any w13.heap.size a2 n2 c2 vals w13 hn2 (Nat.le_refl _) HZ13.out.sc.vals).mono ?_
  rintro e w14 ⟨b14, rfl, hb14, hz14, bel14⟩
  have HB14 : Hid (Below w1.heap.size w1 w14) := below_up HB13.out HB13.out.size bel14
  have S14 : Hid (ScopeAt w14.heap.size w14 (some ⟨b7, 0, none⟩) n1 (some ⟨b8, 0, none⟩) n2 names vals) := (S13.out.keep bel14).mono bel14.size
  have J14 : Hid (IsInts w14.heap.size w14 (some ⟨b14, 0, none⟩) n2 vals) := hz14
  clear bel14 hz14 S13
  go_wp2_with fail
  refine (eqIntS_same (some ⟨b8, 0, none⟩) (some ⟨b14, 0, none⟩) n2 n2 n2 vals w14 hn2 S14.out.vals J14.out).mono ?_
  rintro e w15 ⟨rfl, bel15⟩
  have HB15 : Hid (Below w1.heap.size w1 w15) := below_up HB14.out HB14.out.size bel15
  clear bel15
  go_wp2_with fail
  go_ret
  exact ⟨rfl, below_up HB1.out HB1.out.size HB15.out⟩

/-! ### THE ROW's STEP -/
set_option maxRecDepth 100000 in
theorem lifted (os : Os) (started : os.Started) (H : Type) (enc : TypeId × Value → H) :
    ReturnsInHanded {} Tryz.checked os 10 .any (fun w args => (Rows.fnExactExprRunSpec.pre enc Tryz.prog Tryz.f10 Rows.fnExactExprRunRow.domain false w args ∧ laidMetH Tryz.prog theLaid w) ∧ sizedMet enc Tryz.prog Tryz.f10 (OpenSpec.ofChange Rows.fnExactExprRunSpec) false w args)
      (Rows.fnExactExprRunSpec.post enc Tryz.prog Tryz.f10 false true false false) := by
  refine returnsInHanded_of_change_and (C := Tryz.checked) (X := fun w _ => laidMetH Tryz.prog theLaid w) (fun _ _ _ hh h => h.of_heap hh) own started (by kernel_rfl) Tryz.func10
    (ChangeSpec.witness_shaped (enc := enc) (C := Tryz.checked) (os := os) (X := fun w _ => laidMetH Tryz.prog theLaid w) false (World.laidAll Tryz.prog os theLaid) #[.slice none 0 0, .slice none 0 0, .slice none 0 0] 8 (World.laidAll_os _ _ _)
      (shapedL os _) (by kernel_rfl) (by kernel_rfl) (by kernel_rfl) (metL os _)) ?_
  intro W base args ds gs before hval0 hW hcnd _ hL _
  have hval : ∀ (j : Nat) t v, Tryz.f10.params[j]? = some t → args[j]? = some v → Value.okWide Tryz.prog W .any base t v := hval0
  have hW' := hW
  obtain ⟨p, q, hA0, hV, rfl, hfz, hnd⟩ := hW
  have hA : DataW.TrodAll enc Tryz.prog W 0 (fun _ => true) true Tryz.f10.params.toList args.toList ds p := hA0
  rw [Tryz.params10] at hA hval
  obtain ⟨v0, vs0, d0, ds0, p0, q0, hargs, rfl, rfl, h0, r0⟩ := trodAll_cons hA
  obtain ⟨v1, vs1, d1, ds1, p1, q1, rfl, rfl, rfl, h1, r1⟩ := trodAll_cons r0
  obtain ⟨v2, vs2, d2, ds2, p2, q2, rfl, rfl, rfl, h2, r2⟩ := trodAll_cons r1
  obtain ⟨rfl, rfl, rfl⟩ := trodAll_nil r2
  obtain rfl : args = #[v0, v1, v2] := by cases args; simp_all
  have hV0 := hV
  obtain ⟨g, t, cs, fuel, gd, pp, rfl, _⟩ := trodVars_one hV0
  obtain ⟨a0, len0, cap0, rfl⟩ := okWide_slice Tryz.underlying50 (hval 0 50 v0 rfl rfl)
  obtain ⟨a1, len1, cap1, rfl⟩ := okWide_slice Tryz.underlying31 (hval 1 31 v1 rfl rfl)
  obtain ⟨a2, len2, cap2, rfl⟩ := okWide_slice Tryz.underlying32 (hval 2 32 v2 rfl rfl)
  have k0 := h0
  have k1 := h1
  have k2 := h2
  have lt0 : ∀ x ∈ p0, x.block < W.heap.size := by obtain ⟨m, hm⟩ := k0; exact DataW.trod_lt m _ _ _ hm
  have lt1 : ∀ x ∈ p1, x.block < W.heap.size := by obtain ⟨m, hm⟩ := k1; exact DataW.trod_lt m _ _ _ hm
  have lt2 : ∀ x ∈ p2, x.block < W.heap.size := by obtain ⟨m, hm⟩ := k2; exact DataW.trod_lt m _ _ _ hm
  obtain ⟨f0, hf0⟩ := h0
  obtain ⟨l, hm0, w0, h64, hsz⟩ := open_nodes hf0
  obtain ⟨f1, hf1⟩ := h1
  obtain ⟨names, hm1, w1, hsz1⟩ := open_texts hf1
  obtain ⟨f2, hf2⟩ := h2
  obtain ⟨vals, hm2, w2⟩ := open_nums hf2
  clear hA0 hval0
  refine (walk a0 len0 cap0 l a1 len1 cap1 names a2 len2 cap2 vals W (tabs_of hL) hm0 hm1 hm2 hsz hsz1 h64 ⟨w0, w1, w2⟩).mono fun e W' ⟨he, bel⟩ => ?_
  subst he
  exact ⟨_, rfl, _, _, _, [], _, _, hW', trodAll_mk1 (shut_bool Tryz.underlying4 _), (trodAll_cons_mk (Below.trod laidOut (by kernel_rfl) (of_decide_eq_true (by kernel_rfl)) k0 bel lt0) (trodAll_cons_mk (Below.trod laidOut (by kernel_rfl) (of_decide_eq_true (by kernel_rfl)) k1 bel lt1) (trodAll_cons_mk (Below.trod laidOut (by kernel_rfl) (of_decide_eq_true (by kernel_rfl)) k2 bel lt2) trodAll_mk0))), Below.trodVars laidOut bel (by kernel_rfl) hV, bel.frame _, fun h => by cases h⟩

theorem over : Rows.FnExactExprRunSaid :=
  OpenClaim.holds_of_wide 10 Tryz.f10 rfl rfl rfl rfl rfl rfl rfl ⟨rfl, rfl, rfl, rfl, rfl⟩ rfl rfl rfl rfl rfl (by kernel_rfl) Tryz.func10 (by kernel_rfl)
    (of_decide_eq_true (by kernel_rfl)) (by unfold Func.isWrapper; first | (rw [if_pos (by decide +kernel)]; kernel_rfl) | (rw [if_neg (by decide +kernel)]; exact ⟨rfl, rfl⟩))
    (fun os started H enc _ => lifted os started H enc)

theorem proved : Rows.FnExactExprRunCardSaid :=
  Claim7.holds_tied_plain_at .later [] [.data, .data, .data, .data, .sentinel, .sentinel, .data, .pinned] true Rows.fnExactExprRunCard.stood.harness true over (fun _ h => by cases h) (by kernel_rfl) (fun _ h => by cases h) fnExactExprRun_row_tie rfl ⟨rfl, rfl⟩ (by kernel_rfl) rfl
    (fun f fn hf hfn => by
      obtain rfl : f = 10 := Option.some.inj ((show Tryz.prog.funcNamed "loop.example/telltale/laws.FnExactExprRun" = some 10 by kernel_rfl).symm.trans hf) |>.symm
      obtain rfl : fn = Tryz.f10 := (Option.some.inj (Tryz.func10.symm.trans hfn)).symm
      exact ⟨by kernel_rfl, fun j t ht => by
        rw [Tryz.params10] at ht
        have hm : t ∈ [50, 31, 32] := by simpa using Array.mem_of_getElem? ht
        have hall : ([50, 31, 32].all fun u => !Tryz.prog.wantsStandIn u) = true := by kernel_rfl
        exact (show Tryz.prog.wantsStandIn t = false by simpa using List.all_eq_true.1 hall t hm)⟩)
    (by kernel_rfl)
#print axioms proved
end Go.Proofs.YtcajjngjojegfaaGreatDoor.fnExactExprRun
