/- For every code of bytes the law FnExprNames returns true: a name comes to its value, of two alike to the first one's, or to 0. The one condition is the row's own: the package-level variables hold what the program's text lays (tied by the card). -/
import Derived.Test.YtcajjngjojegfaaGreatDoorDrawRun
import Derived.Test.YtcajjngjojegfaaGreatDoorBunH
import Derived.BigQuiet
namespace Go.Proofs.YtcajjngjojegfaaGreatDoor.fnExprNames
open Go.ChangeShapes Go.WideShapes Go.ChangeAt Go.RowKit Go.Deep Go.PlainAid
set_option linter.unusedVariables false
set_option linter.unusedSimpArgs false

set_option maxRecDepth 100000 in
theorem sum_x : sumM [(2, 0, nx)] = some (.name nx) := by kernel_rfl
set_option maxRecDepth 100000 in
theorem sum_y : sumM [(2, 0, ny)] = some (.name ny) := by kernel_rfl
set_option maxRecDepth 100000 in
theorem sum_c : sumM [(2, 0, nc)] = some (.name nc) := by kernel_rfl
set_option maxRecDepth 100000 in
theorem sum_n : sumM [(2, 0, nn)] = some (.name nn) := by kernel_rfl
set_option maxRecDepth 100000 in
theorem sum_z : sumM [(2, 0, zzz)] = some (.name zzz) := by kernel_rfl
theorem val_name {f : ByteArray → Int} {x : ByteArray} (h : sumM [(2, 0, x)] = some (.name x)) : valM f [(2, 0, x)] = f x := by unfold valM; rw [h]; rfl
theorem drawn_sum {names : List ByteArray} (h : DrawnNames names) : ∀ x ∈ names, sumM [(2, 0, x)] = some (.name x) ∧ x.size ≤ 6 := by
  intro x hx
  rcases h with rfl | rfl | rfl | rfl <;> simp at hx
  · rcases hx with rfl | rfl | rfl | rfl
    · exact ⟨sum_x, by decide⟩
    · exact ⟨sum_y, by decide⟩
    · exact ⟨sum_c, by decide⟩
    · exact ⟨sum_n, by decide⟩
  · rcases hx with rfl | rfl
    · exact ⟨sum_x, by decide⟩
    · exact ⟨sum_y, by decide⟩
  · subst hx
    exact ⟨sum_x, by decide⟩
theorem put_z : putM [(2, 0, zzz)] = zzz := by rw [putM_sumM, sum_z]; rfl
theorem find_z {names : List ByteArray} (h : DrawnNames names) : findM names zzz = -1 := by
  rcases h with rfl | rfl | rfl | rfl
  · kernel_rfl
  · kernel_rfl
  · kernel_rfl
  · kernel_rfl
theorem drawn_len {names : List ByteArray} (h : DrawnNames names) : names.length ≤ 4 := by rcases h with rfl | rfl | rfl | rfl <;> decide
theorem find_first : ∀ {l : List ByteArray} {x : ByteArray}, x ∈ l → ∃ J, ∃ h : J < l.length, findM l x = J ∧ l[J] = x ∧ ∀ j, (hj : j < J) → l[j] ≠ x := by
  intro l x hx
  have hlt := findM_lt l x
  by_cases hneg : findM l x < 0
  · exfalso
    have : ∀ {l : List ByteArray}, x ∈ l → findM l x ≠ -1 := by
      intro l
      induction l with
      | nil => intro h; simp at h
      | cons y r ih =>
        intro h e
        obtain ⟨k, hk, hy⟩ := List.getElem_of_mem h
        obtain ⟨K, hK, hm⟩ : ∃ K, ∃ h : K < (y :: r).length, (y :: r)[K] = x ∧ ∀ j, (hj : j < K) → (y :: r)[j] ≠ x := by
          have : ∀ n, ∀ k, k < n → (hk : k < (y :: r).length) → (y :: r)[k] = x → ∃ K, ∃ h : K < (y :: r).length, (y :: r)[K] = x ∧ ∀ j, (hj : j < K) → (y :: r)[j] ≠ x := by
            intro n
            induction n with
            | zero => intro k h; omega
            | succ n ihn =>
              intro k hkn hk hkx
              by_cases hall : ∀ j, (hj : j < k) → (y :: r)[j] ≠ x
              · exact ⟨k, hk, hkx, hall⟩
              · simp only [Classical.not_forall, Classical.not_not] at hall
                obtain ⟨j, hj, hjx⟩ := hall
                exact ihn j (by omega) (by omega) hjx
          exact this (k + 1) k (by omega) hk hy
        rw [findM_at hK hm.1 hm.2] at e
        omega
    exact this hx (by omega)
  · obtain ⟨k, hk, hy⟩ := List.getElem_of_mem hx
    have : ∀ n, ∀ k, k < n → (hk : k < l.length) → l[k] = x → ∃ K, ∃ h : K < l.length, l[K] = x ∧ ∀ j, (hj : j < K) → l[j] ≠ x := by
      intro n
      induction n with
      | zero => intro k h; omega
      | succ n ihn =>
        intro k hkn hk hkx
        by_cases hall : ∀ j, (hj : j < k) → l[j] ≠ x
        · exact ⟨k, hk, hkx, hall⟩
        · simp only [Classical.not_forall, Classical.not_not] at hall
          obtain ⟨j, hj, hjx⟩ := hall
          exact ihn j (by omega) (by omega) hjx
    obtain ⟨K, hK, h1, h2⟩ := this (k + 1) k (by omega) hk hy
    exact ⟨K, hK, findM_at hK h1 h2, h1, h2⟩
theorem find_at {l : List ByteArray} {x : ByteArray} (hx : x ∈ l) : ∃ J, J < l.length ∧ findM l x = J ∧ l.getD J noName = x ∧ ∀ j, j < J → l.getD j noName ≠ x := by
  obtain ⟨J, hJ, h1, h2, h3⟩ := find_first hx
  have e : ∀ j, (h : j < l.length) → l.getD j noName = l[j] := fun j h => by rw [List.getD_eq_getElem?_getD, List.getElem?_eq_getElem h]; rfl
  exact ⟨J, hJ, h1, (e J hJ).trans h2, fun j hj => by rw [e j (by omega)]; exact h3 j hj⟩
theorem one_nds (w : World) (x : ByteArray) : IsNds (w.heap.size + 1) (w.alloc (.cells #[.int .i64 2, .int .i64 0, .string x] 38)) (some ⟨w.heap.size, 0, none⟩) 1 [(2, 0, x)] := by
  refine ⟨rfl, .inr ⟨w.heap.size, 0, rfl, by omega, fun i hi => ?_⟩⟩
  have : i = 0 := by simp at hi; omega
  subst this
  simp [go_sem]
theorem nums_one (x : ByteArray) : Nums64 [(2, 0, x)] := fun y hy => by simp at hy; subst hy; exact ⟨(by decide : (-9223372036854775808 : Int) ≤ 0), (by decide : (0 : Int) ≤ 9223372036854775807)⟩

set_option maxHeartbeats 1600000 in
set_option maxRecDepth 100000 in
theorem walk (a0 : Option Addr) (n cap : Nat) (bs : List Int) (w : World) (hw : Tabs w) (hc : n ≤ cap) (hm : cap ≤ maxLen) (hz : IsBytes w.heap.size w a0 n bs) :
    Calls Tryz.prog 6 #[.slice a0 n cap] w fun e w' => e = .returned (.bool true) ∧ Below w.heap.size w w' := by
  unfold maxLen at hm
  by_cases hbig : 1048576 < n
  · clear hz hw
    go_enter Tryz.func6, Tryz.ntmps6
    go_wp2_with fail
    go_ret
    exact ⟨rfl, Below.refl _ _⟩
  have HD := hidOf (DrawExprRun_any a0 n cap bs w hc (by omega) hz)
  have HW : Hid (Tabs w) := hw
  clear hz hw
  go_enter Tryz.func6, Tryz.ntmps6
  go_wp2_with fail
  refine HD.out.mono ?_
  rintro e w1 ⟨b, m, c, l, a1, n1, c1, names, a2, n2, c2, vals, rfl, hd⟩
  have HDD : Hid (Drawn w w1 b m l a1 n1 c1 names a2 n2 c2 vals) := hd
  have HB1 : Hid (Below w.heap.size w w1) := hd.below
  have HW1 : Hid (Tabs w1) := HW.out.up hd.below
  have hn1 : n1 ≤ 4 := by have := hd.strs.1; have := drawn_len hd.dn; omega
  have hnl := hd.strs.1
  have hn2 := hd.few
  have hvl := hd.ints.1
  have HSC : Hid (ScopeAt w1.heap.size w1 a1 n1 a2 n2 names vals) := ⟨hd.strs, hd.ints⟩
  have HLS : Hid (∀ y ∈ names, y.size ≤ 1048576) := fun y hy => Nat.le_trans (drawn_sum hd.dn y hy).2 (by decide)
  clear hd HD
  have HIR : Hid (∀ (x : ByteArray) (w' : World), x.size ≤ 6 → Below w1.heap.size w1 w' → Calls Tryz.prog 20 #[.slice (some ⟨w'.heap.size, 0, none⟩) 1 1, .slice a1 n1 c1, .slice a2 n2 c2] (w'.alloc (.cells #[.int .i64 2, .int .i64 0, .string x] 38)) fun e w'' => e = .returned (.int .i64 (valM (ofM names vals) [(2, 0, x)])) ∧ Below w1.heap.size w1 w'' ∧ w'.heap.size < w''.heap.size ∧ IsNds w''.heap.size w'' (some ⟨w'.heap.size, 0, none⟩) 1 [(2, 0, x)]) := fun x w' hx hb' => by
    have hb2 : Below w1.heap.size w1 (w'.alloc (.cells #[.int .i64 2, .int .i64 0, .string x] 38)) := hb'.alloc hb'.size _
    have hi : IsNds (w'.alloc (.cells #[.int .i64 2, .int .i64 0, .string x] 38)).heap.size (w'.alloc (.cells #[.int .i64 2, .int .i64 0, .string x] 38)) (some ⟨w'.heap.size, 0, none⟩) 1 [(2, 0, x)] := by simpa using one_nds w' x
    refine (implRun_nds _ (some ⟨w'.heap.size, 0, none⟩) 1 1 [(2, 0, x)] a1 n1 c1 a2 n2 c2 names vals _ (HW1.out.up hb2) (by decide) (Nat.le_refl _) (fun y hy => by simp at hy; subst hy; show x.size ≤ _; omega) (nums_one x) hi (by omega) (by omega) ((HSC.out.keep hb2).mono hb2.size)).mono ?_
    rintro e w'' ⟨rfl, hb3⟩
    have := hb3.size
    simp at this
    exact ⟨rfl, below_up hb2 hb2.size hb3, by omega, (hi.below hb3).mono hb3.size⟩
  have HSR : Hid (∀ (x : ByteArray) (w' : World) (g : Nat), x.size ≤ 6 → Below w1.heap.size w1 w' → IsNds w'.heap.size w' (some ⟨g, 0, none⟩) 1 [(2, 0, x)] → Calls Tryz.prog 21 #[.slice (some ⟨g, 0, none⟩) 1 1, .slice a1 n1 c1, .slice a2 n2 c2] w' fun e w'' => e = .returned (.int .i64 (valM (ofM names vals) [(2, 0, x)])) ∧ Below w1.heap.size w1 w'') := fun x w' g hx hb' hi => by
    refine (specRun_nds _ (some ⟨g, 0, none⟩) 1 1 [(2, 0, x)] a1 n1 c1 a2 n2 c2 names vals w' (by decide) (Nat.le_refl _) (fun y hy => by simp at hy; subst hy; show x.size ≤ _; omega) hi (by omega) (by omega) HLS.out ((HSC.out.keep hb').mono hb'.size)).mono ?_
    rintro e w'' ⟨rfl, hb3⟩
    exact ⟨rfl, below_up hb' hb'.size hb3⟩
  go_wp2_with fail
  go_loopw [6] (fun i wr => ∃ k : Nat, k ≤ n1 ∧ i = .int .i64 k ∧ Below w1.heap.size w1 wr) (fun i _ => n1 - (intOf i).toNat)
  case atStart => exact ⟨0, Nat.zero_le _, rfl, Below.refl _ _⟩
  case round =>
    obtain ⟨k, hk, rfl, hbel⟩ := hrel
    by_cases hlt : k < n1
    · rcases HSC.out.names.2 with h0 | ⟨g1, o1, rfl, hg1, hcs⟩
      · omega
      have hgd : ∀ j, (h : j < names.length) → names.getD j noName = names[j] := fun j h => by rw [List.getD_eq_getElem?_getD, List.getElem?_eq_getElem h]; rfl
      obtain ⟨x, hx⟩ : ∃ x, names.getD k noName = x := ⟨_, rfl⟩
      have hxm : x ∈ names := by rw [← hx, hgd k (by omega)]; exact List.getElem_mem _
      obtain ⟨hsx, hx6⟩ := drawn_sum HDD.out.dn x hxm
      obtain ⟨J, hJ, hfJ, hJx, hJn⟩ := find_at hxm
      have HCS : Hid (∀ (w' : World) (j : Nat), j < n1 → Below w1.heap.size w1 w' → w'.cell? ⟨g1, o1 + j, none⟩ = some (.string (names.getD j noName))) := fun w' j hj hb' => by
        rw [hgd j (by omega)]
        exact (hb'.cell (p := ⟨g1, o1 + j, none⟩) (by simp; omega)).trans (hcs j (by omega))
      have ck := HCS.out wr k hlt hbel
      rw [hx] at ck
      have hval := val_name (f := ofM names vals) hsx
      obtain ⟨V, hV⟩ : ∃ V, ofM names vals x = V := ⟨_, rfl⟩
      have HI := hidOf (HIR.out x wr hx6 hbel)
      rw [hval, hV] at HI
      have HS := hidOf (fun w' g h1 h2 => HSR.out x w' g hx6 h1 h2)
      rw [hval, hV] at HS
      unfold ofM at hV
      rw [hfJ, hvl] at hV
      have HJN : Hid (∀ j, j < J → names.getD j noName ≠ x) := hJn
      have HJX : Hid (names.getD J noName = x) := hJx
      have HKX : Hid (names.getD k noName = x) := hx
      have hJ1 : J < n1 := by omega
      have hg1w : g1 < w1.heap.size := hg1
      clear hsx hval hcs hx hxm hJn hfJ hJx hgd hJ
      go_wp2_with fail
      refine HI.out.mono ?_
      rintro e w2 ⟨rfl, hb2, hs2, hi2⟩
      have HB2 : Hid (Below w1.heap.size w1 w2) := hb2
      have HI2 : Hid (IsNds w2.heap.size w2 (some ⟨wr.heap.size, 0, none⟩) 1 [(2, 0, x)]) := hi2
      clear hb2 hi2 HI ck
      go_wp2_with fail
      go_loopw [9] (fun i wq => ∃ j : Nat, j ≤ J ∧ i = .int .i64 j ∧ ∃ d, wq = w2.drewN d) (fun i _ => J - (intOf i).toNat)
      case atStart => exact ⟨0, Nat.zero_le _, rfl, 0, rfl⟩
      case round =>
        obtain ⟨j, hj, rfl, d, rfl⟩ := hrel
        have bw : Below w1.heap.size w1 (w2.drewN d) := below_drewN HB2.out d
        have ck := HCS.out w2 k hlt HB2.out
        rw [HKX.out] at ck
        have cj := HCS.out w2 j (by omega) HB2.out
        have HBW : Hid (Below w1.heap.size w1 (w2.drewN d)) := bw
        have hjn : j < n1 := by omega
        have hjI : (j : Int) < n1 := by omega
        have hj0 : (0 : Int) ≤ j := by omega
        have hkI : (k : Int) < n1 := by omega
        have hk0 : (0 : Int) ≤ k := by omega
        clear bw
        by_cases hjJ : j = J
        · subst hjJ
          rw [HJX.out] at cj
          go_wp2_with fail
          go_quiet (fail)
          by_cases hJ2 : j < n2
          · rcases HSC.out.vals.2 with h0 | ⟨vb, vo, rfl, hvb, hvc⟩
            · omega
            have cv : w2.cell? ⟨vb, vo + j, none⟩ = some (.int .i64 (vals.getD j 0)) := (HB2.out.cell (p := ⟨vb, vo + j, none⟩) hvb).trans (hvc j hJ2)
            rw [if_neg (by omega), show ((j : Int)).toNat = j from by omega] at hV
            obtain ⟨y, hy⟩ : ∃ y, vals.getD j 0 = y := ⟨_, rfl⟩
            rw [hy] at cv hV
            have hJ2I : (j : Int) < n2 := by omega
            clear hvc hy
            by_cases h32 : -2147483648 ≤ y ∧ y ≤ 2147483647
            · have hVy : V = y := by rw [← hV]; exact wr32_in h32
              clear hV
              subst hVy
              have d32 : decide (-2147483648 ≤ V ∧ V ≤ 2147483647) = true := decide_eq_true h32
              go_wp2_with (first
                | (go_at_call 21; refine (HS.out _ wr.heap.size (by first | exact below_drewN (below_drewN HB2.out _) _ | exact below_drewN HB2.out _) (by exact HI2.out)).mono ?_; rintro e w3 ⟨rfl, hb3⟩; have HB3 : Hid (Below w1.heap.size w1 w3) := hb3; clear hb3)
                | (go_at_call 22; refine (ttSmall_any _ _).mono ?_; rintro e w' ⟨rfl, hw'⟩; rw [hw']; clear hw' w'))
              go_roundw
              case rel => exact ⟨k + 1, by omega, by go_num, HB3.out⟩
              case measure => simp [intOf]; omega
            · have d32 : decide (-2147483648 ≤ y ∧ y ≤ 2147483647) = false := decide_eq_false h32
              clear hV h32
              go_wp2_with (first
                | (go_at_call 21; refine (HS.out _ wr.heap.size (by first | exact below_drewN (below_drewN HB2.out _) _ | exact below_drewN HB2.out _) (by exact HI2.out)).mono ?_; rintro e w3 ⟨rfl, hb3⟩; have HB3 : Hid (Below w1.heap.size w1 w3) := hb3; clear hb3)
                | (go_at_call 22; refine (ttSmall_any _ _).mono ?_; rintro e w' ⟨rfl, hw'⟩; rw [hw']; clear hw' w'))
              go_roundw
              case rel => exact ⟨k + 1, by omega, by go_num, HB3.out⟩
              case measure => simp [intOf]; omega
          · rw [if_pos (by omega)] at hV
            subst hV
            have hJ2I : ¬ (j : Int) < n2 := by omega
            go_wp2_with (first
                | (go_at_call 21; refine (HS.out _ wr.heap.size (by first | exact below_drewN (below_drewN HB2.out _) _ | exact below_drewN HB2.out _) (by exact HI2.out)).mono ?_; rintro e w3 ⟨rfl, hb3⟩; have HB3 : Hid (Below w1.heap.size w1 w3) := hb3; clear hb3)
                | (go_at_call 22; refine (ttSmall_any _ _).mono ?_; rintro e w' ⟨rfl, hw'⟩; rw [hw']; clear hw' w'))
            go_roundw
            case rel => exact ⟨k + 1, by omega, by go_num, HB3.out⟩
            case measure => simp [intOf]; omega
        · have hne := HJN.out j (by omega)
          generalize names.getD j noName = y at cj hne
          have e2' : (y.toList == x.toList) = false := by
            simp only [beq_eq_false_iff_ne, ne_eq]
            intro e; exact hne (by rw [Lib.toList_data, Lib.toList_data] at e; exact ByteArray.ext (Array.toList_inj.1 e))
          clear hne
          go_wp2_with fail
          go_quiet (fail)
          go_wp2_with fail
          go_roundw
          case rel => exact ⟨j + 1, by omega, by go_num, _, rfl⟩
          case measure => simp [intOf]; omega
    · have HB : Hid (Below w1.heap.size w1 wr) := hbel
      have HI := hidOf (HIR.out zzz wr (by decide) hbel)
      have e0 : valM (ofM names vals) [(2, 0, zzz)] = 0 := by
        rw [val_name sum_z]; unfold ofM; rw [find_z HDD.out.dn, if_pos (.inl (by decide))]
      rw [e0] at HI
      have HPZ : Hid (∀ w', Below w1.heap.size w1 w' → IsNds w'.heap.size w' (some ⟨wr.heap.size, 0, none⟩) 1 [(2, 0, zzz)] → Calls Tryz.prog 13 #[.slice (some ⟨wr.heap.size, 0, none⟩) 1 1] w' fun e w'' => e = .returned (.string zzz) ∧ Below w'.heap.size w' w'') := fun w' hb' hi' => by
        have := implPut_any w'.heap.size (some ⟨wr.heap.size, 0, none⟩) 1 1 [(2, 0, zzz)] w' (HW1.out.up hb') (by decide) (Nat.le_refl _) (fun y hy => by simp at hy; subst hy; decide) (nums_one zzz) hi'
        rw [put_z] at this; exact this
      clear hbel e0
      go_wp2_with (first
        | (go_at_call 20; refine HI.out.mono ?_; rintro e w2 ⟨rfl, hb2, hs2, hi2⟩; have HB2 : Hid (Below w1.heap.size w1 w2) := hb2; have HI2 : Hid (IsNds w2.heap.size w2 (some ⟨wr.heap.size, 0, none⟩) 1 [(2, 0, zzz)]) := hi2; clear hb2 hi2)
        | (go_at_call 13; refine (HPZ.out w2 HB2.out HI2.out).mono ?_; rintro e w3 ⟨rfl, hb3⟩; have HB3 : Hid (Below w1.heap.size w1 w3) := below_up HB2.out HB2.out.size hb3; clear hb3))
      go_ret
      exact ⟨ret_bool (by rw [Lib.toList_data]; rfl), below_up HB1.out HB1.out.size HB3.out⟩

/-! ### THE ROW's STEP -/
set_option maxRecDepth 100000 in
theorem lifted (os : Os) (started : os.Started) (H : Type) (enc : TypeId × Value → H) :
    ReturnsInHanded {} Tryz.checked os 6 .any (fun w args => (Rows.fnExprNamesSpec.pre enc Tryz.prog Tryz.f6 Rows.fnExprNamesRow.domain false w args ∧ laidMetH Tryz.prog theLaid w) ∧ sizedMet enc Tryz.prog Tryz.f6 (OpenSpec.ofChange Rows.fnExprNamesSpec) false w args)
      (Rows.fnExprNamesSpec.post enc Tryz.prog Tryz.f6 false true false false) := by
  refine returnsInHanded_of_change_and (C := Tryz.checked) (X := fun w _ => laidMetH Tryz.prog theLaid w) (fun _ _ _ hh h => h.of_heap hh) own started (by kernel_rfl) Tryz.func6
    (ChangeSpec.witness_shaped (enc := enc) (C := Tryz.checked) (os := os) (X := fun w _ => laidMetH Tryz.prog theLaid w) false (World.laidAll Tryz.prog os theLaid) #[.slice none 0 0] 8 (World.laidAll_os _ _ _)
      (shapedL os _) (by kernel_rfl) (by kernel_rfl) (by kernel_rfl) (metL os _)) ?_
  intro W base args ds gs before hval0 hW hcnd _ hL _
  have hval : ∀ (j : Nat) t v, Tryz.f6.params[j]? = some t → args[j]? = some v → Value.okWide Tryz.prog W .any base t v := hval0
  have hW' := hW
  obtain ⟨p, q, hA0, hV, rfl, hfz, hnd⟩ := hW
  have hA : DataW.TrodAll enc Tryz.prog W 0 (fun _ => true) true Tryz.f6.params.toList args.toList ds p := hA0
  rw [Tryz.params6] at hA hval
  obtain ⟨v0, d0, rfl, rfl, h0⟩ := trodAll_one hA
  have hV0 := hV
  obtain ⟨g, t, cs, fuel, gd, pp, rfl, _⟩ := trodVars_one hV0
  obtain ⟨a0, len0, cap0, rfl⟩ := okWide_slice Tryz.underlying22 (hval 0 22 v0 rfl rfl)
  have k0 := h0
  have lt0 : ∀ x ∈ p, x.block < W.heap.size := by obtain ⟨m, hm⟩ := k0; exact DataW.trod_lt m _ _ _ hm
  obtain ⟨fuel0, hf0⟩ := h0
  obtain ⟨hc0, hm0, bs, w0⟩ := open_code rfl hf0
  clear hA0 hval0
  refine (walk a0 len0 cap0 bs W (tabs_of hL) hc0 hm0 w0).mono fun e W' ⟨he, bel⟩ => ?_
  subst he
  exact ⟨_, rfl, _, _, _, [], _, _, hW', trodAll_mk1 (shut_bool Tryz.underlying4 _), trodAll_mk1 (Below.trod laidOut (by kernel_rfl) (of_decide_eq_true (by kernel_rfl)) k0 bel lt0), Below.trodVars laidOut bel (by kernel_rfl) hV, bel.frame _, fun h => by cases h⟩

theorem over : Rows.FnExprNamesSaid :=
  OpenClaim.holds_of_wide 6 Tryz.f6 rfl rfl rfl rfl rfl rfl rfl ⟨rfl, rfl, rfl, rfl, rfl⟩ rfl rfl rfl rfl rfl (by kernel_rfl) Tryz.func6 (by kernel_rfl)
    (of_decide_eq_true (by kernel_rfl)) (by unfold Func.isWrapper; first | (rw [if_pos (by decide +kernel)]; kernel_rfl) | (rw [if_neg (by decide +kernel)]; exact ⟨rfl, rfl⟩))
    (fun os started H enc _ => lifted os started H enc)

theorem proved : Rows.FnExprNamesCardSaid :=
  Claim7.holds_tied_plain_at .later [] [.data, .data, .data, .data, .sentinel, .sentinel, .data, .pinned] true Rows.fnExprNamesCard.stood.harness true over (fun _ h => by cases h) (by kernel_rfl) (fun _ h => by cases h) fnExprNames_row_tie rfl ⟨rfl, rfl⟩ (by kernel_rfl) rfl
    (fun f fn hf hfn => by
      obtain rfl : f = 6 := Option.some.inj ((show Tryz.prog.funcNamed "loop.example/telltale/laws.FnExprNames" = some 6 by kernel_rfl).symm.trans hf) |>.symm
      obtain rfl : fn = Tryz.f6 := (Option.some.inj (Tryz.func6.symm.trans hfn)).symm
      exact ⟨by kernel_rfl, fun j t ht => by
        rw [Tryz.params6] at ht
        have hm : t ∈ [22] := by simpa using Array.mem_of_getElem? ht
        have hall : ([22].all fun u => !Tryz.prog.wantsStandIn u) = true := by kernel_rfl
        exact (show Tryz.prog.wantsStandIn t = false by simpa using List.all_eq_true.1 hall t hm)⟩)
    (by kernel_rfl)
#print axioms proved
end Go.Proofs.YtcajjngjojegfaaGreatDoor.fnExprNames
