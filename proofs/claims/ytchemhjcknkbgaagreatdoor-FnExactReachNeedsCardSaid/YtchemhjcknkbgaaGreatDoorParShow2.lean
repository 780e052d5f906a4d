/- The model's l1Show, walked. -/
import Derived.Test.YtchemhjcknkbgaaGreatDoorBunY14
import Derived.Deep.AppendLies
namespace Go.Proofs.YtchemhjcknkbgaaGreatDoor
open Go.RowKit Go.PlainAid
set_option linter.unusedSimpArgs false
set_option linter.unusedVariables false

theorem infoStr : (Tryz.prog.info? 9).map (fun i => (i.zero, i.size, i.bytes)) = some (some (.string ByteArray.empty), 1, 16) := by kernel_rfl

theorem Two.mid {B : Nat} {W w1 : World} {gt ct gl cl : Nat} {stk : TL} {o1 : Obj} (h : Two B W gt ct gl cl stk) (hg1 : (W.alloc o1).grownBy w1 (some gt)) :
    w1.ownsRow B 3 1 (.slice (some ⟨gl, 0, none⟩) stk.length cl) stk.length (lvsOf stk) := by
  have hl := h.lt
  refine own_of_block h.l (fun g hg => ?_)
  have : g = gl := by simpa [Value.ownBlock] using hg.symm
  subst this
  exact (hg1.block g (by simp; omega) (fun e => h.ne (by simpa using e.symm))).trans (Below.heap_alloc _ _ _ hl.2.2)
theorem Two.push {B : Nat} {W w1 w2 : World} {gt ct gl cl g1 c1 g2 c2 : Nat} {stk : TL} {o1 o2 : Obj} {t : ByteArray} {lv : Int} (h : Two B W gt ct gl cl stk)
    (ho1 : w1.ownsRow B 9 1 (.slice (some ⟨g1, 0, none⟩) (stk.length + 1) c1) (stk.length + 1) (strsOf stk ++ [.string t])) (hg1 : (W.alloc o1).grownBy w1 (some gt)) (hat1 : some gt = some g1 ∨ g1 = W.heap.size + 1)
    (ho2 : w2.ownsRow B 3 1 (.slice (some ⟨g2, 0, none⟩) (stk.length + 1) c2) (stk.length + 1) (lvsOf stk ++ [.int .i64 lv])) (hg2 : (w1.alloc o2).grownBy w2 (some gl)) (hat2 : some gl = some g2 ∨ g2 = w1.heap.size + 1) :
    Two B w2 g1 c1 g2 c2 ((t, lv) :: stk) := by
  have hl := h.lt
  have hn := h.ne
  have hlt1 := (ho1.lt g1 rfl).2
  have hz : W.heap.size + 1 ≤ w1.heap.size := by simpa using hg1.size
  have hgl : g1 ≠ gl := by
    rcases hat1 with e | e
    · simp at e; omega
    · omega
  refine ⟨?_, ?_, ?_⟩
  · rw [strsOf_cons]
    refine own_of_block ho1 (fun g hg => ?_)
    have : g = g1 := by simpa [Value.ownBlock] using hg.symm
    subst this
    exact (hg2.block g (by simp; omega) (fun e => hgl (by simpa using e))).trans (Below.heap_alloc _ _ _ hlt1)
  · rw [lvsOf_cons]; exact ho2
  · rcases hat2 with e | e
    · simp at e; omega
    · omega
/-- what is below the base is as it was behind both -/
theorem push_below {B : Nat} {w W w1 w2 : World} {gt gl : Nat} {o1 o2 : Obj} (hb : Below B w W) (hB : B ≤ W.heap.size) (hgt : B ≤ gt) (hgl : B ≤ gl) (hg1 : (W.alloc o1).grownBy w1 (some gt)) (hg2 : (w1.alloc o2).grownBy w2 (some gl)) : Below B w w2 := by
  have h1 := (hb.alloc hB o1).grown hg1 (by simp; omega) (fun k hk => by simp at hk; omega)
  have h2 : B ≤ w1.heap.size := by have := hg1.size; simp at this; omega
  exact (h1.alloc h2 o2).grown hg2 (by simp; omega) (fun k hk => by simp at hk; omega)

theorem cap_of {B : Nat} {w : World} {e : TypeId} {g n c : Nat} {xs : List Value} (h : w.ownsRow B e 1 (.slice (some ⟨g, 0, none⟩) n c) n xs) : n ≤ c ∧ c ≤ maxLen := by
  rcases h.2 with ⟨h, _⟩ | ⟨g', cap', cur, h, _, _, h3, h4, _⟩
  · simp at h
  · simp at h; omega
set_option maxRecDepth 100000 in
theorem putAll23 (V : Nat → Value) (a0 : Act) : putL ops23 V (Array.replicate 37 true) a0 37 = ((((((((((((((((((((((((((((((((((((a0.put (some 138) (V 0)).put (some 139) (V 1)).put (some 140) (V 2)).put (some 141) (V 3)).put (some 142) (V 4)).put (some 143) (V 5)).put (some 144) (V 6)).put (some 145) (V 7)).put (some 146) (V 8)).put (some 147) (V 9)).put (some 148) (V 10)).put (some 149) (V 11)).put (some 150) (V 12)).put (some 151) (V 13)).put (some 152) (V 14)).put (some 153) (V 15)).put (some 154) (V 16)).put (some 155) (V 17)).put (some 156) (V 18)).put (some 157) (V 19)).put (some 158) (V 20)).put (some 159) (V 21)).put (some 160) (V 22)).put (some 161) (V 23)).put (some 162) (V 24)).put (some 163) (V 25)).put (some 164) (V 26)).put (some 165) (V 27)).put (some 166) (V 28)).put (some 167) (V 29)).put (some 168) (V 30)).put (some 169) (V 31)).put (some 170) (V 32)).put (some 171) (V 33)).put (some 172) (V 34)).put (some 173) (V 35)) := by
  simp only [putL, dst23]
  rfl
theorem lvl_in (k : Int) : 1 ≤ lvl k ∧ lvl k ≤ 5 := by
  unfold lvl
  repeat' split
  all_goals decide
theorem pair_none {c : Prop} [Decidable c] (x0 : Int) {stk : TL} (h : ¬ 1 < stk.length) : (if c then pairStk x0 stk else none) = none := by
  rcases stk with _ | ⟨s1, _ | ⟨s2, r⟩⟩
  · simp [pairStk]
  · simp [pairStk]
  · simp at h
def showRes (l : List Nd) : ByteArray × Bool := match showM l with | some t => (t, true) | none => (noName, false)
theorem showRes_no {l : List Nd} (h : showM l = none) : showRes l = (noName, false) := by unfold showRes; rw [h]

set_option maxHeartbeats 12800000 in
set_option maxRecDepth 100000 in
theorem l1Show_any (B0 : Nat) (a : Option Addr) (n cap : Nat) (l : List Nd) (w : World) (hn : n ≤ 24) (hB0 : B0 ≤ w.heap.size) (hsz : ∀ x ∈ l, x.2.2.size ≤ 1048576) (hz : IsNds B0 w a n l) :
    Calls Tryz.prog 223 #[.slice a n cap] w fun e w' => e = .returned (.tuple #[.string (showRes l).1, .bool (showRes l).2]) ∧ Below w.heap.size w w' := by
  obtain ⟨hlen, hcells⟩ := hz
  obtain ⟨i0, hi, hz0, hz1, hz2⟩ := info_parts infoInt'
  obtain ⟨j0, hj, hy0, hy1, hy2⟩ := info_parts infoStr
  obtain ⟨D, hD⟩ : ∃ D, showRes l = D := ⟨_, rfl⟩
  have HD : Hid (showRes l = D) := hD
  rw [hD]; clear hD
  go_enter Tryz.func223, Tryz.ntmps223
  go_wp2_with fail
  go_loopw [4, 5, 6] (fun v4 v5 i wr => ∃ (k gt ct gl cl : Nat) (stk : TL), k ≤ n ∧ i = .int .i64 k ∧ v4 = .slice (some ⟨gt, 0, none⟩) stk.length ct ∧ v5 = .slice (some ⟨gl, 0, none⟩) stk.length cl ∧
      Hid (showTo l k = some stk) ∧ Hid (Two w.heap.size wr gt ct gl cl stk) ∧ Below w.heap.size w wr) (fun _ _ i _ => n - (intOf i).toNat)
  case atStart =>
    refine ⟨0, w.heap.size, 0, w.heap.size + 1, 0, [], Nat.zero_le _, rfl, rfl, rfl, rfl, ⟨?_, ?_, by omega⟩, ((Below.refl _ _).alloc (Nat.le_refl _) _).alloc (by simp) _⟩
    · exact (World.ownsRow_made w #[] 0 (Nat.le_refl _) (Nat.zero_le _) rfl).alloc _
    · have := World.ownsRow_made (base := w.heap.size) (e := 3) (size := 1) (w.alloc (.cells #[] 9)) #[] 0 (by simp) (Nat.zero_le _) rfl
      simpa [lvsOf] using this
  case round =>
    obtain ⟨k, gt, ct, gl, cl, stk, hk, rfl, rfl, rfl, HT, HW, hbel⟩ := hrel
    obtain ⟨tot1, tot2⟩ := total_to HT.out
    obtain ⟨⟨m1, m2⟩, m3, m4⟩ := HW.out.lt
    have hwz := hbel.size
    by_cases hlt : k < n
    · rcases hcells with h0 | ⟨b, off, rfl, hb, hc⟩
      · omega
      have hkl : k < l.length := by omega
      obtain ⟨x0, x1, x2, hx⟩ : ∃ x0 x1 x2, l[k] = (x0, x1, x2) := ⟨_, _, _, rfl⟩
      have hcx := hc k hkl
      have hx2 : x2.size ≤ 1048576 := by have := hsz l[k] (List.getElem_mem hkl); rw [hx] at this; exact this
      rw [hx] at hcx
      have hbw : b < w.heap.size := by omega
      have p0 := (hbel.cell (p := ⟨b, off + k * 3, none⟩) hbw).trans hcx.1
      have p1 := (hbel.cell (p := ⟨b, off + k * 3 + 1, none⟩) hbw).trans hcx.2.1
      have p2 := (hbel.cell (p := ⟨b, off + k * 3 + 1 + 1, none⟩) hbw).trans hcx.2.2
      simp only at p0 p1 p2
      have hgd : l.getD k (0, 0, noName) = (x0, x1, x2) := by simp [hkl, hx]
      have hno : showStep (x0, x1, x2) stk = none → D = (noName, false) := fun hs => HD.out.symm.trans (showRes_no (showM_no HT.out hkl (by rw [hgd]; exact hs)))
      have hyes : ∀ st', showStep (x0, x1, x2) stk = some st' → showTo l (k + 1) = some st' := fun st' hs => by simp only [showTo, HT.out, hgd]; exact hs
      clear hc hcx hx hgd
      by_cases h1 : x0 = 1
      · subst h1
        cases hin : decide (0 ≤ x1 ∧ x1 ≤ 999999)
        · have HN : Hid (D = (noName, false)) := hno (by unfold showStep; rw [if_pos rfl, if_neg (by rintro ⟨h, _⟩; simp [h] at hin)])
          clear hno hyes
          go_wp2_with (first | (go_at_call 52; refine (l1In_any _ _ _ _).mono ?_; rintro e w' ⟨rfl, hw'⟩; rw [hw']; clear hw' w') | (go_at_call 110; refine (l1Name_any _ _ (by unfold maxLen; omega)).mono ?_; rintro e w' ⟨rfl, hw'⟩; rw [hw']; clear hw' w'))
          go_ret2
          exact ⟨by rw [HN.out]; rfl, hbel.alloc hwz _⟩
        · cases he : x2.toList.isEmpty
          · have HN : Hid (D = (noName, false)) := hno (by unfold showStep; rw [if_pos rfl, if_neg (by rintro ⟨_, h⟩; simp only [he] at h; cases h)])
            clear hno hyes
            go_wp2_with (first | (go_at_call 52; refine (l1In_any _ _ _ _).mono ?_; rintro e w' ⟨rfl, hw'⟩; rw [hw']; clear hw' w') | (go_at_call 110; refine (l1Name_any _ _ (by unfold maxLen; omega)).mono ?_; rintro e w' ⟨rfl, hw'⟩; rw [hw']; clear hw' w'))
            go_ret2
            exact ⟨by rw [HN.out]; rfl, hbel.alloc hwz _⟩
          · have hin2 : 0 ≤ x1 ∧ x1 ≤ 999999 := by simpa using hin
            have HY : Hid (showTo l (k + 1) = some ((decF 5 x1, 7) :: stk)) := hyes _ (by unfold showStep; rw [if_pos rfl, if_pos ⟨hin2, he⟩])
            have hds := decF_size 5 x1
            obtain ⟨dt, hdt⟩ : ∃ dt, decF 5 x1 = dt := ⟨_, rfl⟩
            have HDT : Hid (decF 5 x1 = dt) := hdt
            rw [hdt] at HY hds
            clear hno hyes hdt
            go_wp2_with (first | (go_at_call 52; refine (l1In_any _ _ _ _).mono ?_; rintro e w' ⟨rfl, hw'⟩; rw [hw']; clear hw' w') | (go_at_call 110; refine (l1Name_any _ _ (by unfold maxLen; omega)).mono ?_; rintro e w' ⟨rfl, hw'⟩; rw [hw']; clear hw' w'))
            refine (l1Dec_any 5 (by decide) x1 _ hin2.1 (by omega) hin2.2).mono ?_
            rw [HDT.out]
            rintro e w1 ⟨rfl, hb1⟩
            have HB1 : Hid (Below w.heap.size w w1) := (hbel.alloc hwz _).trans (hb1.mono (by simp; omega))
            have HW1 : Hid (Two w.heap.size w1 gt ct gl cl stk) := (HW.out.old ((Below.refl _ _).alloc (Nat.le_refl _) _)).old hb1
            have hz1w : w.heap.size ≤ w1.heap.size := HB1.out.size
            have hwz1 := hb1.size
            clear hb1
            go_wp2_with (at_builtin; refine wpList_append_lies _ rfl (.tmp 39) (.tmp 43) 28 rfl w.heap.size 9 j0 (.string ByteArray.empty) 1 16 Tryz.underlying28 hj hy0 hy1 hy2 rfl (by decide) _ _ _ rfl (World.ownsRow.alloc HW1.out.t _) ⟨w1.heap.size, 0, none⟩ 1 1 [.string dt] rfl rfl (by exact one_new' _ _ _ _ rfl) (by intro u hu; simp at hu; subst hu; rfl) (by decide) (by unfold maxLen; omega) (by omega) (by simp; omega) _ rfl ?_)
            intro g1 c1 w5 ho1 hg1 hat1 hl1
            have HG1 : Hid ((w1.alloc (.cells #[.string dt] 9)).grownBy w5 (some gt)) := hg1
            have HO1 : Hid (w5.ownsRow w.heap.size 9 1 (.slice (some ⟨g1, 0, none⟩) (stk.length + 1) c1) (stk.length + 1) (strsOf stk ++ [.string dt])) := ho1
            have HAT1 : Hid (some gt = some g1 ∨ g1 = w1.heap.size + 1) := by
              show _ ∨ _
              simpa [Value.ownBlock] using hat1
            have HL5 : Hid (w5.ownsRow w.heap.size 3 1 (.slice (some ⟨gl, 0, none⟩) stk.length cl) stk.length (lvsOf stk)) := HW1.out.mid HG1.out
            have hz5 : w.heap.size ≤ w5.heap.size := by have := hg1.size; simp at this; omega
            clear ho1 hg1 hat1 hl1
            go_wp2_with (at_builtin; refine wpList_append_lies _ rfl (.tmp 45) (.tmp 46) 41 rfl w.heap.size 3 i0 (.int .i64 0) 1 8 Tryz.underlying41 hi hz0 hz1 hz2 rfl (by decide) _ _ _ rfl (World.ownsRow.alloc HL5.out _) ⟨w5.heap.size, 0, none⟩ 1 1 [.int .i64 7] rfl rfl (by exact one_new' _ _ _ _ rfl) (by intro u hu; simp at hu; subst hu; rfl) (by decide) (by unfold maxLen; omega) (by omega) (by simp; omega) _ rfl ?_)
            intro g2 c2 w6 ho2 hg2 hat2 hl2
            have HG2 : Hid ((w5.alloc (.cells #[.int .i64 7] 3)).grownBy w6 (some gl)) := hg2
            have HW6 : Hid (Two w.heap.size w6 g1 c1 g2 c2 ((dt, 7) :: stk)) := HW1.out.push HO1.out HG1.out HAT1.out ho2 HG2.out (by simpa [Value.ownBlock] using hat2)
            have HB6 : Hid (Below w.heap.size w w6) := push_below HB1.out (by omega) m1 m3 HG1.out HG2.out
            clear ho2 hg2 hat2 hl2
            go_wp2_with fail
            go_roundw
            case rel => exact ⟨k + 1, g1, c1, g2, c2, (dt, 7) :: stk, by omega, by go_num, rfl, rfl, HY.out, HW6.out, HB6.out⟩
            case measure => simp [intOf]; omega
      have e1 : (x0 == 1) = false := by simp [h1]
      by_cases h2 : x0 = 2
      · subst h2
        cases hnm : nmB x2
        · have HN : Hid (D = (noName, false)) := hno (by unfold showStep; rw [if_neg h1, if_pos rfl, if_neg (by rintro ⟨h, _⟩; simp [h] at hnm)])
          clear hno hyes
          go_wp2_with (first | (go_at_call 52; refine (l1In_any _ _ _ _).mono ?_; rintro e w' ⟨rfl, hw'⟩; rw [hw']; clear hw' w') | (go_at_call 110; refine (l1Name_any _ _ (by unfold maxLen; omega)).mono ?_; rintro e w' ⟨rfl, hw'⟩; rw [hw']; clear hw' w'))
          go_ret2
          exact ⟨by rw [HN.out]; rfl, hbel.alloc hwz _⟩
        · by_cases hx1 : x1 = 0
          · subst hx1
            have HY : Hid (showTo l (k + 1) = some ((x2, 7) :: stk)) := hyes _ (by unfold showStep; rw [if_neg h1, if_pos rfl, if_pos ⟨hnm, rfl⟩])
            have HW1 : Hid (Two w.heap.size (wr.alloc (.cells #[.int .i64 2, .int .i64 0, .string x2] 121)) gt ct gl cl stk) := HW.out.old ((Below.refl _ _).alloc (Nat.le_refl _) _)
            clear hno hyes
            go_wp2_with (first | (go_at_call 52; refine (l1In_any _ _ _ _).mono ?_; rintro e w' ⟨rfl, hw'⟩; rw [hw']; clear hw' w') | (go_at_call 110; refine (l1Name_any _ _ (by unfold maxLen; omega)).mono ?_; rintro e w' ⟨rfl, hw'⟩; rw [hw']; clear hw' w') | (at_builtin; refine wpList_append_lies _ rfl (.tmp 62) (.tmp 65) 28 rfl w.heap.size 9 j0 (.string ByteArray.empty) 1 16 Tryz.underlying28 hj hy0 hy1 hy2 rfl (by decide) _ _ _ rfl (World.ownsRow.alloc HW1.out.t _) ⟨wr.heap.size + 1, 0, none⟩ 1 1 [.string x2] rfl rfl (by exact one_new' _ _ _ _ (by simp)) (by intro u hu; simp at hu; subst hu; rfl) (by decide) (by unfold maxLen; omega) (by omega) (by simp; omega) _ rfl ?_))
            intro g1 c1 w5 ho1 hg1 hat1 hl1
            have HG1 : Hid (((wr.alloc (.cells #[.int .i64 2, .int .i64 0, .string x2] 121)).alloc (.cells #[.string x2] 9)).grownBy w5 (some gt)) := hg1
            have HO1 : Hid (w5.ownsRow w.heap.size 9 1 (.slice (some ⟨g1, 0, none⟩) (stk.length + 1) c1) (stk.length + 1) (strsOf stk ++ [.string x2])) := ho1
            have HAT1 : Hid (some gt = some g1 ∨ g1 = (wr.alloc (.cells #[.int .i64 2, .int .i64 0, .string x2] 121)).heap.size + 1) := by
              show _ ∨ _
              simpa [Value.ownBlock] using hat1
            have HL5 : Hid (w5.ownsRow w.heap.size 3 1 (.slice (some ⟨gl, 0, none⟩) stk.length cl) stk.length (lvsOf stk)) := HW1.out.mid HG1.out
            have hz5 : w.heap.size ≤ w5.heap.size := by have := hg1.size; simp at this; omega
            clear ho1 hg1 hat1 hl1
            go_wp2_with (at_builtin; refine wpList_append_lies _ rfl (.tmp 67) (.tmp 68) 41 rfl w.heap.size 3 i0 (.int .i64 0) 1 8 Tryz.underlying41 hi hz0 hz1 hz2 rfl (by decide) _ _ _ rfl (World.ownsRow.alloc HL5.out _) ⟨w5.heap.size, 0, none⟩ 1 1 [.int .i64 7] rfl rfl (by exact one_new' _ _ _ _ rfl) (by intro u hu; simp at hu; subst hu; rfl) (by decide) (by unfold maxLen; omega) (by omega) (by simp; omega) _ rfl ?_)
            intro g2 c2 w6 ho2 hg2 hat2 hl2
            have HG2 : Hid ((w5.alloc (.cells #[.int .i64 7] 3)).grownBy w6 (some gl)) := hg2
            have HW6 : Hid (Two w.heap.size w6 g1 c1 g2 c2 ((x2, 7) :: stk)) := HW1.out.push HO1.out HG1.out HAT1.out ho2 HG2.out (by simpa [Value.ownBlock] using hat2)
            have HB6 : Hid (Below w.heap.size w w6) := push_below (hbel.alloc hwz _) (by simp; omega) m1 m3 HG1.out HG2.out
            clear ho2 hg2 hat2 hl2
            go_wp2_with fail
            go_roundw
            case rel => exact ⟨k + 1, g1, c1, g2, c2, (x2, 7) :: stk, by omega, by go_num, rfl, rfl, HY.out, HW6.out, HB6.out⟩
            case measure => simp [intOf]; omega
          · have hx1' : (x1 == 0) = false := by simp [hx1]
            have HN : Hid (D = (noName, false)) := hno (by unfold showStep; rw [if_neg h1, if_pos rfl, if_neg (by rintro ⟨_, h⟩; exact hx1 h)])
            clear hno hyes
            go_wp2_with (first | (go_at_call 52; refine (l1In_any _ _ _ _).mono ?_; rintro e w' ⟨rfl, hw'⟩; rw [hw']; clear hw' w') | (go_at_call 110; refine (l1Name_any _ _ (by unfold maxLen; omega)).mono ?_; rintro e w' ⟨rfl, hw'⟩; rw [hw']; clear hw' w'))
            go_ret2
            exact ⟨by rw [HN.out]; rfl, hbel.alloc hwz _⟩
      have e2 : (x0 == 2) = false := by simp [h2]
      by_cases h34 : x0 = 3 ∨ x0 = 4
      · have hsh : showStep (x0, x1, x2) stk = (if x1 = 0 ∧ x2.toList.isEmpty = true then aheadStk x0 stk else none) := by
          unfold showStep; rw [if_neg h1, if_neg h2, if_pos h34]
        have hin : decide (5 ≤ x0 ∧ x0 ≤ 13) = false := by simp; omega
        have e34 : ((x0 == 3) = true ∧ aheadSg x0 = minus ∧ (x0 == 4) = false) ∨ ((x0 == 3) = false ∧ (x0 == 4) = true ∧ aheadSg x0 = bang) := by
          rcases h34 with rfl | rfl
          · exact .inl ⟨rfl, rfl, rfl⟩
          · exact .inr ⟨rfl, rfl, rfl⟩
        have HSH : Hid (showStep (x0, x1, x2) stk = (if x1 = 0 ∧ x2.toList.isEmpty = true then aheadStk x0 stk else none)) := hsh
        clear hsh
        by_cases hx1 : x1 = 0
        · subst hx1
          cases he : x2.toList.isEmpty
          · rcases e34 with ⟨e3, ea, e4⟩ | ⟨e3, e4, ea⟩
            all_goals
              clear ea h34
              by_cases hs0 : 0 < stk.length
              · have HN : Hid (D = (noName, false)) := hno (by rw [HSH.out, if_neg (by rintro ⟨_, h⟩; simp only [he] at h; cases h)])
                clear hno hyes
                go_wp2_with (first | (go_at_call 52; refine (l1In_any _ _ _ _).mono ?_; rintro e w' ⟨rfl, hw'⟩; rw [hw']; clear hw' w') | (go_at_call 110; refine (l1Name_any _ _ (by unfold maxLen; omega)).mono ?_; rintro e w' ⟨rfl, hw'⟩; rw [hw']; clear hw' w'))
                go_ret2
                exact ⟨by rw [HN.out]; rfl, hbel.alloc hwz _⟩
              · have HN : Hid (D = (noName, false)) := hno (by rw [HSH.out, if_neg (by rintro ⟨_, h⟩; simp only [he] at h; cases h)])
                clear hno hyes
                go_wp2_with (first | (go_at_call 52; refine (l1In_any _ _ _ _).mono ?_; rintro e w' ⟨rfl, hw'⟩; rw [hw']; clear hw' w') | (go_at_call 110; refine (l1Name_any _ _ (by unfold maxLen; omega)).mono ?_; rintro e w' ⟨rfl, hw'⟩; rw [hw']; clear hw' w'))
                go_ret2
                exact ⟨by rw [HN.out]; rfl, hbel.alloc hwz _⟩
          · rcases stk with _ | ⟨⟨t, lv⟩, r⟩
            · rcases e34 with ⟨e3, ea, e4⟩ | ⟨e3, e4, ea⟩
              all_goals
                clear ea h34
                have HN : Hid (D = (noName, false)) := hno (by rw [HSH.out, if_pos ⟨rfl, he⟩]; rfl)
                clear hno hyes
                go_wp2_with (first | (go_at_call 52; refine (l1In_any _ _ _ _).mono ?_; rintro e w' ⟨rfl, hw'⟩; rw [hw']; clear hw' w') | (go_at_call 110; refine (l1Name_any _ _ (by unfold maxLen; omega)).mono ?_; rintro e w' ⟨rfl, hw'⟩; rw [hw']; clear hw' w'))
                go_ret2
                exact ⟨by rw [HN.out]; rfl, hbel.alloc hwz _⟩
            · have HY : Hid (showTo l (k + 1) = some ((aheadSg x0 ++ boundM t lv 6, 6) :: r)) := hyes _ (by rw [HSH.out, if_pos ⟨rfl, he⟩]; rfl)
              have hbs := bound_size t lv 6
              have htt : t.size ≤ 144 := by simp only [total] at tot1; omega
              obtain ⟨t1, t2, t3, t4⟩ := HW.out.top
              have hne := HW.out.ne
              obtain ⟨N, hN⟩ : ∃ N, ((t, lv) :: r : TL).length = N := ⟨_, rfl⟩
              obtain ⟨L, hL⟩ : ∃ L, r.length = L := ⟨_, rfl⟩
              have q1 : (N : Int) - 1 = L := by simp at hN; omega
              have q2 : L < N := by simp at hN; omega
              have hN24 : N ≤ 24 := by simp at hN tot2; omega
              have q3 : (L : Int) < N := by omega
              have q4 : (0 : Int) ≤ L := by omega
              have q5 : (0 : Int) < N := by omega
              have q6 : IntKind.i64.wrap (L : Int) = L := IntWalk.i64_in _ ⟨by omega, by omega⟩
              rw [hL] at t1 t2 t3 t4
              have HL : Hid (r.length = L) := hL
              have HNN : Hid (((t, lv) :: r : TL).length = N) := hN
              rw [hN]
              have hgtw : gt < wr.heap.size := m2
              have hglw : gl < wr.heap.size := m4
              have HPU : Hid (∀ y, Two w.heap.size (((wr.setCell ⟨gt, L, none⟩ (.string y)).setCell ⟨gl, L, none⟩ (.int .i64 6)).alloc (.cells #[.int .i64 x0, .int .i64 0, .string x2] 121)).drew gt ct gl cl ((y, 6) :: r)) := fun y => by
                have h := HW.out.put y 6
                rw [hL] at h
                exact (h.old ((Below.refl _ _).alloc (Nat.le_refl _) _)).drew
              clear hno hyes hN hL tot1 tot2
              rcases e34 with ⟨e3, ea, e4⟩ | ⟨e3, e4, ea⟩
              all_goals
                rw [ea] at HY
                clear ea h34
                go_wp2_with fail
                go_region_with (go_at_call 248; refine (l1Bound_any t lv 6 _ (by omega)).mono ?_; rintro e w' ⟨rfl, hw'⟩; rw [hw']; clear hw' w')
                all_goals
                  go_wp2_with fail
                  go_roundw
                  case rel =>
                    refine ⟨k + 1, gt, ct, gl, cl, _, by omega, by go_num, ?_, ?_, HY.out, ?_, ?_⟩
                    · rw [← HNN.out]; rfl
                    · rw [← HNN.out]; rfl
                    · exact HPU.out _
                    · exact (((hbel.setCell m1 _).setCell m3 _).alloc (by simpa [World.setCell] using hwz) _).drew
                  case measure => simp [intOf]; omega
        · have hx1' : (x1 == 0) = false := by simp [hx1]
          rcases e34 with ⟨e3, ea, e4⟩ | ⟨e3, e4, ea⟩
          all_goals
            clear ea h34
            by_cases hs0 : 0 < stk.length
            · have HN : Hid (D = (noName, false)) := hno (by rw [HSH.out, if_neg (by rintro ⟨h, _⟩; exact hx1 h)])
              clear hno hyes
              go_wp2_with (first | (go_at_call 52; refine (l1In_any _ _ _ _).mono ?_; rintro e w' ⟨rfl, hw'⟩; rw [hw']; clear hw' w') | (go_at_call 110; refine (l1Name_any _ _ (by unfold maxLen; omega)).mono ?_; rintro e w' ⟨rfl, hw'⟩; rw [hw']; clear hw' w'))
              go_ret2
              exact ⟨by rw [HN.out]; rfl, hbel.alloc hwz _⟩
            · have HN : Hid (D = (noName, false)) := hno (by rw [HSH.out, if_neg (by rintro ⟨h, _⟩; exact hx1 h)])
              clear hno hyes
              go_wp2_with (first | (go_at_call 52; refine (l1In_any _ _ _ _).mono ?_; rintro e w' ⟨rfl, hw'⟩; rw [hw']; clear hw' w') | (go_at_call 110; refine (l1Name_any _ _ (by unfold maxLen; omega)).mono ?_; rintro e w' ⟨rfl, hw'⟩; rw [hw']; clear hw' w'))
              go_ret2
              exact ⟨by rw [HN.out]; rfl, hbel.alloc hwz _⟩
      have e3 : (x0 == 3) = false := by simp; omega
      have e4 : (x0 == 4) = false := by simp; omega
      cases hin : decide (5 ≤ x0 ∧ x0 ≤ 13)
      · have HN : Hid (D = (noName, false)) := hno (by unfold showStep; rw [if_neg h1, if_neg h2, if_neg h34, if_neg (by simpa using hin)])
        clear hno hyes
        go_wp2_with (first | (go_at_call 52; refine (l1In_any _ _ _ _).mono ?_; rintro e w' ⟨rfl, hw'⟩; rw [hw']; clear hw' w') | (go_at_call 110; refine (l1Name_any _ _ (by unfold maxLen; omega)).mono ?_; rintro e w' ⟨rfl, hw'⟩; rw [hw']; clear hw' w'))
        go_ret2
        exact ⟨by rw [HN.out]; rfl, hbel.alloc hwz _⟩
      have hin2 : 5 ≤ x0 ∧ x0 ≤ 13 := by simpa using hin
      have HSH : Hid (showStep (x0, x1, x2) stk = (if x1 = 0 ∧ x2.toList.isEmpty = true then pairStk x0 stk else none)) := by
        show _ = _
        unfold showStep; rw [if_neg h1, if_neg h2, if_neg h34, if_pos hin2]
      by_cases hs1 : 1 < stk.length
      · by_cases hx1 : x1 = 0
        · subst hx1
          cases he : x2.toList.isEmpty
          · have HN : Hid (D = (noName, false)) := hno (by rw [HSH.out, if_neg (by rintro ⟨_, h⟩; simp only [he] at h; cases h)])
            clear hno hyes
            go_wp2_with (first | (go_at_call 52; refine (l1In_any _ _ _ _).mono ?_; rintro e w' ⟨rfl, hw'⟩; rw [hw']; clear hw' w') | (go_at_call 110; refine (l1Name_any _ _ (by unfold maxLen; omega)).mono ?_; rintro e w' ⟨rfl, hw'⟩; rw [hw']; clear hw' w'))
            go_ret2
            exact ⟨by rw [HN.out]; rfl, hbel.alloc hwz _⟩
          · rcases stk with _ | ⟨⟨t2, l2⟩, _ | ⟨⟨t1, l1⟩, r⟩⟩
            · simp at hs1
            · simp at hs1
            obtain ⟨k0, rfl⟩ : ∃ k0 : Nat, x0 = k0 := ⟨x0.toNat, by omega⟩
            have HY : Hid (showTo l (k + 1) = some ((boundM t1 l1 (lvl k0) ++ sg k0 ++ boundM t2 l2 (lvl k0 + 1), lvl k0) :: r)) := hyes _ (by rw [HSH.out, if_pos ⟨rfl, he⟩]; rfl)
            have hlv := lvl_in k0
            have ht1 : t1.size ≤ 1000 := by simp only [total] at tot1; omega
            have ht2 : t2.size ≤ 1000 := by simp only [total] at tot1; omega
            obtain ⟨a1, a2, a3, a4⟩ := HW.out.pop.top
            obtain ⟨g1, g2, g3, g4⟩ := HW.out.top
            have hne := HW.out.ne
            have hc1 := cap_of HW.out.t
            have hc2 := cap_of HW.out.l
            obtain ⟨N, hN⟩ : ∃ N, ((t2, l2) :: (t1, l1) :: r : TL).length = N := ⟨_, rfl⟩
            obtain ⟨L, hL⟩ : ∃ L, r.length = L := ⟨_, rfl⟩
            obtain ⟨M, hM⟩ : ∃ M, ((t1, l1) :: r : TL).length = M := ⟨_, rfl⟩
            have hNL : N = L + 2 := by simp at hN; omega
            have hML : M = L + 1 := by simp at hM; omega
            have hN24 : N ≤ 24 := by simp at hN tot2; omega
            rw [hN] at hc1 hc2
            rw [hM] at g1 g2 g3 g4
            rw [hL] at a1 a2 a3 a4
            have HL : Hid (r.length = L) := hL
            have HNN : Hid (((t2, l2) :: (t1, l1) :: r : TL).length = N) := hN
            rw [hN]
            have hs1' : (1 : Int) < N := by omega
            have HLV : Hid (1 ≤ lvl k0 ∧ lvl k0 ≤ 5) := hlv
            have HK : Hid (5 ≤ k0 ∧ k0 ≤ 13) := ⟨by omega, by omega⟩
            obtain ⟨lv, hlvl⟩ : ∃ lv, lvl k0 = lv := ⟨_, rfl⟩
            rw [hlvl] at HY HLV
            have HLL : Hid (lvl k0 = lv) := hlvl
            have HNL : Hid (N = L + 2) := hNL
            have HML : Hid (M = L + 1) := hML
            clear hNL hML
            clear hno hyes hN hL hM tot1 tot2 hs1 hlv hlvl
            go_wp2_with (first | (go_at_call 52; refine (l1In_any _ _ _ _).mono ?_; rintro e w' ⟨rfl, hw'⟩; rw [hw']; clear hw' w') | (go_at_call 201; refine (l1Level_any _ _).mono ?_; rw [HLL.out]; rintro e w' ⟨rfl, hw'⟩; rw [hw']; clear hw' w'))
            have ol : ∀ p : Addr, p.block < wr.heap.size → ∀ v, wr.cell? p = some v → (wr.alloc (.cells #[.int .i64 k0, .int .i64 0, .string x2] 121)).cell? p = some v := fun p hp v hv => (((Below.refl wr.heap.size wr).alloc (Nat.le_refl _) _).cell hp).trans hv
            have HP : Hid (∀ w1, Below (wr.alloc (.cells #[.int .i64 k0, .int .i64 0, .string x2] 121)).heap.size (wr.alloc (.cells #[.int .i64 k0, .int .i64 0, .string x2] 121)) w1 → Two w.heap.size w1 gt ct gl cl ((t2, l2) :: (t1, l1) :: r) ∧ Below w.heap.size w w1) := fun w1 hb1 =>
              ⟨(HW.out.old ((Below.refl _ _).alloc (Nat.le_refl _) _)).old hb1, (hbel.alloc hwz _).trans (hb1.mono (by simp; omega))⟩
            refine region23 _ _ _ gt ct gl cl N L M wr.heap.size k0 t1 t2 l1 l2 lv rfl rfl rfl rfl rfl rfl HNL.out HML.out hN24 HLV.out HK.out ht1 ht2 (ol _ m2 _ a1) (ol _ m2 _ g1) (ol _ m4 _ a2) (ol _ m4 _ g2) ?_ ((((Below.refl wr.heap.size wr).alloc (Nat.le_refl _) _).frozen (p := ⟨gt, L, none⟩) m2).trans a3) ?_
            · simp [go_sem]
            intro w1 hb1
            obtain ⟨hT, hB⟩ := HP.out w1 hb1
            have HT1 : Hid (Two w.heap.size w1 gt ct gl cl ((t1, l1) :: r)) := hT.pop
            have HB1 : Hid (Below w.heap.size w w1) := hB
            obtain ⟨v1, v2, v3, v4⟩ := HT1.out.top
            rw [HL.out] at v1 v2 v3 v4
            obtain ⟨y, hy⟩ : ∃ y, boundM t1 l1 lv ++ sg k0 ++ boundM t2 l2 (lv + 1) = y := ⟨_, rfl⟩
            rw [hy] at HY
            rw [hy, putAll23]
            have hgtw : gt < w1.heap.size := (HT1.out.lt).1.2
            have hglw : gl < w1.heap.size := (HT1.out.lt).2.2
            clear hb1 hT hB ol HP a1 a2 a3 a4 g1 g2 g3 g4 hy
            have q1 : (N : Int) - 2 = L := by have h1 := HNL.out; have h2 := HML.out; omega
            have q2 : (N : Int) - 1 = M := by have h1 := HNL.out; have h2 := HML.out; omega
            have q3 : (L : Int) < N := by have h1 := HNL.out; have h2 := HML.out; omega
            have q5 : L < N := by have h1 := HNL.out; have h2 := HML.out; omega
            have q7 : M ≤ ct := by have h1 := HNL.out; have h2 := HML.out; omega
            have q8 : M ≤ cl := by have h1 := HNL.out; have h2 := HML.out; omega
            have q9 : (M : Int) ≤ ct := by have h1 := HNL.out; have h2 := HML.out; omega
            have q10 : (M : Int) ≤ cl := by have h1 := HNL.out; have h2 := HML.out; omega
            have p1 : IntKind.i64.wrap (L : Int) = L := IntWalk.i64_in _ ⟨by omega, by omega⟩
            have p2 : IntKind.i64.wrap (M : Int) = M := IntWalk.i64_in _ ⟨by omega, by omega⟩
            simp only [Act.put, List.setIfInBounds_toArray, List.set_cons_succ, List.set_cons_zero, val23]
            go_wp2_with fail
            go_roundw
            case rel =>
              refine ⟨k + 1, gt, ct, gl, cl, (y, lv) :: r, by omega, by go_num, ?_, ?_, HY.out, ?_, ?_⟩
              · simp [HL.out, HML.out]
              · simp [HL.out, HML.out]
              · have h := HT1.out.put y lv
                rw [HL.out] at h
                exact h
              · exact (HB1.out.setCell m1 _).setCell m3 _
            case measure => simp [intOf]; omega
        · have hx1' : (x1 == 0) = false := by simp [hx1]
          have HN : Hid (D = (noName, false)) := hno (by rw [HSH.out, if_neg (by rintro ⟨h, _⟩; exact hx1 h)])
          clear hno hyes
          go_wp2_with (first | (go_at_call 52; refine (l1In_any _ _ _ _).mono ?_; rintro e w' ⟨rfl, hw'⟩; rw [hw']; clear hw' w') | (go_at_call 110; refine (l1Name_any _ _ (by unfold maxLen; omega)).mono ?_; rintro e w' ⟨rfl, hw'⟩; rw [hw']; clear hw' w'))
          go_ret2
          exact ⟨by rw [HN.out]; rfl, hbel.alloc hwz _⟩
      · have HN : Hid (D = (noName, false)) := hno (by rw [HSH.out]; exact pair_none _ hs1)
        clear hno hyes
        go_wp2_with (first | (go_at_call 52; refine (l1In_any _ _ _ _).mono ?_; rintro e w' ⟨rfl, hw'⟩; rw [hw']; clear hw' w') | (go_at_call 110; refine (l1Name_any _ _ (by unfold maxLen; omega)).mono ?_; rintro e w' ⟨rfl, hw'⟩; rw [hw']; clear hw' w'))
        go_ret2
        exact ⟨by rw [HN.out]; rfl, hbel.alloc hwz _⟩
    · rcases stk with _ | ⟨⟨t, lv⟩, _ | ⟨y, r⟩⟩
      · have HN : Hid (D = (noName, false)) := HD.out.symm.trans (showRes_no (by unfold showM; rw [hlen, show n = k by omega, HT.out]))
        go_wp2_with fail
        go_ret2
        exact ⟨by rw [HN.out]; rfl, hbel⟩
      · have HN : Hid (D = (t, true)) := HD.out.symm.trans (by unfold showRes showM; rw [hlen, show n = k by omega, HT.out])
        obtain ⟨t1, t2, t3, t4⟩ := HW.out.top
        simp only [List.length_nil] at t1
        go_wp2_with fail
        go_ret2
        exact ⟨by rw [HN.out]; rfl, hbel⟩
      · have HN : Hid (D = (noName, false)) := HD.out.symm.trans (showRes_no (by unfold showM; rw [hlen, show n = k by omega, HT.out]))
        obtain ⟨N, hN⟩ : ∃ N, ((t, lv) :: y :: r : TL).length = N := ⟨_, rfl⟩
        have hN1 : ((N : Int) == 1) = false := by simp at hN ⊢; omega
        have HNN : Hid (((t, lv) :: y :: r : TL).length = N) := hN
        rw [hN]
        clear hN
        go_wp2_with fail
        go_ret2
        exact ⟨by rw [HN.out]; rfl, hbel⟩
end Go.Proofs.YtchemhjcknkbgaaGreatDoor
