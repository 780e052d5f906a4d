/- For every code of bytes the law FnClockNext returns true: of the beats and the time that are drawn, what comes next is what the model says, and the first of what comes up to it; nothing comes ahead of it. No condition. -/
import Derived.Test.YtlpdilmdhfemdaaRows
import Derived.Test.YtlpdilmdhfemdaaDueP
import Derived.Test.YtlpdilmdhfemdaaSpecNext
import Derived.Test.YtlpdilmdhfemdaaFireLaw
import Derived.Test.YtlpdilmdhfemdaaDrawClk
import Derived.Test.YtlpdilmdhfemdaaCodes
import Derived.Test.YtlpdilmdhfemdaaBeatOkP
import Derived.WalkKit
import Derived.ProofKit
import Derived.OpenShut
namespace Go.Proofs.Ytlpdilmdhfemdaa.fnClockNext
open Go Go.ChangeShapes Go.WideShapes Go.ChangeAt Go.RowKit Go.Deep Go.PlainAid
set_option linter.unusedVariables false
set_option linter.unusedSimpArgs false

theorem own : ownKnob Try.prog.godebug = none := by kernel_rfl
theorem laidOut : laidOutB Try.prog = true := by kernel_rfl

theorem dueAt_time {l : List Bt} {t : Int} : ∀ x ∈ dueAt l t, x.1 = t := fun x hx => by
  unfold dueAt at hx
  obtain ⟨y, _, rfl⟩ := List.mem_map.1 hx
  rfl
/-- what comes next is the first of what comes, and of one time with it -/
theorem next_due {l : List Bt} {p : Int} {F : Fr} (hl : ∀ x ∈ l, btB x = true) (hne : l ≠ []) (hp : 0 ≤ p) (hF : fireP (l.map (pulM p)) = F) (hge : p ≤ F.1) (hlt : F.1 < 9999) :
    (∃ r, dueM l p (F.1 + 1 - p).toNat = F :: r) ∧ ∀ x ∈ dueM l p (F.1 + 1 - p).toNat, x.1 = F.1 := by
  have h1 := fol_due hl hne (F.1 + 1 - p).toNat p hp (by omega)
  have h2 := fol_due hl hne (F.1 - p).toNat p hp (by omega)
  rw [show p + ((F.1 + 1 - p).toNat : Int) = F.1 + 1 by omega] at h1
  rw [show p + ((F.1 - p).toNat : Int) = F.1 by omega] at h2
  have h3 : dueM l p (F.1 - p).toNat = [] := by
    cases hd : dueM l p (F.1 - p).toNat with
    | nil => rfl
    | cons x r =>
      rw [hd] at h2
      obtain ⟨e, h4, _⟩ := h2
      rw [hF] at e
      rw [e] at h4
      omega
  have h5 : dueM l p (F.1 + 1 - p).toNat = dueAt l F.1 := by
    rw [show (F.1 + 1 - p).toNat = (F.1 - p).toNat + 1 by omega, dueM_snoc, h3, show p + ((F.1 - p).toNat : Int) = F.1 by omega]
    rfl
  refine ⟨?_, fun x hx => ?_⟩
  · cases hd : dueM l p (F.1 + 1 - p).toNat with
    | nil =>
      rw [hd] at h1
      have : F.1 + 1 ≤ (fireP (l.map (pulM p))).1 := h1
      rw [hF] at this
      omega
    | cons x r =>
      rw [hd] at h1
      obtain ⟨e, _, _⟩ := h1
      rw [hF] at e
      rw [e]
      exact ⟨r, rfl⟩
  · rw [h5] at hx
    exact dueAt_time x hx
theorem next_ge {l : List Bt} {p : Int} (hl : ∀ x ∈ l, btB x = true) (hne : l ≠ []) (hp : 0 ≤ p ∧ p ≤ 9999) : p ≤ (fireP (l.map (pulM p))).1 ∧ (fireP (l.map (pulM p))).1 ≤ 29997 := by
  have hn2 : l.map (pulM p) ≠ [] := by simpa using hne
  refine ⟨fireP_mem hn2 (fun x hx => ?_), ?_⟩
  · obtain ⟨y, hy, rfl⟩ := List.mem_map.1 hx
    rw [pulM_at (hl y hy) hp]
    exact atS_ge (hl y hy)
  · have hm := minI_lt hn2
    unfold fireP
    rw [show (l.map (pulM p)).getD (minI (l.map (pulM p))) (0, 0, 0) = (l.map (pulM p))[minI (l.map (pulM p))] by rw [List.getD_eq_getElem?_getD, List.getElem?_eq_getElem hm]; rfl]
    have := List.getElem_mem hm
    obtain ⟨y, hy, e⟩ := List.mem_map.1 this
    rw [← e]
    exact (pulM_bound (hl y hy) hp).2.1
set_option maxHeartbeats 8000000 in
set_option maxRecDepth 100000 in
theorem walk (a0 : Option Addr) (n c : Nat) (bs : List Int) (w : World) (hc : n ≤ c) (hm : c ≤ maxLen) (hz : IsBytes w.heap.size w a0 n bs) :
    Calls Try.prog 5 #[.slice a0 n c] w fun e w' => e = .returned (.bool true) ∧ Below w.heap.size w w' := by
  unfold maxLen at hm
  by_cases h1 : 1048576 < n
  · clear hz
    go_enter Try.func5, Try.ntmps5
    go_wp2_with fail
    go_ret
    exact ⟨rfl, Below.refl _ _⟩
  have HD := hidOf (DrawClockNext_any a0 n c bs w hc (by omega) hz)
  clear hz
  go_enter Try.func5, Try.ntmps5
  go_wp2_with fail
  refine HD.out.mono ?_
  rintro e w1 ⟨lv, l, p, rfl, hl4, hlo, hp, hb1⟩
  obtain ⟨la, lc, rfl, hlc, hlm, hli⟩ := hlo.is
  have HZ : Hid (∀ W, Below w1.heap.size w1 W → IsBts W.heap.size W la l.length l) := fun W hb => (hli.belowBt hb).monoBt hb.size
  have HB1 := hidOf hb1
  have hl6 : l.length ≤ 1048576 := by omega
  have HIM := hidOf (fun B a n c w hB hn hz => implClockNext_any B a n c l p w hB hn hz)
  have HSP := hidOf (fun B a n c w hB hn hz => specClockNext_any B a n c l p w hB hn hz)
  have HDU := hidOf (fun y B a n c w hB hn hz => implClockDue_any B a n c l p y w hB hn hz)
  have HNM : Hid (isNextM l p = true → btsB l = true ∧ (0 ≤ p ∧ p ≤ 9999) ∧ l ≠ [] ∧ nextM l p = fireP (l.map (pulM p))) := fun h => by
    have h' : (btsB l = true ∧ 0 ≤ p ∧ p ≤ 9999) ∧ l ≠ [] := by simpa [isNextM] using h
    exact ⟨h'.1.1, h'.1.2, h'.2, by simp [nextM, h'.1.1, h'.1.2, h'.2]⟩
  have HNF : Hid (isNextM l p = false → btsB l = true → 0 ≤ p → p ≤ 9999 → l.length = 0) := fun h h2 h3 h4 => by
    refine Classical.byContradiction fun hne => ?_
    have : isNextM l p = true := by simp [isNextM, h2, h3, h4]; exact fun e => hne (by rw [e]; rfl)
    rw [h] at this
    cases this
  obtain ⟨⟨F0, F1⟩, hF⟩ : ∃ F, nextM l p = F := ⟨_, rfl⟩
  obtain ⟨G, hG⟩ : ∃ G, isNextM l p = G := ⟨_, rfl⟩
  rw [hF, hG] at HIM HSP HNM
  rw [hG] at HNF
  have HBW : Hid (∀ W, Below w1.heap.size w1 W → Below w.heap.size w W) := fun W hb => HB1.out.trans (hb.mono HB1.out.size)
  clear hb1 hlo hli hF hG
  go_wp2_with fail
  refine (HIM.out _ _ _ _ _ (Nat.le_refl _) hl6 (HZ.out _ (Below.refl _ _))).mono ?_
  rintro e w2 ⟨rfl, bel2⟩
  have HB2 := hidOf bel2
  have HB2' : Hid (Below w1.heap.size w1 (w2.alloc (fireO F0 F1))) := HB2.out.alloc HB2.out.size _
  clear bel2
  go_wp2_with fail
  refine (HSP.out _ _ _ _ _ (Nat.le_refl _) hl6 (HZ.out _ (by exact HB2'.out))).mono ?_
  rintro e w3 ⟨rfl, bel3⟩
  have o5 : w3.heap[w2.heap.size]? = some (fireO F0 F1) := (bel3.block _ (by simp)).trans (World.alloc_heap_new w2 _)
  have g0 : w3.cell? ⟨w2.heap.size, 0, none⟩ = some (.int .i64 F0) := (obj_cell o5 0).1
  have g1 : w3.cell? ⟨w2.heap.size, 1, none⟩ = some (.int .i64 F1) := (obj_cell o5 1).1
  have hl5 : w2.heap.size < w3.heap.size := (Array.getElem?_eq_some_iff.1 o5).1
  have HB3 : Hid (Below w1.heap.size w1 w3) := HB2'.out.trans (bel3.mono HB2'.out.size)
  have HBA : Hid (Below w1.heap.size w1 (w3.alloc (fireO F0 F1))) := HB3.out.alloc HB3.out.size _
  clear bel3 o5
  cases G with
  | false =>
    go_wp2_with fail
    refine (implClockOk_any _ _ _ _ l _ (Nat.le_refl _) hl6 (HZ.out _ (by exact HBA.out))).mono ?_
    rintro e w4 ⟨rfl, bel4⟩
    have HB4 := hidOf (HBA.out.trans (bel4.mono HBA.out.size))
    clear bel4
    cases hok : btsB l with
    | false =>
      go_wp2_with fail
      go_ret
      exact ⟨rfl, HBW.out _ HB4.out⟩
    | true =>
      by_cases hl0 : l.length = 0
      · go_wp2_with fail
        go_ret
        exact ⟨rfl, HBW.out _ HB4.out⟩
      · have hl0' : ((l.length : Int) == 0) = false := by simp; exact fun e => hl0 (by rw [e]; rfl)
        by_cases p0 : p < 0
        · go_wp2_with fail
          go_ret
          exact ⟨ret_bool (by simp), HBW.out _ HB4.out⟩
        · by_cases p1 : 9999 < p
          · go_wp2_with fail
            go_ret
            exact ⟨ret_bool (by simp), HBW.out _ HB4.out⟩
          · exact absurd (HNF.out trivial hok (by omega) (by omega)) hl0
  | true =>
    obtain ⟨hok, hp2, hne, hfe⟩ := HNM.out rfl
    have hlall : ∀ x ∈ l, btB x = true := by
      have h : l.all btB = true ∧ l.length ≤ 3 := by simpa [btsB] using hok
      exact fun x hx => List.all_eq_true.1 h.1 x hx
    obtain ⟨hge, hle⟩ := next_ge hlall hne hp2
    rw [← hfe] at hge hle
    dsimp only at hge hle
    have hfp : (p : Int) ≤ F0 := hge
    by_cases k1 : 9999 ≤ F0
    · clear hfe hlall
      go_wp2_with fail
      go_ret
      exact ⟨ret_bool (by simp; try omega), HBW.out _ (by exact HBA.out)⟩
    · have hw0 : IntKind.i64.wrap (F0 - p) = F0 - p := by rw [IntKind.wrap_i64]; omega
      by_cases k2 : 40 ≤ F0 - p
      · clear hfe hlall
        go_wp2_with fail
        go_ret
        exact ⟨ret_bool (by simp; try omega), HBW.out _ (by exact HBA.out)⟩
      · have hw1 : IntKind.i64.wrap (F0 + 1) = F0 + 1 := by rw [IntKind.wrap_i64]; omega
        obtain ⟨⟨r, hr⟩, hall⟩ := next_due hlall hne hp2.1 hfe.symm hge (by dsimp only; omega)
        have hcl : clockM l p (F0 + 1) = dueM l p (F0 + 1 - p).toNat := by
          unfold clockM
          rw [hok, show spanB p (F0 + 1) = true by simp [spanB]; omega]
          rfl
        have HDU2 := hidOf (HDU.out (F0 + 1))
        rw [hcl] at HDU2
        obtain ⟨R, hR⟩ : ∃ R, dueM l p (F0 + 1 - p).toNat = R := ⟨_, rfl⟩
        have hrl : R.length ≤ 200 := by
          have h1 := dueM_len l (F0 + 1 - p).toNat p
          rw [hR] at h1
          have h2 : (F0 + 1 - p).toNat * l.length ≤ 40 * 4 := Nat.mul_le_mul (by omega) hl4
          omega
        rw [hR] at HDU2 hr hall
        have HRR := hidOf hr
        have HALL := hidOf hall
        have hrp : 1 ≤ R.length := by rw [hr]; simp
        clear hcl hR hr hall hfe hlall HDU hok
        go_wp2_with fail
        refine (HDU2.out _ _ _ _ _ (Nat.le_refl _) hl6 (HZ.out _ (by exact HBA.out))).mono ?_
        rintro e w4 ⟨v4, rfl, ho4, bel4⟩
        obtain ⟨ra, rc, rfl, _, hf4⟩ := ho4.free
        have HF4 := hidOf hf4
        have HB4 : Hid (Below w1.heap.size w1 w4) := HBA.out.trans (bel4.mono HBA.out.size)
        have d0 := (bel4.cell (p := ⟨w2.heap.size, 0, none⟩) (by simp; omega)).trans ((((Below.refl w3.heap.size w3).alloc (Nat.le_refl _) (fireO F0 F1)).cell (p := ⟨w2.heap.size, 0, none⟩) hl5).trans g0)
        have d1 := (bel4.cell (p := ⟨w2.heap.size, 1, none⟩) (by simp; omega)).trans ((((Below.refl w3.heap.size w3).alloc (Nat.le_refl _) (fireO F0 F1)).cell (p := ⟨w2.heap.size, 1, none⟩) hl5).trans g1)
        clear ho4 hf4 bel4
        obtain ⟨b, x, y, rfl, hb, hxy, c0, c1⟩ := HF4.out.at (k := 0) (by omega)
        obtain ⟨b', x', y', e', hb', hxy', c0', c1'⟩ := HF4.out.at (k := R.length - 1) (by omega)
        cases e'
        have hx0 : (x, y) = (F0, F1) := by rw [HRR.out] at hxy; simpa using hxy.symm
        cases hx0
        have hx1 : x' = F0 := HALL.out (x', y') (List.mem_of_getElem? hxy')
        subst hx1
        obtain ⟨m, hm2⟩ : ∃ m, R.length = m + 1 := ⟨R.length - 1, by omega⟩
        have hwm : IntKind.i64.wrap ((m + 1 : Nat) - 1 : Int) = m := by rw [IntKind.wrap_i64]; omega
        rw [hm2] at c0' c1' ⊢
        rw [Nat.add_sub_cancel] at c0' c1'
        rw [Nat.zero_mul] at c0 c1
        clear hxy hxy'
        go_wp2_with fail
        go_quiet (fail)
        go_wp2_with fail
        go_ret
        exact ⟨ret_bool (by simp), HBW.out _ (drewN HB4.out _)⟩

/-! ### THE ROW's STEP -/
set_option maxRecDepth 100000 in
theorem lifted (os : Os) (started : os.Started) (H : Type) (enc : TypeId × Value → H) :
    ReturnsInHanded {} Try.checked os 5 .any (Rows.fnClockNextSpec.pre6 enc Try.prog Try.f5 Rows.fnClockNextRow.domain false) (Rows.fnClockNextSpec.post enc Try.prog Try.f5 false true false false) := by
  refine returnsInHanded_of_change (C := Try.checked) own started (by kernel_rfl) Try.func5
    (ChangeSpec.witness6 (enc := enc) (C := Try.checked) false ⟨#[], #[.slice none 0 0], []⟩ 8 (by kernel_rfl) (by kernel_rfl) (by kernel_rfl) (by kernel_rfl)) ?_
  intro W base args ds gs before hval0 hW hcnd _
  have hval : ∀ (j : Nat) t v, Try.f5.params[j]? = some t → args[j]? = some v → Value.okWide Try.prog W .any base t v := hval0
  have hW' := hW
  obtain ⟨p, q, hA0, hV, rfl, hfz, hnd⟩ := hW
  have hA : DataW.TrodAll enc Try.prog W 0 (fun _ => true) true Try.f5.params.toList args.toList ds p := hA0
  rw [Try.params5] at hA hval
  obtain ⟨v0, vs0, d0, ds0, p0, q0, hargs, rfl, rfl, h0, r0⟩ := trodAll_cons hA
  obtain ⟨rfl, rfl, rfl⟩ := trodAll_nil r0
  obtain rfl : args = #[v0] := by cases args; simp_all
  obtain ⟨rfl, rfl⟩ := trodVars_none hV
  obtain ⟨a0, len0, cap0, rfl⟩ := okWide_slice Try.underlying22 (hval 0 22 v0 rfl rfl)
  have k0 := h0
  have lt0 : ∀ x ∈ p0, x.block < W.heap.size := by obtain ⟨m, hm⟩ := k0; exact DataW.trod_lt m _ _ _ hm
  obtain ⟨fuel0, hf0⟩ := h0
  obtain ⟨hc0, hm0, bs, w0⟩ := open_code rfl hf0
  clear hA0 hval0
  refine (walk a0 len0 cap0 bs W hc0 hm0 w0).mono fun e W' ⟨he, bel⟩ => ?_
  subst he
  exact ⟨_, rfl, _, _, _, [], _, [], hW', trodAll_mk1 (shut_bool Try.underlying4 _), (trodAll_cons_mk (Below.trod laidOut (by kernel_rfl) (of_decide_eq_true (by kernel_rfl)) k0 bel lt0) trodAll_mk0), rfl, bel.frame _, fun h => by cases h⟩

theorem over : Rows.fnClockNextRow.holds Try.pinned (OpenSpec.ofChange Rows.fnClockNextSpec) :=
  OpenClaim.holds_of_wide 5 Try.f5 rfl rfl rfl rfl rfl rfl rfl ⟨rfl, rfl, rfl, rfl, rfl⟩ rfl rfl rfl rfl rfl (by kernel_rfl) Try.func5 (by kernel_rfl)
    (of_decide_eq_true (by kernel_rfl)) (by unfold Func.isWrapper; first | (rw [if_pos (by decide +kernel)]; kernel_rfl) | (rw [if_neg (by decide +kernel)]; exact ⟨rfl, rfl⟩))
    (fun os started H enc _ => lifted os started H enc)

theorem proved : Rows.FnClockNextSaid := over
#print axioms proved
end Go.Proofs.Ytlpdilmdhfemdaa.fnClockNext
