/- strconv.Atoi of one to six figures. -/
import Derived.Test.YtchemhjcknkbgaaGreatDoorReader3
import Derived.Laws.IdiomStrings
import Derived.Test.YtchemhjcknkbgaaGreatDoorBunY15
namespace Go.Proofs.YtchemhjcknkbgaaGreatDoor
open Go Go.RowKit Go.PlainAid
set_option linter.unusedSimpArgs false
set_option linter.unusedVariables false

theorem figTo_at {x : ByteArray} : ∀ {n k : Nat}, figTo x n = true → k < n → figB (bt x k) = true := by
  intro n
  induction n with
  | zero => intro k _ h; omega
  | succ n ih =>
    intro k h hk
    simp [figTo] at h
    by_cases e : k = n
    · subst e; exact h.2
    · exact ih h.1 (by omega)
/-- the bytes of a text, in a row of their own -/
theorem conv_bytes (x : ByteArray) (w : World) : ∃ c1 w1, (convert 9 140 (.string x)).run Tryz.prog w = .ok (.slice (some ⟨w.heap.size, 0, none⟩) x.size c1) w1 ∧ x.size ≤ c1 ∧ (∀ k, k < x.size → w1.cell? ⟨w.heap.size, k, none⟩ = some (.int .u8 (bt x k))) ∧ Below w.heap.size w w1 := by
  refine ⟨_, _, run_bytes_of_string w 9 140 5 x Tryz.underlying9 Tryz.underlying140 Tryz.underlying5, grownCap_ge _ _ _ _, fun k hk => ?_, ?_⟩
  · have h1 := bytesRow_at x (grownCap w x.size 0 5) k hk
    have hh : ∀ (o : Obj), (w.drew.alloc o).heap[w.heap.size]? = some o := fun o => by
      show (w.heap.push o)[w.heap.size]? = _
      simp
    have h2 : ∀ (C : Array Value) (t : TypeId) (fr : Nat × Nat), (w.drew.alloc (.cells C t fr)).cell? ⟨w.heap.size, k, none⟩ = C[k]? := fun C t fr => by
      unfold World.cell?
      simp only [hh]
      rfl
    rw [h2, h1, ← get_bt x k hk]
    rfl
  · exact ((Below.refl _ _).drew).alloc (Nat.le_refl _) _

set_option maxHeartbeats 800000 in
set_option maxRecDepth 100000 in
theorem iAtoi_any (x : ByteArray) (w : World) (h1 : 1 ≤ x.size) (h6 : x.size ≤ 6) (hf : figTo x x.size = true) :
    Calls Tryz.prog 266 #[.string x] w fun e w' => e = .returned (.tuple #[.int .i64 (numTo x x.size), .nilIface]) ∧ Below w.heap.size w w' := by
  have HF : Hid (figTo x x.size = true) := hf
  have hbx := get_bt x
  have hb0 : 48 ≤ bt x 0 ∧ bt x 0 ≤ 57 := by
    have := figTo_at hf (k := 0) (by omega)
    unfold figB at this; simpa using this
  have e45 : (bt x 0 == 45) = false := by simp; omega
  have e43 : (bt x 0 == 43) = false := by simp; omega
  clear hf
  obtain ⟨c1, w1, hcv, hc1, hcell, hb1⟩ := conv_bytes x w
  have HC : Hid (∀ k, k < x.size → w1.cell? ⟨w.heap.size, k, none⟩ = some (.int .u8 (bt x k))) := hcell
  have HB : Hid (Below w.heap.size w w1) := hb1
  clear hcell hb1
  go_enter Tryz.func266, Tryz.ntmps266
  go_wp2_with fail
  go_loop [6, 49] (fun v i => ∃ k : Nat, k ≤ x.size ∧ i = .int .i64 k ∧ v = .int .i64 (numTo x k)) (fun _ i => x.size - (intOf i).toNat)
  case atStart => exact ⟨0, Nat.zero_le _, rfl, rfl⟩
  case round =>
    obtain ⟨k, hk, rfl, rfl⟩ := hrel
    have hfk := figTo_le x hk HF.out
    obtain ⟨n0, n1⟩ := numTo_le hfk (by omega)
    by_cases hlt : k < x.size
    · have hck := HC.out k hlt
      have hbk : 48 ≤ bt x k ∧ bt x k ≤ 57 := by
        have := figTo_at HF.out hlt
        unfold figB at this; simpa using this
      obtain ⟨hb1, hb2⟩ := hbk
      have HN : Hid (numTo x (k + 1) = numTo x k * 10 + (bt x k - 48)) := rfl
      generalize numTo x k = n at *
      go_wp2_with fail
      go_round
      case rel => exact ⟨k + 1, by omega, by go_num, by rw [HN.out]⟩
      case measure => simp [intOf]; omega
    · have hkx : k = x.size := by omega
      subst hkx
      go_wp2_with fail
      go_ret2
      exact ⟨rfl, HB.out⟩
theorem atoi_any (x : ByteArray) (w : World) (h1 : 1 ≤ x.size) (h6 : x.size ≤ 6) (hf : figTo x x.size = true) :
    Calls Tryz.prog 254 #[.string x] w fun e w' => e = .returned (.tuple #[.int .i64 (numTo x x.size), .nilIface]) ∧ Below w.heap.size w w' := by
  obtain ⟨n, hn⟩ : ∃ n, numTo x x.size = n := ⟨_, rfl⟩
  have HA : Hid (∀ w, Calls Tryz.prog 266 #[.string x] w fun e w' => e = .returned (.tuple #[.int .i64 n, .nilIface]) ∧ Below w.heap.size w w') := fun w => by rw [← hn]; exact iAtoi_any x w h1 h6 hf
  rw [hn]
  clear hn hf
  go_enter Tryz.func254, Tryz.ntmps254
  go_wp2_with (go_at_call 266; refine (HA.out _).mono ?_; rintro e w1 ⟨rfl, hb1⟩)
  go_ret2
  exact ⟨rfl, hb1⟩
end Go.Proofs.YtchemhjcknkbgaaGreatDoor

/- The program's reader: a number, a single part, what stands in parentheses, signs ahead, climbing. -/
namespace Go.Proofs.YtchemhjcknkbgaaGreatDoor
open Go Go.RowKit Go.PlainAid
set_option linter.unusedSimpArgs false
set_option linter.unusedVariables false

/-- a part, as the program holds it -/
def partV : Tree → Value
  | .num n => .iface 312 (.agg #[.int .i64 n])
  | .name x => .iface 290 (.agg #[.string x])
  | .ahead k t => .iface 270 (.agg #[.int .i64 k, partV t])
  | .pair k l r => .iface 239 (.agg #[.int .i64 k, partV l, partV r])
def IsPart (v : Value) : Prop := v = .nilIface ∨ ∃ t x, v = .iface t x
theorem partV_is (t : Tree) : IsPart (partV t) := by cases t <;> exact .inr ⟨_, _, rfl⟩
theorem RdI.below {w w' : World} {p : Nat} {s : ByteArray} {a d : Nat} (h : RdI w p s a d) (hb : Below w.heap.size w w') : RdI w' p s a d :=
  ⟨(hb.cell h.lt).trans h.c0, (hb.cell h.lt).trans h.c1, fun j => (hb.frozen h.lt).trans (h.fz j)⟩
/-- what reading leaves -/
def RdPost (p : Nat) (s : ByteArray) (d : Nat) (w : World) (r : CR) (e : Ending) (w' : World) : Prop :=
  Mv p w w' ∧ match r with
    | none => ∃ v, IsPart v ∧ e = .returned (.tuple #[v, .bool false])
    | some (t, a') => e = .returned (.tuple #[partV t, .bool true]) ∧ RdI w' p s a' d

set_option maxHeartbeats 800000 in
set_option maxRecDepth 100000 in
theorem number_rd (p : Nat) (s : ByteArray) (a d : Nat) (w : World) (h : RdI w p s a d) (hs : s.size ≤ 1048576) (ha : a < s.size) (hf : figB (bt s a) = true) :
    Calls Tryz.prog 234 #[.pointer (some ⟨p, 0, none⟩)] w fun e w' => RdPost p s d w (numberC s a) e w' := by
  have H : Hid (RdI w p s a d) := h
  have hle := figEnd_le (show a ≤ s.size by omega)
  have hst := figEnd_step ha hf
  have hle2 := figEnd_le (show a + 1 ≤ s.size by omega)
  have hab : a < figEnd s a := by rw [hst]; omega
  clear hst hle2
  obtain ⟨f1, f2, f3⟩ := fig_word s (s.size - a) a (Nat.le_refl _)
  have HF : Hid (∀ j, a ≤ j → j < figEnd s a → figB (bt s j) = true) := f2
  have HR : Hid (Calls Tryz.prog 235 #[.pointer (some ⟨p, 0, none⟩), .func (Fn.func 203) #[] #[]] w fun e w' => e = .returned (.string (s.extract a (figEnd s a))) ∧ w' = w.setCell ⟨p, 0, none⟩ (.string (tl s (figEnd s a)))) := runFig_rd p s a d w h hs (by omega)
  unfold numberC
  clear h f1 f2 f3
  generalize figEnd s a = b at *
  have hsz : (s.extract a b).size = b - a := by rw [ByteArray.size_extract]; omega
  have hb0 : bt (s.extract a b) 0 = bt s a := by rw [bt_extract s hle.2 (by omega)]; rfl
  have HFT : Hid (figTo (s.extract a b) (s.extract a b).size = true) := figTo_all _ (fun j hj => by
    rw [bt_extract s hle.2 (by omega)]; exact HF.out _ (by omega) (by omega))
  have HNUM : Hid (numTo (s.extract a b) (s.extract a b).size = numTo (s.extract a b) (b - a)) := by rw [hsz]; rfl
  obtain ⟨n, hn⟩ : ∃ n, numTo (s.extract a b) (b - a) = n := ⟨_, rfl⟩
  rw [hn] at HNUM ⊢
  generalize s.extract a b = x at *
  have hbx := get_bt x
  by_cases h6 : 6 < b - a
  · rw [if_pos (.inl h6)]
    go_enter Tryz.func234, Tryz.ntmps234
    go_wp2_with (go_at_call 235; refine HR.out.mono ?_; rintro e w1 ⟨rfl, hw1⟩; have HW1 : Hid (w1 = w.setCell ⟨p, 0, none⟩ (.string (tl s b))) := hw1; clear hw1)
    go_ret2
    exact ⟨by rw [HW1.out]; exact (Mv.refl p w).cell _ _, _, .inl rfl, rfl⟩
  by_cases h0 : 1 < b - a ∧ bt s a = 48
  · rw [if_pos (.inr h0)]
    obtain ⟨h01, h02⟩ := h0
    rw [h02] at hb0
    go_enter Tryz.func234, Tryz.ntmps234
    go_wp2_with (go_at_call 235; refine HR.out.mono ?_; rintro e w1 ⟨rfl, hw1⟩; have HW1 : Hid (w1 = w.setCell ⟨p, 0, none⟩ (.string (tl s b))) := hw1; clear hw1)
    go_ret2
    exact ⟨by rw [HW1.out]; exact (Mv.refl p w).cell _ _, _, .inl rfl, rfl⟩
  rw [if_neg (by omega)]
  have HA : Hid (∀ w, Calls Tryz.prog 254 #[.string x] w fun e w' => e = .returned (.tuple #[.int .i64 n, .nilIface]) ∧ Below w.heap.size w w') := fun w => by
    rw [← HNUM.out]; exact atoi_any x w (by omega) (by omega) HFT.out
  have key : ∀ w1 w2 : World, w1 = w.setCell ⟨p, 0, none⟩ (.string (tl s b)) → Below w1.heap.size w1 w2 → ∀ k, RdPost p s d w (some (.num n, b)) (.returned (.tuple #[partV (.num n), .bool true])) (w2.drewN k) := by
    intro w1 w2 h1 h2 k
    subst h1
    exact ⟨(((Mv.refl p w).cell _ _).trans (Mv.of_below h2)).drewN k, rfl, ((H.out.at b).below h2).drewN k⟩
  have KEY : Hid (∀ w1 w2 : World, w1 = w.setCell ⟨p, 0, none⟩ (.string (tl s b)) → Below w1.heap.size w1 w2 → ∀ k, RdPost p s d w (some (.num n, b)) (.returned (.tuple #[partV (.num n), .bool true])) (w2.drewN k)) := key
  clear key hn
  by_cases h1 : 1 < b - a
  · have hne : (bt s a == 48) = false := by simp; omega
    clear h0
    go_enter Tryz.func234, Tryz.ntmps234
    go_wp2_with (first | (go_at_call 235; refine HR.out.mono ?_; rintro e w1 ⟨rfl, hw1⟩; clear HR; have HW1 : Hid (w1 = w.setCell ⟨p, 0, none⟩ (.string (tl s b))) := hw1; clear hw1) | (go_at_call 254; refine (HA.out _).mono ?_; rintro e w2 ⟨rfl, hb2⟩))
    go_quiet (fail)
    go_wp2_with fail
    go_ret2
    exact KEY.out w1 w2 HW1.out hb2 _
  · clear h0
    go_enter Tryz.func234, Tryz.ntmps234
    go_wp2_with (first | (go_at_call 235; refine HR.out.mono ?_; rintro e w1 ⟨rfl, hw1⟩; clear HR; have HW1 : Hid (w1 = w.setCell ⟨p, 0, none⟩ (.string (tl s b))) := hw1; clear hw1) | (go_at_call 254; refine (HA.out _).mono ?_; rintro e w2 ⟨rfl, hb2⟩))
    go_quiet (fail)
    go_wp2_with fail
    go_ret2
    exact KEY.out w1 w2 HW1.out hb2 _
end Go.Proofs.YtchemhjcknkbgaaGreatDoor

/- The program's reader: what stands in parentheses, a single part, signs ahead. -/
namespace Go.Proofs.YtchemhjcknkbgaaGreatDoor
open Go Go.RowKit Go.PlainAid
set_option linter.unusedSimpArgs false
set_option linter.unusedVariables false

/-- climbing from any place behind a -/
def ClimbAt (s : ByteArray) (a : Nat) : Prop := ∀ (p : Nat) (least : Int) (b d : Nat) (w : World), p ≠ 0 → a < b → b ≤ s.size → d ≤ 6 → 1 ≤ least → least ≤ 6 → RdI w p s b d → Signs w →
  Calls Tryz.prog 137 #[.pointer (some ⟨p, 0, none⟩), .int .i64 least] w fun e w' => RdPost p s d w (CC s least b d) e w'
/-- what stands in parentheses -/
def withinC (s : ByteArray) (a d : Nat) : CR :=
  if d = 6 then none else match CC s 1 (a + 1) (d + 1) with | none => none | some (t, a') => if hasAt s a' rpar then some (t, a' + 1) else none

set_option maxHeartbeats 800000 in
set_option maxRecDepth 100000 in
theorem within_rd (p : Nat) (s : ByteArray) (a d : Nat) (w : World) (hp : p ≠ 0) (h : RdI w p s a d) (hg : Signs w) (hs : s.size ≤ 1048576) (ha : a < s.size) (hd : d ≤ 6) (hC : ClimbAt s a) :
    Calls Tryz.prog 233 #[.pointer (some ⟨p, 0, none⟩)] w fun e w' => RdPost p s d w (withinC s a d) e w' := by
  have H : Hid (RdI w p s a d) := h
  have HG : Hid (Signs w) := hg
  have c1 := h.c1
  have f1 := h.fz 1
  have HC : Hid (ClimbAt s a) := hC
  obtain ⟨R, hR⟩ : ∃ R, withinC s a d = R := ⟨_, rfl⟩
  have HRR : Hid (withinC s a d = R) := hR
  rw [hR]
  clear h hg hC hR
  by_cases h6 : d = 6
  · have hR : R = none := by rw [← HRR.out]; unfold withinC; rw [if_pos h6]
    subst h6 hR
    go_enter Tryz.func233, Tryz.ntmps233
    go_wp2_with fail
    go_ret2
    exact ⟨Mv.refl p w, _, .inl rfl, rfl⟩
  have e6 : ((d : Int) == 6) = false := by simp; omega
  have H1 : Hid (RdI (w.setCell ⟨p, 1, none⟩ (.int .i64 ((d : Int) + 1))) p s a (d + 1)) := by
    have := H.out.op (d + 1)
    show RdI _ _ _ _ _
    simpa using this
  go_enter Tryz.func233, Tryz.ntmps233
  go_wp2_with fail
  refine (skip_rd p s a (d + 1) 1 _ (by exact H1.out) hs (by omega)).mono ?_
  rintro e w2 ⟨rfl, hw2⟩
  have H2 : Hid (RdI w2 p s (a + 1) (d + 1)) := by rw [hw2]; exact H1.out.at (a + 1)
  have M2 : Hid (Mv p w w2) := by rw [hw2]; exact ((Mv.refl p w).cell _ _).cell _ _
  have G2 : Hid (Signs w2) := HG.out.mv hp M2.out
  clear hw2 H1 e6 f1 c1
  go_wp2_with fail
  refine (HC.out p 1 (a + 1) (d + 1) w2 hp (by omega) (by omega) (by omega) (by decide) (by decide) H2.out G2.out).mono ?_
  rintro e w3 ⟨hm3, hpost⟩
  have M3 : Hid (Mv p w w3) := M2.out.trans hm3
  clear hm3
  cases hc : CC s 1 (a + 1) (d + 1) with
  | none =>
    rw [hc] at hpost
    obtain ⟨v, hv, rfl⟩ := hpost
    have HV : Hid (IsPart v) := hv
    have hR : R = none := by rw [← HRR.out]; unfold withinC; rw [if_neg h6, hc]
    clear hv hc
    subst hR
    go_wp2_with fail
    go_ret2
    exact ⟨M3.out, _, .inl rfl, rfl⟩
  | some q =>
    obtain ⟨t, a'⟩ := q
    rw [hc] at hpost
    obtain ⟨rfl, hr3⟩ := hpost
    have hadv := advCC s _ _ _ _ _ hc
    have ha' : a' ≤ s.size := hadv.2 (by omega)
    have H3 : Hid (RdI w3 p s a' (d + 1)) := hr3
    have c30 := hr3.c0
    have hRR : R = if hasAt s a' rpar then some (t, a' + 1) else none := by rw [← HRR.out]; unfold withinC; rw [if_neg h6, hc]
    have HP : Hid (∀ w, Calls Tryz.prog 211 #[.string (tl s a'), .string ⟨#[41]⟩] w fun e w' => e = .returned (.bool (hasAt s a' rpar)) ∧ w' = w) := fun w => hasPrefix_any s rpar a' w hs (by decide) ha'
    clear hr3 hc HRR
    cases hh : hasAt s a' rpar
    · rw [hh] at HP
      rw [hh] at hRR
      simp only [Bool.false_eq_true, if_false] at hRR
      subst hRR
      go_wp2_with (go_at_call 211; refine (HP.out _).mono ?_; rintro e w' ⟨rfl, hw'⟩; rw [hw']; clear hw' w')
      go_ret2
      exact ⟨M3.out, _, .inl rfl, rfl⟩
    · rw [hh] at HP
      have hlt := hasAt_lt hh
      have e1 : rpar.size = 1 := rfl
      rw [hh] at hRR
      simp only [if_true] at hRR
      subst hRR
      have HSK : Hid (Calls Tryz.prog 184 #[.pointer (some ⟨p, 0, none⟩), .int .i64 (1 : Nat)] w3 fun e w' => e = .returned (.tuple #[]) ∧ w' = w3.setCell ⟨p, 0, none⟩ (.string (tl s (a' + 1)))) := skip_rd p s a' (d + 1) 1 w3 H3.out hs (by omega)
      go_wp2_with (first | (go_at_call 211; refine (HP.out _).mono ?_; rintro e w' ⟨rfl, hw'⟩; rw [hw']; clear hw' w') | (go_at_call 184; refine HSK.out.mono ?_; rintro e w4 ⟨rfl, hw4⟩; have H4 : Hid (RdI w4 p s (a' + 1) (d + 1)) := (by rw [hw4]; exact H3.out.at (a' + 1)); have M4 : Hid (Mv p w w4) := (by rw [hw4]; exact M3.out.cell _ _); clear hw4 c30; have c41 := H4.out.c1; have f41 := H4.out.fz 1))
      go_ret2
      refine ⟨M4.out.cell _ _, rfl, ?_⟩
      have := H4.out.op d
      simpa using this

/-- a single part -/
theorem singleC_eq (s : ByteArray) (a d : Nat) : singleC (CC s) s a d = if s.size ≤ a then none else if bt s a = 40 then withinC s a d else if figB (bt s a) then numberC s a
    else if nmB (s.extract a (wordTo s a)) then some (.name (s.extract a (wordTo s a)), wordTo s a) else none := rfl
end Go.Proofs.YtchemhjcknkbgaaGreatDoor

/- The law's marks in a block's variables, moves and acts. -/
namespace Go.Proofs.YtchemhjcknkbgaaGreatDoor
open Go Go.RowKit Go.PlainAid
set_option linter.unusedSimpArgs false
set_option linter.unusedVariables false

set_option maxHeartbeats 1600000 in
set_option maxRecDepth 100000 in
theorem markVarS_kp (b n cap : Nat) (k : Int) (w : World) (h : Open b (n * 2) w) (hl : n ≤ 100000000) (hk0 : 0 < k) (hk1 : k ≤ 10000000000) :
    Calls Tryz.prog 47 #[.slice (some ⟨b, 0, none⟩) n cap, .int .i64 k] w fun e w' => e = .returned (.int .i64 (k + 2 * n)) ∧ Mv b w w' ∧ Keep b w w' := by
  have HO := hidOf h
  clear h
  go_enter Tryz.func47, Tryz.ntmps47
  go_wp2_with fail
  go_loopw [1, 5] (fun q i wr => ∃ m : Nat, m ≤ n ∧ i = .int .i64 m ∧ q = .int .i64 (k + 2 * m) ∧ Hid (Open b (n * 2) wr) ∧ Mv b w wr ∧ Hid (Keep b w wr)) (fun _ i _ => n - (intOf i).toNat)
  case atStart => exact ⟨0, Nat.zero_le _, rfl, by simp, HO, Mv.refl _ _, Keep.refl _ _⟩
  case round =>
    obtain ⟨m, hm, rfl, rfl, HC, hbel, HKP⟩ := hrel
    have p0 : IntKind.i64.wrap (k + 2 * m + 1) = k + 2 * m + 1 := IntWalk.i64_in _ ⟨by omega, by omega⟩
    have p1 : IntKind.i64.wrap (k + 2 * m + 1 + 1) = k + 2 * m + 1 + 1 := IntWalk.i64_in _ ⟨by omega, by omega⟩
    by_cases hlt : m < n
    · have hbs := HC.out.1
      have HMT0 : Hid (∀ w, Calls Tryz.prog 49 #[.int .i64 (k + 2 * m)] w fun e w' => e = .returned (.string (mtx (k + 2 * m))) ∧ Below w.heap.size w w') := fun w => markText_any _ w (by omega) (by omega)
      go_wp2_with fail
      refine (HMT0.out wr).mono ?_
      rintro e w0 ⟨rfl, b0⟩
      have HO0 := hidOf (HC.out.below b0)
      have HM0 : Hid (Mv b w w0) := hbel.trans (Mv.of_below b0)
      have HKP0 : Hid (Keep b w w0) := HKP.out.trans (Keep.below b0)
      have hbs0 := HO0.out.1
      clear b0
      obtain ⟨⟨x0, c0⟩, f0⟩ := HO0.out.2 (m * 2) (by omega)
      obtain ⟨⟨x1, c1⟩, f1⟩ := HO0.out.2 (m * 2 + 1) (by omega)
      have h1 : (w0.setCell ⟨b, m * 2, none⟩ (.string (mtx (k + 2 * m)))).cell? ⟨b, m * 2 + 1, none⟩ = some x1 := by rw [setCell_ne _ _ _ _ _ (by omega)]; exact c1
      clear c1
      go_wp2_with fail
      go_roundw
      case rel => exact ⟨m + 1, by omega, by go_num, congrArg (Value.int IntKind.i64) (by push_cast; omega), ((HO0.out.set _ _ (by omega)).set _ _ (by omega)), ((HM0.out.cell _ _).cell _ _), ((HKP0.out.trans (Keep.cell _ _ _ _)).trans (Keep.cell _ _ _ _))⟩
      case measure => simp [intOf]; omega
    · have : m = n := by omega
      subst this
      go_wp2_with fail
      go_ret
      exact ⟨rfl, hbel, HKP.out⟩

set_option maxHeartbeats 1600000 in
set_option maxRecDepth 100000 in
theorem markMoveS_kp (b n cap : Nat) (k : Int) (w : World) (h : Open b (n * 3) w) (hl : n ≤ 100000000) (hk0 : 0 < k) (hk1 : k ≤ 10000000000) :
    Calls Tryz.prog 91 #[.slice (some ⟨b, 0, none⟩) n cap, .int .i64 k] w fun e w' => e = .returned (.int .i64 (k + 3 * n)) ∧ Mv b w w' ∧ Keep b w w' := by
  have HO := hidOf h
  clear h
  go_enter Tryz.func91, Tryz.ntmps91
  go_wp2_with fail
  go_loopw [1, 5] (fun q i wr => ∃ m : Nat, m ≤ n ∧ i = .int .i64 m ∧ q = .int .i64 (k + 3 * m) ∧ Hid (Open b (n * 3) wr) ∧ Mv b w wr ∧ Hid (Keep b w wr)) (fun _ i _ => n - (intOf i).toNat)
  case atStart => exact ⟨0, Nat.zero_le _, rfl, by simp, HO, Mv.refl _ _, Keep.refl _ _⟩
  case round =>
    obtain ⟨m, hm, rfl, rfl, HC, hbel, HKP⟩ := hrel
    have p0 : IntKind.i64.wrap (k + 3 * m + 1) = k + 3 * m + 1 := IntWalk.i64_in _ ⟨by omega, by omega⟩
    have p1 : IntKind.i64.wrap (k + 3 * m + 1 + 1) = k + 3 * m + 1 + 1 := IntWalk.i64_in _ ⟨by omega, by omega⟩
    have p2 : IntKind.i64.wrap (k + 3 * m + 1 + 1 + 1) = k + 3 * m + 1 + 1 + 1 := IntWalk.i64_in _ ⟨by omega, by omega⟩
    by_cases hlt : m < n
    · have hbs := HC.out.1
      have HMT0 : Hid (∀ w, Calls Tryz.prog 49 #[.int .i64 (k + 3 * m)] w fun e w' => e = .returned (.string (mtx (k + 3 * m))) ∧ Below w.heap.size w w') := fun w => markText_any _ w (by omega) (by omega)
      have HMT1 : Hid (∀ w, Calls Tryz.prog 49 #[.int .i64 (k + 3 * m + 1)] w fun e w' => e = .returned (.string (mtx (k + 3 * m + 1))) ∧ Below w.heap.size w w') := fun w => markText_any _ w (by omega) (by omega)
      have HMT2 : Hid (∀ w, Calls Tryz.prog 49 #[.int .i64 (k + 3 * m + 1 + 1)] w fun e w' => e = .returned (.string (mtx (k + 3 * m + 1 + 1))) ∧ Below w.heap.size w w') := fun w => markText_any _ w (by omega) (by omega)
      go_wp2_with fail
      refine (HMT0.out wr).mono ?_
      rintro e w0 ⟨rfl, b0⟩
      have HO0 := hidOf (HC.out.below b0)
      have HM0 : Hid (Mv b w w0) := hbel.trans (Mv.of_below b0)
      have HKP0 : Hid (Keep b w w0) := HKP.out.trans (Keep.below b0)
      have hbs0 := HO0.out.1
      clear b0
      obtain ⟨⟨x0, c0⟩, f0⟩ := HO0.out.2 (m * 3) (by omega)
      obtain ⟨W1, hW1⟩ : ∃ W, W = (w0.setCell ⟨b, m * 3, none⟩ (.string (mtx (k + 3 * m)))) := ⟨_, rfl⟩
      have HW1 := hidOf hW1
      have HOW1 : Hid (Open b (n * 3) W1) := by
        show Open _ _ _
        rw [hW1]; exact (HO0.out.set (m * 3) (.string (mtx (k + 3 * m))) (by omega))
      have HMW1 : Hid (Mv b w W1) := by
        show Mv _ _ _
        rw [hW1]; exact (HM0.out.cell _ _)
      have HKW1 : Hid (Keep b w W1) := by
        show Keep _ _ _
        rw [hW1]; exact (HKP0.out.trans (Keep.cell _ _ _ _))
      clear hW1
      go_wp2_with fail
      rw [← HW1.out]
      clear f0 c0
      refine (HMT1.out W1).mono ?_
      rintro e w1 ⟨rfl, b1⟩
      have HO1 := hidOf (HOW1.out.below b1)
      have HM1 : Hid (Mv b w w1) := HMW1.out.trans (Mv.of_below b1)
      have HKP1 : Hid (Keep b w w1) := HKW1.out.trans (Keep.below b1)
      have hbs1 := HO1.out.1
      clear b1
      obtain ⟨⟨x1, c1⟩, f1⟩ := HO1.out.2 (m * 3 + 1) (by omega)
      obtain ⟨W2, hW2⟩ : ∃ W, W = (w1.setCell ⟨b, m * 3 + 1, none⟩ (.string (mtx (k + 3 * m + 1)))) := ⟨_, rfl⟩
      have HW2 := hidOf hW2
      have HOW2 : Hid (Open b (n * 3) W2) := by
        show Open _ _ _
        rw [hW2]; exact (HO1.out.set (m * 3 + 1) (.string (mtx (k + 3 * m + 1))) (by omega))
      have HMW2 : Hid (Mv b w W2) := by
        show Mv _ _ _
        rw [hW2]; exact (HM1.out.cell _ _)
      have HKW2 : Hid (Keep b w W2) := by
        show Keep _ _ _
        rw [hW2]; exact (HKP1.out.trans (Keep.cell _ _ _ _))
      clear hW2
      go_wp2_with fail
      rw [← HW2.out]
      clear f1 c1
      refine (HMT2.out W2).mono ?_
      rintro e w2 ⟨rfl, b2⟩
      have HO2 := hidOf (HOW2.out.below b2)
      have HM2 : Hid (Mv b w w2) := HMW2.out.trans (Mv.of_below b2)
      have HKP2 : Hid (Keep b w w2) := HKW2.out.trans (Keep.below b2)
      have hbs2 := HO2.out.1
      clear b2
      obtain ⟨⟨x2, c2⟩, f2⟩ := HO2.out.2 (m * 3 + 1 + 1) (by omega)
      go_wp2_with fail
      go_roundw
      case rel => exact ⟨m + 1, by omega, by go_num, congrArg (Value.int IntKind.i64) (by push_cast; omega), (HO2.out.set _ _ (by omega)), (HM2.out.cell _ _), (HKP2.out.trans (Keep.cell _ _ _ _))⟩
      case measure => simp [intOf]; omega
    · have : m = n := by omega
      subst this
      go_wp2_with fail
      go_ret
      exact ⟨rfl, hbel, HKP.out⟩

set_option maxHeartbeats 1600000 in
set_option maxRecDepth 100000 in
theorem markActS_kp (b n cap : Nat) (k : Int) (w : World) (h : Open b (n * 3) w) (hl : n ≤ 100000000) (hk0 : 0 < k) (hk1 : k ≤ 10000000000) :
    Calls Tryz.prog 92 #[.slice (some ⟨b, 0, none⟩) n cap, .int .i64 k] w fun e w' => e = .returned (.int .i64 (k + 3 * n)) ∧ Mv b w w' ∧ Keep b w w' := by
  have HO := hidOf h
  clear h
  go_enter Tryz.func92, Tryz.ntmps92
  go_wp2_with fail
  go_loopw [1, 5] (fun q i wr => ∃ m : Nat, m ≤ n ∧ i = .int .i64 m ∧ q = .int .i64 (k + 3 * m) ∧ Hid (Open b (n * 3) wr) ∧ Mv b w wr ∧ Hid (Keep b w wr)) (fun _ i _ => n - (intOf i).toNat)
  case atStart => exact ⟨0, Nat.zero_le _, rfl, by simp, HO, Mv.refl _ _, Keep.refl _ _⟩
  case round =>
    obtain ⟨m, hm, rfl, rfl, HC, hbel, HKP⟩ := hrel
    have p0 : IntKind.i64.wrap (k + 3 * m + 1) = k + 3 * m + 1 := IntWalk.i64_in _ ⟨by omega, by omega⟩
    have p1 : IntKind.i64.wrap (k + 3 * m + 1 + 1) = k + 3 * m + 1 + 1 := IntWalk.i64_in _ ⟨by omega, by omega⟩
    have p2 : IntKind.i64.wrap (k + 3 * m + 1 + 1 + 1) = k + 3 * m + 1 + 1 + 1 := IntWalk.i64_in _ ⟨by omega, by omega⟩
    by_cases hlt : m < n
    · have hbs := HC.out.1
      have HMT1 : Hid (∀ w, Calls Tryz.prog 49 #[.int .i64 (k + 3 * m + 1)] w fun e w' => e = .returned (.string (mtx (k + 3 * m + 1))) ∧ Below w.heap.size w w') := fun w => markText_any _ w (by omega) (by omega)
      have HMT2 : Hid (∀ w, Calls Tryz.prog 49 #[.int .i64 (k + 3 * m + 1 + 1)] w fun e w' => e = .returned (.string (mtx (k + 3 * m + 1 + 1))) ∧ Below w.heap.size w w') := fun w => markText_any _ w (by omega) (by omega)
      obtain ⟨⟨x0, c0⟩, f0⟩ := HC.out.2 (m * 3) (by omega)
      obtain ⟨W1, hW1⟩ : ∃ W, W = (wr.setCell ⟨b, m * 3, none⟩ (.int .i64 (k + 3 * m))) := ⟨_, rfl⟩
      have HW1 := hidOf hW1
      have HOW1 : Hid (Open b (n * 3) W1) := by
        show Open _ _ _
        rw [hW1]; exact (HC.out.set (m * 3) (.int .i64 (k + 3 * m)) (by omega))
      have HMW1 : Hid (Mv b w W1) := by
        show Mv _ _ _
        rw [hW1]; exact (hbel.cell _ _)
      have HKW1 : Hid (Keep b w W1) := by
        show Keep _ _ _
        rw [hW1]; exact (HKP.out.trans (Keep.cell _ _ _ _))
      clear hW1
      go_wp2_with fail
      rw [← HW1.out]
      clear f0 c0
      refine (HMT1.out W1).mono ?_
      rintro e w1 ⟨rfl, b1⟩
      have HO1 := hidOf (HOW1.out.below b1)
      have HM1 : Hid (Mv b w w1) := HMW1.out.trans (Mv.of_below b1)
      have HKP1 : Hid (Keep b w w1) := HKW1.out.trans (Keep.below b1)
      have hbs1 := HO1.out.1
      clear b1
      obtain ⟨⟨x1, c1⟩, f1⟩ := HO1.out.2 (m * 3 + 1) (by omega)
      obtain ⟨W2, hW2⟩ : ∃ W, W = (w1.setCell ⟨b, m * 3 + 1, none⟩ (.string (mtx (k + 3 * m + 1)))) := ⟨_, rfl⟩
      have HW2 := hidOf hW2
      have HOW2 : Hid (Open b (n * 3) W2) := by
        show Open _ _ _
        rw [hW2]; exact (HO1.out.set (m * 3 + 1) (.string (mtx (k + 3 * m + 1))) (by omega))
      have HMW2 : Hid (Mv b w W2) := by
        show Mv _ _ _
        rw [hW2]; exact (HM1.out.cell _ _)
      have HKW2 : Hid (Keep b w W2) := by
        show Keep _ _ _
        rw [hW2]; exact (HKP1.out.trans (Keep.cell _ _ _ _))
      clear hW2
      go_wp2_with fail
      rw [← HW2.out]
      clear f1 c1
      refine (HMT2.out W2).mono ?_
      rintro e w2 ⟨rfl, b2⟩
      have HO2 := hidOf (HOW2.out.below b2)
      have HM2 : Hid (Mv b w w2) := HMW2.out.trans (Mv.of_below b2)
      have HKP2 : Hid (Keep b w w2) := HKW2.out.trans (Keep.below b2)
      have hbs2 := HO2.out.1
      clear b2
      obtain ⟨⟨x2, c2⟩, f2⟩ := HO2.out.2 (m * 3 + 1 + 1) (by omega)
      go_wp2_with fail
      go_roundw
      case rel => exact ⟨m + 1, by omega, by go_num, congrArg (Value.int IntKind.i64) (by push_cast; omega), (HO2.out.set _ _ (by omega)), (HM2.out.cell _ _), (HKP2.out.trans (Keep.cell _ _ _ _))⟩
      case measure => simp [intOf]; omega
    · have : m = n := by omega
      subst this
      go_wp2_with fail
      go_ret
      exact ⟨rfl, hbel, HKP.out⟩
end Go.Proofs.YtchemhjcknkbgaaGreatDoor
