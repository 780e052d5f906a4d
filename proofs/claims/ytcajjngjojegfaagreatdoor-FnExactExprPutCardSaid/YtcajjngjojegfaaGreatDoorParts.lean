/- The program's reader: a number, a single part, what stands in parentheses, signs ahead, climbing. -/
import Derived.Test.YtcajjngjojegfaaGreatDoorAtoi
namespace Go.Proofs.YtcajjngjojegfaaGreatDoor
open Go Go.RowKit Go.PlainAid
set_option linter.unusedSimpArgs false
set_option linter.unusedVariables false

/-- a part, as the program holds it -/
def partV : Tree → Value
  | .num n => .iface 149 (.agg #[.int .i64 n])
  | .name x => .iface 151 (.agg #[.string x])
  | .ahead k t => .iface 153 (.agg #[.int .i64 k, partV t])
  | .pair k l r => .iface 140 (.agg #[.int .i64 k, partV l, partV r])
def IsPart (v : Value) : Prop := v = .nilIface ∨ ∃ t x, v = .iface t x
theorem partV_is (t : Tree) : IsPart (partV t) := by cases t <;> exact .inr ⟨_, _, rfl⟩
theorem RdI.below {w w' : World} {p : Nat} {s : ByteArray} {a d : Nat} (h : RdI w p s a d) (hb : Below w.heap.size w w') : RdI w' p s a d :=
  ⟨(hb.cell h.lt).trans h.c0, (hb.cell h.lt).trans h.c1, fun j => (hb.frozen h.lt).trans (h.fz j)⟩
/-- what reading leaves -/
def RdPost (p : Nat) (s : ByteArray) (d : Nat) (w : World) (r : CR) (e : Ending) (w' : World) : Prop :=
  Mv p w w' ∧ match r with
    | none => ∃ v, IsPart v ∧ e = .returned (.tuple #[v, .bool false])
    | some (t, a') => e = .returned (.tuple #[partV t, .bool true]) ∧ RdI w' p s a' d

set_option maxHeartbeats 800000 in
set_option maxRecDepth 100000 in
theorem number_rd (p : Nat) (s : ByteArray) (a d : Nat) (w : World) (h : RdI w p s a d) (hs : s.size ≤ 1048576) (ha : a < s.size) (hf : figB (bt s a) = true) :
    Calls Tryz.prog 130 #[.pointer (some ⟨p, 0, none⟩)] w fun e w' => RdPost p s d w (numberC s a) e w' := by
  have H : Hid (RdI w p s a d) := h
  have hle := figEnd_le (show a ≤ s.size by omega)
  have hst := figEnd_step ha hf
  have hle2 := figEnd_le (show a + 1 ≤ s.size by omega)
  have hab : a < figEnd s a := by rw [hst]; omega
  clear hst hle2
  obtain ⟨f1, f2, f3⟩ := fig_word s (s.size - a) a (Nat.le_refl _)
  have HF : Hid (∀ j, a ≤ j → j < figEnd s a → figB (bt s j) = true) := f2
  have HR : Hid (Calls Tryz.prog 131 #[.pointer (some ⟨p, 0, none⟩), .func (Fn.func 129) #[] #[]] w fun e w' => e = .returned (.string (s.extract a (figEnd s a))) ∧ w' = w.setCell ⟨p, 0, none⟩ (.string (tl s (figEnd s a)))) := runFig_rd p s a d w h hs (by omega)
  unfold numberC
  clear h f1 f2 f3
  generalize figEnd s a = b at *
  have hsz : (s.extract a b).size = b - a := by rw [ByteArray.size_extract]; omega
  have hb0 : bt (s.extract a b) 0 = bt s a := by rw [bt_extract s hle.2 (by omega)]; rfl
  have HFT : Hid (figTo (s.extract a b) (s.extract a b).size = true) := figTo_all _ (fun j hj => by
    rw [bt_extract s hle.2 (by omega)]; exact HF.out _ (by omega) (by omega))
  have HNUM : Hid (numTo (s.extract a b) (s.extract a b).size = numTo (s.extract a b) (b - a)) := by rw [hsz]; rfl
  obtain ⟨n, hn⟩ : ∃ n, numTo (s.extract a b) (b - a) = n := ⟨_, rfl⟩
  rw [hn] at HNUM ⊢
  generalize s.extract a b = x at *
  have hbx := get_bt x
  by_cases h6 : 6 < b - a
  · rw [if_pos (.inl h6)]
    go_enter Tryz.func130, Tryz.ntmps130
    go_wp2_with (go_at_call 131; refine HR.out.mono ?_; rintro e w1 ⟨rfl, hw1⟩; have HW1 : Hid (w1 = w.setCell ⟨p, 0, none⟩ (.string (tl s b))) := hw1; clear hw1)
    go_ret2
    exact ⟨by rw [HW1.out]; exact (Mv.refl p w).cell _ _, _, .inl rfl, rfl⟩
  by_cases h0 : 1 < b - a ∧ bt s a = 48
  · rw [if_pos (.inr h0)]
    obtain ⟨h01, h02⟩ := h0
    rw [h02] at hb0
    go_enter Tryz.func130, Tryz.ntmps130
    go_wp2_with (go_at_call 131; refine HR.out.mono ?_; rintro e w1 ⟨rfl, hw1⟩; have HW1 : Hid (w1 = w.setCell ⟨p, 0, none⟩ (.string (tl s b))) := hw1; clear hw1)
    go_ret2
    exact ⟨by rw [HW1.out]; exact (Mv.refl p w).cell _ _, _, .inl rfl, rfl⟩
  rw [if_neg (by omega)]
  have HA : Hid (∀ w, Calls Tryz.prog 138 #[.string x] w fun e w' => e = .returned (.tuple #[.int .i64 n, .nilIface]) ∧ Below w.heap.size w w') := fun w => by
    rw [← HNUM.out]; exact atoi_any x w (by omega) (by omega) HFT.out
  have key : ∀ w1 w2 : World, w1 = w.setCell ⟨p, 0, none⟩ (.string (tl s b)) → Below w1.heap.size w1 w2 → ∀ k, RdPost p s d w (some (.num n, b)) (.returned (.tuple #[partV (.num n), .bool true])) (w2.drewN k) := by
    intro w1 w2 h1 h2 k
    subst h1
    exact ⟨(((Mv.refl p w).cell _ _).trans (Mv.of_below h2)).drewN k, rfl, ((H.out.at b).below h2).drewN k⟩
  have KEY : Hid (∀ w1 w2 : World, w1 = w.setCell ⟨p, 0, none⟩ (.string (tl s b)) → Below w1.heap.size w1 w2 → ∀ k, RdPost p s d w (some (.num n, b)) (.returned (.tuple #[partV (.num n), .bool true])) (w2.drewN k)) := key
  clear key hn
  by_cases h1 : 1 < b - a
  · have hne : (bt s a == 48) = false := by simp; omega
    clear h0
    go_enter Tryz.func130, Tryz.ntmps130
    go_wp2_with (first | (go_at_call 131; refine HR.out.mono ?_; rintro e w1 ⟨rfl, hw1⟩; clear HR; have HW1 : Hid (w1 = w.setCell ⟨p, 0, none⟩ (.string (tl s b))) := hw1; clear hw1) | (go_at_call 138; refine (HA.out _).mono ?_; rintro e w2 ⟨rfl, hb2⟩))
    go_quiet (fail)
    go_wp2_with fail
    go_ret2
    exact KEY.out w1 w2 HW1.out hb2 _
  · clear h0
    go_enter Tryz.func130, Tryz.ntmps130
    go_wp2_with (first | (go_at_call 131; refine HR.out.mono ?_; rintro e w1 ⟨rfl, hw1⟩; clear HR; have HW1 : Hid (w1 = w.setCell ⟨p, 0, none⟩ (.string (tl s b))) := hw1; clear hw1) | (go_at_call 138; refine (HA.out _).mono ?_; rintro e w2 ⟨rfl, hb2⟩))
    go_quiet (fail)
    go_wp2_with fail
    go_ret2
    exact KEY.out w1 w2 HW1.out hb2 _
end Go.Proofs.YtcajjngjojegfaaGreatDoor
