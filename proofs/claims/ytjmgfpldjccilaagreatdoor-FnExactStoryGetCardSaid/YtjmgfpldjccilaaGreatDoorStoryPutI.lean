/- Stories, how they are written: of lists of events; the program's StoryPut. -/
import Derived.Test.YtjmgfpldjccilaaGreatDoorListOfEv
import Derived.Test.YtjmgfpldjccilaaGreatDoorTextOf
namespace Go.Proofs.YtjmgfpldjccilaaGreatDoor
open Go Go.RowKit Go.PlainAid
set_option linter.unusedSimpArgs false
set_option linter.unusedVariables false

/-- all of them can be written, and they are not too many -/
def okS (l : List Ev) : Bool := decide (l.length ≤ 80) && l.all okE
def storyT (l : List Ev) : List UInt8 := linesT (l.map evT)
def putS (l : List Ev) : List UInt8 := if okS l then storyT l else []
theorem okS_iff {l : List Ev} : okS l = true ↔ l.length ≤ 80 ∧ ∀ x ∈ l, okE x = true := by simp [okS, List.all_eq_true]
theorem putS_yes {l : List Ev} (h1 : l.length ≤ 80) (h2 : ∀ x ∈ l, okE x = true) : putS l = storyT l := if_pos (okS_iff.2 ⟨h1, h2⟩)
theorem putS_many {l : List Ev} (h1 : 80 < l.length) : putS l = [] := if_neg (fun h => by have := (okS_iff.1 h).1; omega)
theorem putS_bad {l : List Ev} {x : Ev} (hx : x ∈ l) (h : okE x = false) : putS l = [] := if_neg (fun h' => by have := (okS_iff.1 h').2 x hx; rw [h] at this; cases this)
theorem putB_yes {x : Ev} (h : okE x = true) : putB x = bt8 (evT x) := by unfold putB putE; rw [if_pos h]
theorem putB_no {x : Ev} (h : okE x = false) : putB x = ⟨#[]⟩ := by unfold putB putE; rw [h]; rfl
theorem putB_ok {x : Ev} (h : putB x ≠ ⟨#[]⟩) : okE x = true := by
  cases hk : okE x with
  | true => rfl
  | false => exact absurd (putB_no hk) h
theorem putB_ne {x : Ev} (h : okE x = true) : putB x ≠ ⟨#[]⟩ := by
  rw [putB_yes h]
  intro e
  exact evT_ne x (bt8_inj (b := []) e)

set_option maxHeartbeats 1600000 in
set_option maxRecDepth 100000 in
theorem implStoryPut_any (B : Nat) (a : Option Addr) (n c : Nat) (l : List Ev) (w : World) (hT : TbP w) (hB : B ≤ w.heap.size) (hn : n ≤ 1048576) (hf : ∀ x ∈ l, FewEv x) (hz : IsEvs B w a n l) :
    Calls Tryz.prog 14 #[.slice a n c] w fun e w' => e = .returned (.string (bt8 (putS l))) ∧ Below w.heap.size w w' := by
  have hlen := hz.1
  by_cases h80 : 80 < n
  · have h80' : (80 : Int) < n := by omega
    have hP : putS l = [] := putS_many (by omega)
    rw [hP]
    clear hz hT hP
    go_enter Tryz.func14, Tryz.ntmps14
    go_wp2_with fail
    go_ret
    exact ⟨rfl, Below.refl _ _⟩
  have h80' : ¬ (80 : Int) < n := by omega
  have HL := hidOf (listOfEvent_any B a n c l w hB hn hT hf hz)
  obtain ⟨P, hPP⟩ : ∃ P, bt8 (putS l) = P := ⟨_, rfl⟩
  have HPP := hidOf hPP
  rw [hPP]
  clear hPP
  clear hz hT hf
  go_enter Tryz.func14, Tryz.ntmps14
  go_wp2_with fail
  refine HL.out.mono ?_
  rintro e w1 ⟨u, rfl, ho, hb1⟩
  obtain ⟨a1, c1, rfl, hc1, hz1, _⟩ := ho.form
  have hln : (l.map putB).length = n := by simpa using hlen
  rw [hln] at hz1 ⊢
  have HZ1 := hidOf hz1
  have HB1 := hidOf hb1
  have HCON : Hid (Calls Tryz.prog 36 #[.slice a1 n c1, .string ⟨#[]⟩] w1 fun e w' => e = .returned (.bool (decide (∃ x ∈ l, okE x = false))) ∧ w' = w1) := by
    have key : Lib.containsS (l.map putB) ⟨#[]⟩ = decide (∃ x ∈ l, okE x = false) := by
      rw [Bool.eq_iff_iff, Lib.containsS_iff, decide_eq_true_eq, List.mem_map]
      constructor
      · rintro ⟨x, hx, hy⟩
        refine ⟨x, hx, ?_⟩
        cases hk : okE x with
        | false => rfl
        | true => exact absurd hy (putB_ne hk)
      · rintro ⟨x, hx, hy⟩
        exact ⟨x, hx, putB_no hy⟩
    rcases hz1.2 with h0 | ⟨b, off, rfl, hb, hc⟩
    · have hl0 : l = [] := List.length_eq_zero_iff.1 (by omega)
      rw [← key, hl0, h0]
      exact Tryz.slices_Contains_string_empty a1 c1 ⟨#[]⟩ w1
    · have h := Tryz.slices_Contains_string b off n c1 (l.map putB) ⟨#[]⟩ w1 (by omega) (by omega) (fun j hj => by
        rw [hc j hj, List.getD_eq_getElem?_getD, List.getElem?_eq_getElem hj]; rfl)
      rw [List.take_of_length_le (by omega), key] at h
      exact h
  clear ho hz1 hb1
  by_cases hbad : ∃ x ∈ l, okE x = false
  · have hd : decide (∃ x ∈ l, okE x = false) = true := decide_eq_true hbad
    rw [hd] at HCON
    have hP : P = ⟨#[]⟩ := by obtain ⟨x, hx, h⟩ := hbad; rw [← HPP.out, putS_bad hx h]; rfl
    subst hP
    clear hbad hd
    go_wp2_with fail
    refine HCON.out.mono ?_
    rintro e w2 ⟨rfl, rfl⟩
    go_wp2_with fail
    go_ret
    exact ⟨rfl, HB1.out⟩
  · have hd : decide (∃ x ∈ l, okE x = false) = false := decide_eq_false hbad
    rw [hd] at HCON
    have hall : ∀ x ∈ l, okE x = true := fun x hx => by
      cases hk : okE x with
      | true => rfl
      | false => exact absurd ⟨x, hx, hk⟩ hbad
    have hP : P = bt8 (storyT l) := by rw [← HPP.out, putS_yes (by omega) hall]
    have hm : l.map putB = (l.map evT).map bt8 := by rw [List.map_map]; exact List.map_congr_left (fun x hx => putB_yes (hall x hx))
    have h80s : ∀ y ∈ l.map evT, y.length ≤ 80 := by
      intro y hy
      obtain ⟨x, hx, rfl⟩ := List.mem_map.1 hy
      exact evT_len (okE_iff.1 (hall x hx))
    have HTX := hidOf (textOf_any a1 n c1 (l.map evT) w1 (by omega) h80s (by rw [← hm]; exact HZ1.out))
    have HTP : Hid (bt8 (linesT (l.map evT)) = P) := hP.symm
    rw [HTP.out] at HTX
    clear hbad hd hP hall hm h80s
    go_wp2_with fail
    refine HCON.out.mono ?_
    rintro e w2 ⟨rfl, rfl⟩
    go_wp2_with fail
    refine HTX.out.mono ?_
    rintro e w3 ⟨rfl, hb3⟩
    have HB3 := hidOf (HB1.out.trans (hb3.mono HB1.out.size))
    clear hb3
    go_wp2_with fail
    go_ret
    exact ⟨rfl, HB3.out⟩
end Go.Proofs.YtjmgfpldjccilaaGreatDoor
