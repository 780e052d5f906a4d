/- The line scanner. -/
import Derived.Test.YtjmgfpldjccilaaGreatDoorStoryPure
import Derived.Test.YtjmgfpldjccilaaGreatDoorEvTabG
import Derived.Test.YtjmgfpldjccilaaGreatDoorBoxNew
namespace Go.Proofs.YtjmgfpldjccilaaGreatDoor
open Go Go.RowKit Go.PlainAid
set_option linter.unusedSimpArgs false
set_option linter.unusedVariables false

theorem cut_any (l : List UInt8) (w : World) (hT : TbG w) (hs : l.length ≤ 1048576) :
    Calls Tryz.prog 81 #[.string (bt8 l), .string ⟨#[10]⟩] w fun e w' => e = .returned (.tuple #[.string (bt8 (Lib.cut l [10]).1), .string (bt8 (Lib.cut l [10]).2.1), .bool (Lib.cut l [10]).2.2]) ∧ ∃ n, w' = w.drewN n := by
  obtain ⟨m, hm⟩ := hT.maxlen
  have h := Tryz.strings_Cut (bt8 l) ⟨#[10]⟩ m w (by rw [bt8_size]; omega) hm
  rw [bt8_list] at h
  exact h

set_option maxHeartbeats 1600000 in
set_option maxRecDepth 100000 in
/-- no line: nothing is told but that -/
theorem scan_no (p : Nat) (x : ByteArray) (l : List UInt8) (w : World) (hT : TbG w) (hs : l.length ≤ 1048576) (hl : NoB 10 l) (c0 : w.cell? ⟨p, 0, none⟩ = some (.string x)) (c1 : w.cell? ⟨p, 1, none⟩ = some (.string (bt8 l))) :
    Calls Tryz.prog 69 #[.pointer (some ⟨p, 0, none⟩)] w fun e w' => e = .returned (.bool false) ∧ ∃ n, w' = w.drewN n := by
  have HC := hidOf (cut_any l w hT hs)
  rw [cut_no hl] at HC
  clear hT
  go_enter Tryz.func69, Tryz.ntmps69
  go_wp2_with fail
  refine HC.out.mono ?_
  rintro e w1 ⟨rfl, n, rfl⟩
  go_wp2_with fail
  go_ret
  exact ⟨rfl, n, rfl⟩
set_option maxHeartbeats 1600000 in
set_option maxRecDepth 100000 in
/-- a line -/
theorem scan_line (p : Nat) (x : ByteArray) (L R : List UInt8) (w : World) (hT : TbG w) (hs : (L ++ 10 :: R).length ≤ 1048576) (hl : NoB 10 L) (c0 : w.cell? ⟨p, 0, none⟩ = some (.string x)) (c1 : w.cell? ⟨p, 1, none⟩ = some (.string (bt8 (L ++ 10 :: R)))) (f0 : w.frozen? ⟨p, 0, none⟩ = false) (f1 : w.frozen? ⟨p, 1, none⟩ = false) :
    Calls Tryz.prog 69 #[.pointer (some ⟨p, 0, none⟩)] w fun e w' => e = .returned (.bool true) ∧ ∃ n, w' = ((w.drewN n).setCell ⟨p, 0, none⟩ (.string (bt8 L))).setCell ⟨p, 1, none⟩ (.string (bt8 R)) := by
  have HC := hidOf (cut_any (L ++ 10 :: R) w hT hs)
  rw [cut_at hl] at HC
  obtain ⟨S, hS⟩ : ∃ S, bt8 (L ++ 10 :: R) = S := ⟨_, rfl⟩
  rw [hS] at c1 HC
  clear hT hS hs hl
  go_enter Tryz.func69, Tryz.ntmps69
  go_wp2_with fail
  refine HC.out.mono ?_
  rintro e w1 ⟨rfl, n, rfl⟩
  have d0 : (w.drewN n).cell? ⟨p, 0, none⟩ = some (.string x) := c0
  have d1 : (w.drewN n).cell? ⟨p, 1, none⟩ = some (.string S) := c1
  have g0 : (w.drewN n).frozen? ⟨p, 0, none⟩ = false := f0
  have g1 : (w.drewN n).frozen? ⟨p, 1, none⟩ = false := f1
  obtain ⟨W, hW⟩ : ∃ W, w.drewN n = W := ⟨_, rfl⟩
  have HW := hidOf hW
  rw [hW] at d0 d1 g0 g1
  have k1 : (W.setCell ⟨p, 0, none⟩ (.string (bt8 L))).cell? ⟨p, 1, none⟩ = some (.string S) := by rw [setCell_ne _ _ _ _ _ (by omega)]; exact d1
  clear hW c0 c1 f0 f1
  rw [HW.out]
  go_wp2_with fail
  go_ret
  exact ⟨rfl, n, by rw [HW.out]⟩
end Go.Proofs.YtjmgfpldjccilaaGreatDoor
