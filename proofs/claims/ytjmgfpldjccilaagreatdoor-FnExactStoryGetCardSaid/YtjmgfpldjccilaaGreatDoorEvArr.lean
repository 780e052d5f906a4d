/- Lists of events in memory. -/
import Derived.Test.YtjmgfpldjccilaaGreatDoorEvPure
import Derived.Test.YtjmgfpldjccilaaGreatDoorArrMem
import Derived.Test.YtjmgfpldjccilaaGreatDoorCpMem
import Derived.Test.YtjmgfpldjccilaaGreatDoorIntPure
namespace Go.Proofs.YtjmgfpldjccilaaGreatDoor
open Go Go.RowKit Go.PlainAid
set_option linter.unusedSimpArgs false
set_option linter.unusedVariables false

def QEv (B : Nat) (w : World) (cs : List Value) (x : Ev) : Prop := ∃ a n c, cs = [.int .i64 x.1, .int .i64 x.2.1, .int .i64 x.2.2.1, .slice a n c] ∧ n ≤ c ∧ n ≤ maxLen ∧ IsInts B w a n x.2.2.2
theorem QEv.below {B : Nat} {w w' : World} (hb : Below B w w') (cs : List Value) (x : Ev) (h : QEv B w cs x) : QEv B w' cs x := by
  obtain ⟨a, n, c, h1, h2, h3, h4⟩ := h
  exact ⟨a, n, c, h1, h2, h3, h4.below hb⟩
theorem QEv.mono {B B' : Nat} {w : World} (hb : B ≤ B') (cs : List Value) (x : Ev) (h : QEv B w cs x) : QEv B' w cs x := by
  obtain ⟨a, n, c, h1, h2, h3, h4⟩ := h
  exact ⟨a, n, c, h1, h2, h3, h4.mono hb⟩
theorem QEv.lift {B : Nat} {w w' : World} (hb : Below B w w') : ∀ cs x, QEv B w cs x → QEv B w' cs x := QEv.below hb
/-- events in memory -/
abbrev IsEvs (B : Nat) (w : World) (a : Option Addr) (n : Nat) (l : List Ev) : Prop := IsArr 4 QEv B w a n l
theorem IsEvs.down {B : Nat} {w w' : World} {a : Option Addr} {n : Nat} {l : List Ev} (h : IsEvs B w a n l) (hb : Below B w w') : IsEvs B w' a n l := IsArr.below h (QEv.lift hb) hb
theorem IsEvs.up {w w' : World} {a : Option Addr} {n : Nat} {l : List Ev} (h : IsEvs w.heap.size w a n l) (hb : Below w.heap.size w w') : IsEvs w'.heap.size w' a n l := IsArr.mono (IsEvs.down h hb) (QEv.mono hb.size) hb.size
def FewEv (x : Ev) : Prop := x.2.2.2.length ≤ 1048576
/-- a copy of an event: its list lies in a block from L on, and may be written -/
def CEv (L : Nat) (w : World) (cs : List Value) (x : Ev) : Prop := ∃ g n, cs = [.int .i64 x.1, .int .i64 x.2.1, .int .i64 x.2.2.1, .slice (some ⟨g, 0, none⟩) n n] ∧ n ≤ 1048576 ∧ CInt n x.2.2.2 L g w
theorem CEv.mv {L p : Nat} {w w' : World} {cs : List Value} {x : Ev} (h : CEv L w cs x) (hm : Mv p w w') (hp : p < L) : CEv L w' cs x := by
  obtain ⟨g, n, h1, h2, h3⟩ := h; exact ⟨g, n, h1, h2, h3.mv hm hp⟩
theorem CEv.below {L : Nat} {w w' : World} {cs : List Value} {x : Ev} (h : CEv L w cs x) (hb : Below w.heap.size w w') : CEv L w' cs x := by
  obtain ⟨g, n, h1, h2, h3⟩ := h; exact ⟨g, n, h1, h2, h3.below hb⟩
theorem CEv.low {L L' : Nat} {w : World} {cs : List Value} {x : Ev} (h : CEv L w cs x) (hL : L' ≤ L) : CEv L' w cs x := by
  obtain ⟨g, n, h1, h2, h3, h4, h5⟩ := h; exact ⟨g, n, h1, h2, Nat.le_trans hL h3, h4, h5⟩
theorem CEv.q {L : Nat} {w : World} (cs : List Value) (x : Ev) (h : CEv L w cs x) : QEv w.heap.size w cs x := by
  obtain ⟨g, n, h1, h2, h3⟩ := h
  exact ⟨_, n, n, h1, Nat.le_refl _, by unfold maxLen; omega, h3.is⟩
theorem open_madeE (w : World) (zs : Array Value) (N : Nat) (t : TypeId) : Open w.heap.size N (w.alloc (.cells (madeCells zs N) t)) := by
  have h := Fill.start w (madeCells zs N) t (fun _ => .bool false)
  rw [size_madeCells] at h
  exact ⟨h.lt, fun j hj => ⟨h.there j hj, h.open_ j⟩⟩
end Go.Proofs.YtjmgfpldjccilaaGreatDoor
