/-
  No cell of these rows narrows 'for every input' (looked for: loops, veiled, ifaces, maps, wideKeys, modest, calm, conditions, laid).
  DERIVED. THE GIVEN ROWS OF THIS SEAT. 6 by the template 'for every input the law returns true; each argument reads behind the call as it read before'; 0 by the template 'total and deterministic' (their statements: YtlpdilmdhfemdaaTotals.lean).
  GIVEN WITH THE SEED: the statements are not yours to turn. If you find one false, say at which input.
  Laid BY PROGRAM, IN A SANDBOX (cutbox-rows.mjs): the forced cells as the released guide's own fill.sh prints them over the translation bfa5ba4c9a1999ff… (all of the seat's roots in one cut). By AI agents, Wed Nov 11 2026. No macro, syntax, notation, axiom, sorry.
-/
import Derived.Test.YtlpdilmdhfemdaaChecked
import GoSem.Claim
import GoSem.ClaimJoined
import GoSem.ClaimMapViews
import Derived.JoinedTies
import Derived.KernelRfl
namespace Go.Proofs.Ytlpdilmdhfemdaa
/- THE CELL 'sum', in the pinned program and in every row, IS THE sha256 OF THE DUMP (.gsa) THAT YtlpdilmdhfemdaaProg.lean LOADS. Nothing in Lean hashes anything: it is a label: what it is worth is what the hold of that sum in a sandbox is worth. -/
noncomputable def Try.pinned : Pinned := { name := "ytlpdilmdhfemdaa", sum := "bfa5ba4c9a1999ff4bffc18d86f6544165eff2a84e3641e2f681eb6e9c0942ff", checked := Try.checked }
namespace Rows
def none {H : Type} : Left H := { results := [], args := [] }

/-- 'laws.FnClockDue': WHATEVER THE INPUT: true; the input reads as it did. -/
def fnClockDueSpec : ChangeSpec := { name := "fnClockDue", fn := fun _ => fun
  | [d1, d2] => { results := [.lit (.bool true)], args := [d1, d2] }
  | _ => none }
def fnClockDueRow : OpenClaim := { program := "ytlpdilmdhfemdaa", sum := "bfa5ba4c9a1999ff4bffc18d86f6544165eff2a84e3641e2f681eb6e9c0942ff", func := "loop.example/telltale/laws.FnClockDue", spec := "fnClockDue", unfollowed := true, recurses := true, apart := false }
def FnClockDueSaid : Prop := fnClockDueRow.holds Try.pinned (OpenSpec.ofChange fnClockDueSpec)

/-- ITS FALSE NEIGHBOUR: 'it returns false'. Refute it at one input. -/
def fnClockDueWrong : ChangeSpec := { name := "fnClockDue", fn := fun _ => fun
  | [d1, d2] => { results := [.lit (.bool false)], args := [d1, d2] }
  | _ => none }
def FnClockDueWrongFalsely : Prop := fnClockDueRow.holds Try.pinned (OpenSpec.ofChange fnClockDueWrong)

/-- 'laws.FnClockBeat': WHATEVER THE INPUT: true; the input reads as it did. -/
def fnClockBeatSpec : ChangeSpec := { name := "fnClockBeat", fn := fun _ => fun
  | [d] => { results := [.lit (.bool true)], args := [d] }
  | _ => none }
def fnClockBeatRow : OpenClaim := { program := "ytlpdilmdhfemdaa", sum := "bfa5ba4c9a1999ff4bffc18d86f6544165eff2a84e3641e2f681eb6e9c0942ff", func := "loop.example/telltale/laws.FnClockBeat", spec := "fnClockBeat", unfollowed := true, recurses := true, apart := false }
def FnClockBeatSaid : Prop := fnClockBeatRow.holds Try.pinned (OpenSpec.ofChange fnClockBeatSpec)

/-- ITS FALSE NEIGHBOUR: 'it returns false'. Refute it at one input. -/
def fnClockBeatWrong : ChangeSpec := { name := "fnClockBeat", fn := fun _ => fun
  | [d] => { results := [.lit (.bool false)], args := [d] }
  | _ => none }
def FnClockBeatWrongFalsely : Prop := fnClockBeatRow.holds Try.pinned (OpenSpec.ofChange fnClockBeatWrong)

/-- 'laws.FnClockNext': WHATEVER THE INPUT: true; the input reads as it did. -/
def fnClockNextSpec : ChangeSpec := { name := "fnClockNext", fn := fun _ => fun
  | [d] => { results := [.lit (.bool true)], args := [d] }
  | _ => none }
def fnClockNextRow : OpenClaim := { program := "ytlpdilmdhfemdaa", sum := "bfa5ba4c9a1999ff4bffc18d86f6544165eff2a84e3641e2f681eb6e9c0942ff", func := "loop.example/telltale/laws.FnClockNext", spec := "fnClockNext", unfollowed := true, recurses := true, apart := false }
def FnClockNextSaid : Prop := fnClockNextRow.holds Try.pinned (OpenSpec.ofChange fnClockNextSpec)

/-- ITS FALSE NEIGHBOUR: 'it returns false'. Refute it at one input. -/
def fnClockNextWrong : ChangeSpec := { name := "fnClockNext", fn := fun _ => fun
  | [d] => { results := [.lit (.bool false)], args := [d] }
  | _ => none }
def FnClockNextWrongFalsely : Prop := fnClockNextRow.holds Try.pinned (OpenSpec.ofChange fnClockNextWrong)

/-- 'laws.FnExactClockOk': WHATEVER THE INPUT: true; the input reads as it did. -/
def fnExactClockOkSpec : ChangeSpec := { name := "fnExactClockOk", fn := fun _ => fun
  | [d] => { results := [.lit (.bool true)], args := [d] }
  | _ => none }
def fnExactClockOkRow : OpenClaim := { program := "ytlpdilmdhfemdaa", sum := "bfa5ba4c9a1999ff4bffc18d86f6544165eff2a84e3641e2f681eb6e9c0942ff", func := "loop.example/telltale/laws.FnExactClockOk", spec := "fnExactClockOk", unfollowed := true, recurses := true, apart := false }
def FnExactClockOkSaid : Prop := fnExactClockOkRow.holds Try.pinned (OpenSpec.ofChange fnExactClockOkSpec)

/-- ITS FALSE NEIGHBOUR: 'it returns false'. Refute it at one input. -/
def fnExactClockOkWrong : ChangeSpec := { name := "fnExactClockOk", fn := fun _ => fun
  | [d] => { results := [.lit (.bool false)], args := [d] }
  | _ => none }
def FnExactClockOkWrongFalsely : Prop := fnExactClockOkRow.holds Try.pinned (OpenSpec.ofChange fnExactClockOkWrong)

/-- 'laws.FnExactClockDue': WHATEVER THE INPUT: true; the input reads as it did. -/
def fnExactClockDueSpec : ChangeSpec := { name := "fnExactClockDue", fn := fun _ => fun
  | [d1, d2, d3] => { results := [.lit (.bool true)], args := [d1, d2, d3] }
  | _ => none }
def fnExactClockDueRow : OpenClaim := { program := "ytlpdilmdhfemdaa", sum := "bfa5ba4c9a1999ff4bffc18d86f6544165eff2a84e3641e2f681eb6e9c0942ff", func := "loop.example/telltale/laws.FnExactClockDue", spec := "fnExactClockDue", unfollowed := true, recurses := true, apart := false }
def FnExactClockDueSaid : Prop := fnExactClockDueRow.holds Try.pinned (OpenSpec.ofChange fnExactClockDueSpec)

/-- ITS FALSE NEIGHBOUR: 'it returns false'. Refute it at one input. -/
def fnExactClockDueWrong : ChangeSpec := { name := "fnExactClockDue", fn := fun _ => fun
  | [d1, d2, d3] => { results := [.lit (.bool false)], args := [d1, d2, d3] }
  | _ => none }
def FnExactClockDueWrongFalsely : Prop := fnExactClockDueRow.holds Try.pinned (OpenSpec.ofChange fnExactClockDueWrong)

/-- 'laws.FnExactClockNext': WHATEVER THE INPUT: true; the input reads as it did. -/
def fnExactClockNextSpec : ChangeSpec := { name := "fnExactClockNext", fn := fun _ => fun
  | [d1, d2] => { results := [.lit (.bool true)], args := [d1, d2] }
  | _ => none }
def fnExactClockNextRow : OpenClaim := { program := "ytlpdilmdhfemdaa", sum := "bfa5ba4c9a1999ff4bffc18d86f6544165eff2a84e3641e2f681eb6e9c0942ff", func := "loop.example/telltale/laws.FnExactClockNext", spec := "fnExactClockNext", unfollowed := true, recurses := true, apart := false }
def FnExactClockNextSaid : Prop := fnExactClockNextRow.holds Try.pinned (OpenSpec.ofChange fnExactClockNextSpec)

/-- ITS FALSE NEIGHBOUR: 'it returns false'. Refute it at one input. -/
def fnExactClockNextWrong : ChangeSpec := { name := "fnExactClockNext", fn := fun _ => fun
  | [d1, d2] => { results := [.lit (.bool false)], args := [d1, d2] }
  | _ => none }
def FnExactClockNextWrongFalsely : Prop := fnExactClockNextRow.holds Try.pinned (OpenSpec.ofChange fnExactClockNextWrong)

/- THE SECOND FORM. 'bulk': how many values and letters a reading holds, each counted each time it is reached (what is shared counts as often as it is met; a slice's spare places count too). A statement '..UptoSaid' is the law's where the arguments, and the package variables that the reading takes, are together of bulk at most 1048576: NARROWER than '..Said'. Prove '..Said' where nothing that the law and all that it calls make is longer than what came in: it says more and counts as full. Else prove '..UptoSaid'. A law counts once. -/
mutual
def uptoBulk {H : Type} : DataW H → Nat
  | .lit (.string bytes) => bytes.length + 1
  | .lit _ => 1
  | .nil => 1
  | .ptr d => uptoBulk d + 1
  | .slice elems spare => uptoBulkAll elems + uptoBulkAll spare + 1
  | .agg parts => uptoBulkAll parts + 1
  | .iface _ d => uptoBulk d + 1
  | .map entries => uptoBulkEntries entries + 1
  | .held _ => 1
def uptoBulkAll {H : Type} : List (DataW H) → Nat
  | [] => 0
  | d :: r => uptoBulk d + uptoBulkAll r
def uptoBulkEntries {H : Type} : List (Lit × DataW H) → Nat
  | [] => 0
  | x :: r => uptoBulkEntry x + uptoBulkEntries r
def uptoBulkEntry {H : Type} : Lit × DataW H → Nat
  | (.string bytes, d) => bytes.length + uptoBulk d + 1
  | (_, d) => uptoBulk d + 1
 end
def uptoSmall : (H : Type) → List (DataW H) → Bool := fun _ ds => decide (uptoBulkAll ds ≤ 1048576)
def OpenSpec.upto (s : _root_.Go.ChangeSpec) : _root_.Go.OpenSpec := { _root_.Go.OpenSpec.ofChange s with cond := some uptoSmall }

/-- 'laws.FnClockDue', WHERE WHAT IT READS IS OF BULK AT MOST 1048576: true; the input reads as it did. -/
def fnClockDueUptoRow : OpenClaim := { program := "ytlpdilmdhfemdaa", sum := "bfa5ba4c9a1999ff4bffc18d86f6544165eff2a84e3641e2f681eb6e9c0942ff", func := "loop.example/telltale/laws.FnClockDue", spec := "fnClockDue", unfollowed := true, recurses := true, apart := false, narrowed := true }
def FnClockDueUptoSaid : Prop := fnClockDueUptoRow.holds Try.pinned (OpenSpec.upto fnClockDueSpec)

/-- 'laws.FnClockBeat', WHERE WHAT IT READS IS OF BULK AT MOST 1048576: true; the input reads as it did. -/
def fnClockBeatUptoRow : OpenClaim := { program := "ytlpdilmdhfemdaa", sum := "bfa5ba4c9a1999ff4bffc18d86f6544165eff2a84e3641e2f681eb6e9c0942ff", func := "loop.example/telltale/laws.FnClockBeat", spec := "fnClockBeat", unfollowed := true, recurses := true, apart := false, narrowed := true }
def FnClockBeatUptoSaid : Prop := fnClockBeatUptoRow.holds Try.pinned (OpenSpec.upto fnClockBeatSpec)

/-- 'laws.FnClockNext', WHERE WHAT IT READS IS OF BULK AT MOST 1048576: true; the input reads as it did. -/
def fnClockNextUptoRow : OpenClaim := { program := "ytlpdilmdhfemdaa", sum := "bfa5ba4c9a1999ff4bffc18d86f6544165eff2a84e3641e2f681eb6e9c0942ff", func := "loop.example/telltale/laws.FnClockNext", spec := "fnClockNext", unfollowed := true, recurses := true, apart := false, narrowed := true }
def FnClockNextUptoSaid : Prop := fnClockNextUptoRow.holds Try.pinned (OpenSpec.upto fnClockNextSpec)

/-- 'laws.FnExactClockOk', WHERE WHAT IT READS IS OF BULK AT MOST 1048576: true; the input reads as it did. -/
def fnExactClockOkUptoRow : OpenClaim := { program := "ytlpdilmdhfemdaa", sum := "bfa5ba4c9a1999ff4bffc18d86f6544165eff2a84e3641e2f681eb6e9c0942ff", func := "loop.example/telltale/laws.FnExactClockOk", spec := "fnExactClockOk", unfollowed := true, recurses := true, apart := false, narrowed := true }
def FnExactClockOkUptoSaid : Prop := fnExactClockOkUptoRow.holds Try.pinned (OpenSpec.upto fnExactClockOkSpec)

/-- 'laws.FnExactClockDue', WHERE WHAT IT READS IS OF BULK AT MOST 1048576: true; the input reads as it did. -/
def fnExactClockDueUptoRow : OpenClaim := { program := "ytlpdilmdhfemdaa", sum := "bfa5ba4c9a1999ff4bffc18d86f6544165eff2a84e3641e2f681eb6e9c0942ff", func := "loop.example/telltale/laws.FnExactClockDue", spec := "fnExactClockDue", unfollowed := true, recurses := true, apart := false, narrowed := true }
def FnExactClockDueUptoSaid : Prop := fnExactClockDueUptoRow.holds Try.pinned (OpenSpec.upto fnExactClockDueSpec)

/-- 'laws.FnExactClockNext', WHERE WHAT IT READS IS OF BULK AT MOST 1048576: true; the input reads as it did. -/
def fnExactClockNextUptoRow : OpenClaim := { program := "ytlpdilmdhfemdaa", sum := "bfa5ba4c9a1999ff4bffc18d86f6544165eff2a84e3641e2f681eb6e9c0942ff", func := "loop.example/telltale/laws.FnExactClockNext", spec := "fnExactClockNext", unfollowed := true, recurses := true, apart := false, narrowed := true }
def FnExactClockNextUptoSaid : Prop := fnExactClockNextUptoRow.holds Try.pinned (OpenSpec.upto fnExactClockNextSpec)

end Rows
end Go.Proofs.Ytlpdilmdhfemdaa
