/-
  No cell of these rows narrows 'for every input' (looked for: loops, veiled, ifaces, maps, wideKeys, modest, calm, conditions, laid).
  DERIVED. THE GIVEN ROWS OF THIS SEAT. 4 by the template 'for every input the law returns true; each argument reads behind the call as it read before'; 0 by the template 'total and deterministic' (their statements: YtmdaiejflolpmaaTotals.lean).
  GIVEN WITH THE SEED: the statements are not yours to turn. If you find one false, say at which input.
  Laid BY PROGRAM, IN A SANDBOX (cutbox-rows.mjs): the forced cells as the released guide's own fill.sh prints them over the translation d7e5660cec7fd99e… (all of the seat's roots in one cut). By AI agents, Wed Nov 11 2026. No macro, syntax, notation, axiom, sorry.
-/
import Derived.Test.YtmdaiejflolpmaaChecked
import GoSem.Claim
import GoSem.ClaimJoined
import GoSem.ClaimMapViews
import Derived.JoinedTies
import Derived.KernelRfl
namespace Go.Proofs.Ytmdaiejflolpmaa
/- THE CELL 'sum', in the pinned program and in every row, IS THE sha256 OF THE DUMP (.gsa) THAT YtmdaiejflolpmaaProg.lean LOADS. Nothing in Lean hashes anything: it is a label: what it is worth is what the hold of that sum in a sandbox is worth. -/
noncomputable def Try.pinned : Pinned := { name := "ytmdaiejflolpmaa", sum := "d7e5660cec7fd99ead7d54e4902028695e4f31d8b11ca8dd3c65e15808894067", checked := Try.checked }
namespace Rows
def none {H : Type} : Left H := { results := [], args := [] }

/-- 'laws.FnCodeRun': WHATEVER THE INPUT: true; the input reads as it did. -/
def fnCodeRunSpec : ChangeSpec := { name := "fnCodeRun", fn := fun _ => fun
  | [d] => { results := [.lit (.bool true)], args := [d] }
  | _ => none }
def fnCodeRunRow : OpenClaim := { program := "ytmdaiejflolpmaa", sum := "d7e5660cec7fd99ead7d54e4902028695e4f31d8b11ca8dd3c65e15808894067", func := "loop.example/telltale/laws.FnCodeRun", spec := "fnCodeRun", unfollowed := true, recurses := true, apart := false }
def FnCodeRunSaid : Prop := fnCodeRunRow.holds Try.pinned (OpenSpec.ofChange fnCodeRunSpec)

/-- ITS FALSE NEIGHBOUR: 'it returns false'. Refute it at one input. -/
def fnCodeRunWrong : ChangeSpec := { name := "fnCodeRun", fn := fun _ => fun
  | [d] => { results := [.lit (.bool false)], args := [d] }
  | _ => none }
def FnCodeRunWrongFalsely : Prop := fnCodeRunRow.holds Try.pinned (OpenSpec.ofChange fnCodeRunWrong)

/-- 'laws.FnExactNameOk': WHATEVER THE INPUT: true; the input reads as it did. -/
def fnExactNameOkSpec : ChangeSpec := { name := "fnExactNameOk", fn := fun _ => fun
  | [d] => { results := [.lit (.bool true)], args := [d] }
  | _ => none }
def fnExactNameOkRow : OpenClaim := { program := "ytmdaiejflolpmaa", sum := "d7e5660cec7fd99ead7d54e4902028695e4f31d8b11ca8dd3c65e15808894067", func := "loop.example/telltale/laws.FnExactNameOk", spec := "fnExactNameOk", apart := false }
def FnExactNameOkSaid : Prop := fnExactNameOkRow.holds Try.pinned (OpenSpec.ofChange fnExactNameOkSpec)

/-- ITS FALSE NEIGHBOUR: 'it returns false'. Refute it at one input. -/
def fnExactNameOkWrong : ChangeSpec := { name := "fnExactNameOk", fn := fun _ => fun
  | [d] => { results := [.lit (.bool false)], args := [d] }
  | _ => none }
def FnExactNameOkWrongFalsely : Prop := fnExactNameOkRow.holds Try.pinned (OpenSpec.ofChange fnExactNameOkWrong)

/-- 'laws.FnExactCodeDeep': WHATEVER THE INPUT: true; the input reads as it did. -/
def fnExactCodeDeepSpec : ChangeSpec := { name := "fnExactCodeDeep", fn := fun _ => fun
  | [d1, d2] => { results := [.lit (.bool true)], args := [d1, d2] }
  | _ => none }
def fnExactCodeDeepRow : OpenClaim := { program := "ytmdaiejflolpmaa", sum := "d7e5660cec7fd99ead7d54e4902028695e4f31d8b11ca8dd3c65e15808894067", func := "loop.example/telltale/laws.FnExactCodeDeep", spec := "fnExactCodeDeep", apart := false }
def FnExactCodeDeepSaid : Prop := fnExactCodeDeepRow.holds Try.pinned (OpenSpec.ofChange fnExactCodeDeepSpec)

/-- ITS FALSE NEIGHBOUR: 'it returns false'. Refute it at one input. -/
def fnExactCodeDeepWrong : ChangeSpec := { name := "fnExactCodeDeep", fn := fun _ => fun
  | [d1, d2] => { results := [.lit (.bool false)], args := [d1, d2] }
  | _ => none }
def FnExactCodeDeepWrongFalsely : Prop := fnExactCodeDeepRow.holds Try.pinned (OpenSpec.ofChange fnExactCodeDeepWrong)

/-- 'laws.FnExactCodeRun': WHATEVER THE INPUT: true; the input reads as it did. -/
def fnExactCodeRunSpec : ChangeSpec := { name := "fnExactCodeRun", fn := fun _ => fun
  | [d1, d2] => { results := [.lit (.bool true)], args := [d1, d2] }
  | _ => none }
def fnExactCodeRunRow : OpenClaim := { program := "ytmdaiejflolpmaa", sum := "d7e5660cec7fd99ead7d54e4902028695e4f31d8b11ca8dd3c65e15808894067", func := "loop.example/telltale/laws.FnExactCodeRun", spec := "fnExactCodeRun", unfollowed := true, recurses := true, apart := false }
def FnExactCodeRunSaid : Prop := fnExactCodeRunRow.holds Try.pinned (OpenSpec.ofChange fnExactCodeRunSpec)

/-- ITS FALSE NEIGHBOUR: 'it returns false'. Refute it at one input. -/
def fnExactCodeRunWrong : ChangeSpec := { name := "fnExactCodeRun", fn := fun _ => fun
  | [d1, d2] => { results := [.lit (.bool false)], args := [d1, d2] }
  | _ => none }
def FnExactCodeRunWrongFalsely : Prop := fnExactCodeRunRow.holds Try.pinned (OpenSpec.ofChange fnExactCodeRunWrong)

/- THE SECOND FORM. 'bulk': how many values and letters a reading holds, each counted each time it is reached (what is shared counts as often as it is met; a slice's spare places count too). A statement '..UptoSaid' is the law's where the arguments, and the package variables that the reading takes, are together of bulk at most 1048576: NARROWER than '..Said'. Prove '..Said' where nothing that the law and all that it calls make is longer than what came in: it says more and counts as full. Else prove '..UptoSaid'. A law counts once. -/
mutual
def uptoBulk {H : Type} : DataW H → Nat
  | .lit (.string bytes) => bytes.length + 1
  | .lit _ => 1
  | .nil => 1
  | .ptr d => uptoBulk d + 1
  | .slice elems spare => uptoBulkAll elems + uptoBulkAll spare + 1
  | .agg parts => uptoBulkAll parts + 1
  | .iface _ d => uptoBulk d + 1
  | .map entries => uptoBulkEntries entries + 1
  | .held _ => 1
def uptoBulkAll {H : Type} : List (DataW H) → Nat
  | [] => 0
  | d :: r => uptoBulk d + uptoBulkAll r
def uptoBulkEntries {H : Type} : List (Lit × DataW H) → Nat
  | [] => 0
  | x :: r => uptoBulkEntry x + uptoBulkEntries r
def uptoBulkEntry {H : Type} : Lit × DataW H → Nat
  | (.string bytes, d) => bytes.length + uptoBulk d + 1
  | (_, d) => uptoBulk d + 1
 end
def uptoSmall : (H : Type) → List (DataW H) → Bool := fun _ ds => decide (uptoBulkAll ds ≤ 1048576)
def OpenSpec.upto (s : _root_.Go.ChangeSpec) : _root_.Go.OpenSpec := { _root_.Go.OpenSpec.ofChange s with cond := some uptoSmall }

/-- 'laws.FnCodeRun', WHERE WHAT IT READS IS OF BULK AT MOST 1048576: true; the input reads as it did. -/
def fnCodeRunUptoRow : OpenClaim := { program := "ytmdaiejflolpmaa", sum := "d7e5660cec7fd99ead7d54e4902028695e4f31d8b11ca8dd3c65e15808894067", func := "loop.example/telltale/laws.FnCodeRun", spec := "fnCodeRun", unfollowed := true, recurses := true, apart := false, narrowed := true }
def FnCodeRunUptoSaid : Prop := fnCodeRunUptoRow.holds Try.pinned (OpenSpec.upto fnCodeRunSpec)

/-- 'laws.FnExactNameOk', WHERE WHAT IT READS IS OF BULK AT MOST 1048576: true; the input reads as it did. -/
def fnExactNameOkUptoRow : OpenClaim := { program := "ytmdaiejflolpmaa", sum := "d7e5660cec7fd99ead7d54e4902028695e4f31d8b11ca8dd3c65e15808894067", func := "loop.example/telltale/laws.FnExactNameOk", spec := "fnExactNameOk", apart := false, narrowed := true }
def FnExactNameOkUptoSaid : Prop := fnExactNameOkUptoRow.holds Try.pinned (OpenSpec.upto fnExactNameOkSpec)

/-- 'laws.FnExactCodeDeep', WHERE WHAT IT READS IS OF BULK AT MOST 1048576: true; the input reads as it did. -/
def fnExactCodeDeepUptoRow : OpenClaim := { program := "ytmdaiejflolpmaa", sum := "d7e5660cec7fd99ead7d54e4902028695e4f31d8b11ca8dd3c65e15808894067", func := "loop.example/telltale/laws.FnExactCodeDeep", spec := "fnExactCodeDeep", apart := false, narrowed := true }
def FnExactCodeDeepUptoSaid : Prop := fnExactCodeDeepUptoRow.holds Try.pinned (OpenSpec.upto fnExactCodeDeepSpec)

/-- 'laws.FnExactCodeRun', WHERE WHAT IT READS IS OF BULK AT MOST 1048576: true; the input reads as it did. -/
def fnExactCodeRunUptoRow : OpenClaim := { program := "ytmdaiejflolpmaa", sum := "d7e5660cec7fd99ead7d54e4902028695e4f31d8b11ca8dd3c65e15808894067", func := "loop.example/telltale/laws.FnExactCodeRun", spec := "fnExactCodeRun", unfollowed := true, recurses := true, apart := false, narrowed := true }
def FnExactCodeRunUptoSaid : Prop := fnExactCodeRunUptoRow.holds Try.pinned (OpenSpec.upto fnExactCodeRunSpec)

end Rows
end Go.Proofs.Ytmdaiejflolpmaa
