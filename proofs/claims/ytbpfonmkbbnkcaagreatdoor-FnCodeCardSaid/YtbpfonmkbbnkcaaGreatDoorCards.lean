/-
  DERIVED. GIVEN WITH THE SEED: THE CARDS: each row of YtbpfonmkbbnkcaaGreatDoorRows.lean that lists a variable, with what it lists TIED to the program's text (the seventh form; the later family's looks); each row that meets fmt, with fmt's text TOLD by the authors' own Lean function (tested against real Go, not proved from fmt's source: count such statements apart). THE CARD IS WHAT COUNTS. Prove the row's statement (the work); the ties are given (YtbpfonmkbbnkcaaGreatDoorTie.lean); close each card by the builder's one call (the guide's Derived/Test/ToyasCard.lean, 'card_holds'). Laid BY PROGRAM, IN A SANDBOX (cutbox-door.mjs). By AI agents, Wed Nov 11 2026. No macro, syntax, notation, axiom, sorry.
-/
import Derived.Test.YtbpfonmkbbnkcaaGreatDoorRows
import GoSem.ClaimSeven
namespace Go.Proofs.YtbpfonmkbbnkcaaGreatDoor
namespace Rows

/-- THE TIED CARD OF 'laws.FnExprPut'. -/
def fnExprPutCard : Claim7 := { stood := { row := fnExprPutRow, standIns := [], harness := (true, "82400a16605bf04b2c3ca7d35a73b12c50a4009d271c42f4eed7a7ccdba58229"), looks := true }, kinds := [], alts := [], laidByText := true, laidKinds := [.data, .data, .data, .data, .sentinel, .sentinel, .data, .pinned], laidTests := true, laidLooks := .later }
def FnExprPutCardSaid : Prop := Claim7.holds Tryz.pinned (.plain (OpenSpec.ofChange fnExprPutSpec)) fnExprPutCard

/-- THE TIED CARD OF 'laws.FnExprGet'. -/
def fnExprGetCard : Claim7 := { stood := { row := fnExprGetRow, standIns := [], harness := (true, "82400a16605bf04b2c3ca7d35a73b12c50a4009d271c42f4eed7a7ccdba58229"), looks := true }, kinds := [], alts := [], laidByText := true, laidKinds := [.data, .data, .data, .data, .sentinel, .sentinel, .data, .pinned], laidTests := true, laidLooks := .later }
def FnExprGetCardSaid : Prop := Claim7.holds Tryz.pinned (.plain (OpenSpec.ofChange fnExprGetSpec)) fnExprGetCard

/-- THE TIED CARD OF 'laws.FnExprRun'. -/
def fnExprRunCard : Claim7 := { stood := { row := fnExprRunRow, standIns := [], harness := (true, "82400a16605bf04b2c3ca7d35a73b12c50a4009d271c42f4eed7a7ccdba58229"), looks := true }, kinds := [], alts := [], laidByText := true, laidKinds := [.data, .data, .data, .data, .sentinel, .sentinel, .data, .pinned], laidTests := true, laidLooks := .later }
def FnExprRunCardSaid : Prop := Claim7.holds Tryz.pinned (.plain (OpenSpec.ofChange fnExprRunSpec)) fnExprRunCard

/-- THE TIED CARD OF 'laws.FnExprNames'. -/
def fnExprNamesCard : Claim7 := { stood := { row := fnExprNamesRow, standIns := [], harness := (true, "82400a16605bf04b2c3ca7d35a73b12c50a4009d271c42f4eed7a7ccdba58229"), looks := true }, kinds := [], alts := [], laidByText := true, laidKinds := [.data, .data, .data, .data, .sentinel, .sentinel, .data, .pinned], laidTests := true, laidLooks := .later }
def FnExprNamesCardSaid : Prop := Claim7.holds Tryz.pinned (.plain (OpenSpec.ofChange fnExprNamesSpec)) fnExprNamesCard

/-- THE TIED CARD OF 'laws.FnCode'. -/
def fnCodeCard : Claim7 := { stood := { row := fnCodeRow, standIns := [], harness := (true, "82400a16605bf04b2c3ca7d35a73b12c50a4009d271c42f4eed7a7ccdba58229"), looks := true }, kinds := [], alts := [], laidByText := true, laidKinds := [.data, .data, .data, .data, .sentinel, .sentinel, .data, .pinned], laidTests := true, laidLooks := .later }
def FnCodeCardSaid : Prop := Claim7.holds Tryz.pinned (.plain (OpenSpec.ofChange fnCodeSpec)) fnCodeCard

/-- THE TIED CARD OF 'laws.FnExactExprGet'. -/
def fnExactExprGetCard : Claim7 := { stood := { row := fnExactExprGetRow, standIns := [], harness := (true, "82400a16605bf04b2c3ca7d35a73b12c50a4009d271c42f4eed7a7ccdba58229"), looks := true }, kinds := [], alts := [], laidByText := true, laidKinds := [.data, .data, .data, .data, .sentinel, .sentinel, .data, .pinned], laidTests := true, laidLooks := .later }
def FnExactExprGetCardSaid : Prop := Claim7.holds Tryz.pinned (.plain (OpenSpec.ofChange fnExactExprGetSpec)) fnExactExprGetCard

/-- THE TIED CARD OF 'laws.FnExactExprPut'. -/
def fnExactExprPutCard : Claim7 := { stood := { row := fnExactExprPutRow, standIns := [], harness := (true, "82400a16605bf04b2c3ca7d35a73b12c50a4009d271c42f4eed7a7ccdba58229"), looks := true }, kinds := [], alts := [], laidByText := true, laidKinds := [.data, .data, .data, .data, .sentinel, .sentinel, .data, .pinned], laidTests := true, laidLooks := .later }
def FnExactExprPutCardSaid : Prop := Claim7.holds Tryz.pinned (.plain (OpenSpec.ofChange fnExactExprPutSpec)) fnExactExprPutCard

/-- THE TIED CARD OF 'laws.FnExactExprRun'. -/
def fnExactExprRunCard : Claim7 := { stood := { row := fnExactExprRunRow, standIns := [], harness := (true, "82400a16605bf04b2c3ca7d35a73b12c50a4009d271c42f4eed7a7ccdba58229"), looks := true }, kinds := [], alts := [], laidByText := true, laidKinds := [.data, .data, .data, .data, .sentinel, .sentinel, .data, .pinned], laidTests := true, laidLooks := .later }
def FnExactExprRunCardSaid : Prop := Claim7.holds Tryz.pinned (.plain (OpenSpec.ofChange fnExactExprRunSpec)) fnExactExprRunCard

/-- THE TIED CARD OF 'laws.FnExactCodeOf'. -/
def fnExactCodeOfCard : Claim7 := { stood := { row := fnExactCodeOfRow, standIns := [], harness := (true, "82400a16605bf04b2c3ca7d35a73b12c50a4009d271c42f4eed7a7ccdba58229"), looks := true }, kinds := [], alts := [], laidByText := true, laidKinds := [.data, .data, .data, .data, .sentinel, .sentinel, .data, .pinned], laidTests := true, laidLooks := .later }
def FnExactCodeOfCardSaid : Prop := Claim7.holds Tryz.pinned (.plain (OpenSpec.ofChange fnExactCodeOfSpec)) fnExactCodeOfCard

/-- THE SECOND FORM's CARD OF 'laws.FnExprPut'. -/
def fnExprPutUptoCard : Claim7 := { stood := { row := fnExprPutUptoRow, standIns := [], harness := (true, "82400a16605bf04b2c3ca7d35a73b12c50a4009d271c42f4eed7a7ccdba58229"), looks := true }, kinds := [], alts := [], laidByText := true, laidKinds := [.data, .data, .data, .data, .sentinel, .sentinel, .data, .pinned], laidTests := true, laidLooks := .later }
def FnExprPutUptoCardSaid : Prop := Claim7.holds Tryz.pinned (.plain (OpenSpec.upto fnExprPutSpec)) fnExprPutUptoCard

/-- THE SECOND FORM's CARD OF 'laws.FnExprGet'. -/
def fnExprGetUptoCard : Claim7 := { stood := { row := fnExprGetUptoRow, standIns := [], harness := (true, "82400a16605bf04b2c3ca7d35a73b12c50a4009d271c42f4eed7a7ccdba58229"), looks := true }, kinds := [], alts := [], laidByText := true, laidKinds := [.data, .data, .data, .data, .sentinel, .sentinel, .data, .pinned], laidTests := true, laidLooks := .later }
def FnExprGetUptoCardSaid : Prop := Claim7.holds Tryz.pinned (.plain (OpenSpec.upto fnExprGetSpec)) fnExprGetUptoCard

/-- THE SECOND FORM's CARD OF 'laws.FnExprRun'. -/
def fnExprRunUptoCard : Claim7 := { stood := { row := fnExprRunUptoRow, standIns := [], harness := (true, "82400a16605bf04b2c3ca7d35a73b12c50a4009d271c42f4eed7a7ccdba58229"), looks := true }, kinds := [], alts := [], laidByText := true, laidKinds := [.data, .data, .data, .data, .sentinel, .sentinel, .data, .pinned], laidTests := true, laidLooks := .later }
def FnExprRunUptoCardSaid : Prop := Claim7.holds Tryz.pinned (.plain (OpenSpec.upto fnExprRunSpec)) fnExprRunUptoCard

/-- THE SECOND FORM's CARD OF 'laws.FnExprNames'. -/
def fnExprNamesUptoCard : Claim7 := { stood := { row := fnExprNamesUptoRow, standIns := [], harness := (true, "82400a16605bf04b2c3ca7d35a73b12c50a4009d271c42f4eed7a7ccdba58229"), looks := true }, kinds := [], alts := [], laidByText := true, laidKinds := [.data, .data, .data, .data, .sentinel, .sentinel, .data, .pinned], laidTests := true, laidLooks := .later }
def FnExprNamesUptoCardSaid : Prop := Claim7.holds Tryz.pinned (.plain (OpenSpec.upto fnExprNamesSpec)) fnExprNamesUptoCard

/-- THE SECOND FORM's CARD OF 'laws.FnCode'. -/
def fnCodeUptoCard : Claim7 := { stood := { row := fnCodeUptoRow, standIns := [], harness := (true, "82400a16605bf04b2c3ca7d35a73b12c50a4009d271c42f4eed7a7ccdba58229"), looks := true }, kinds := [], alts := [], laidByText := true, laidKinds := [.data, .data, .data, .data, .sentinel, .sentinel, .data, .pinned], laidTests := true, laidLooks := .later }
def FnCodeUptoCardSaid : Prop := Claim7.holds Tryz.pinned (.plain (OpenSpec.upto fnCodeSpec)) fnCodeUptoCard

/-- THE SECOND FORM's CARD OF 'laws.FnExactExprGet'. -/
def fnExactExprGetUptoCard : Claim7 := { stood := { row := fnExactExprGetUptoRow, standIns := [], harness := (true, "82400a16605bf04b2c3ca7d35a73b12c50a4009d271c42f4eed7a7ccdba58229"), looks := true }, kinds := [], alts := [], laidByText := true, laidKinds := [.data, .data, .data, .data, .sentinel, .sentinel, .data, .pinned], laidTests := true, laidLooks := .later }
def FnExactExprGetUptoCardSaid : Prop := Claim7.holds Tryz.pinned (.plain (OpenSpec.upto fnExactExprGetSpec)) fnExactExprGetUptoCard

/-- THE SECOND FORM's CARD OF 'laws.FnExactExprPut'. -/
def fnExactExprPutUptoCard : Claim7 := { stood := { row := fnExactExprPutUptoRow, standIns := [], harness := (true, "82400a16605bf04b2c3ca7d35a73b12c50a4009d271c42f4eed7a7ccdba58229"), looks := true }, kinds := [], alts := [], laidByText := true, laidKinds := [.data, .data, .data, .data, .sentinel, .sentinel, .data, .pinned], laidTests := true, laidLooks := .later }
def FnExactExprPutUptoCardSaid : Prop := Claim7.holds Tryz.pinned (.plain (OpenSpec.upto fnExactExprPutSpec)) fnExactExprPutUptoCard

/-- THE SECOND FORM's CARD OF 'laws.FnExactExprRun'. -/
def fnExactExprRunUptoCard : Claim7 := { stood := { row := fnExactExprRunUptoRow, standIns := [], harness := (true, "82400a16605bf04b2c3ca7d35a73b12c50a4009d271c42f4eed7a7ccdba58229"), looks := true }, kinds := [], alts := [], laidByText := true, laidKinds := [.data, .data, .data, .data, .sentinel, .sentinel, .data, .pinned], laidTests := true, laidLooks := .later }
def FnExactExprRunUptoCardSaid : Prop := Claim7.holds Tryz.pinned (.plain (OpenSpec.upto fnExactExprRunSpec)) fnExactExprRunUptoCard

/-- THE SECOND FORM's CARD OF 'laws.FnExactCodeOf'. -/
def fnExactCodeOfUptoCard : Claim7 := { stood := { row := fnExactCodeOfUptoRow, standIns := [], harness := (true, "82400a16605bf04b2c3ca7d35a73b12c50a4009d271c42f4eed7a7ccdba58229"), looks := true }, kinds := [], alts := [], laidByText := true, laidKinds := [.data, .data, .data, .data, .sentinel, .sentinel, .data, .pinned], laidTests := true, laidLooks := .later }
def FnExactCodeOfUptoCardSaid : Prop := Claim7.holds Tryz.pinned (.plain (OpenSpec.upto fnExactCodeOfSpec)) fnExactCodeOfUptoCard
end Rows
end Go.Proofs.YtbpfonmkbbnkcaaGreatDoor
