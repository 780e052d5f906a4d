/-
  DERIVED. GIVEN WITH THE SEED: THE CARDS: each row of YtchemhjcknkbgaaGreatDoorRows.lean that lists a variable, with what it lists TIED to the program's text (the seventh form; the later family's looks); each row that meets fmt, with fmt's text TOLD by the authors' own Lean function (tested against real Go, not proved from fmt's source: count such statements apart). THE CARD IS WHAT COUNTS. Prove the row's statement (the work); the ties are given (YtchemhjcknkbgaaGreatDoorTie.lean); close each card by the builder's one call (the guide's Derived/Test/ToyasCard.lean, 'card_holds'). Laid BY PROGRAM, IN A SANDBOX (cutbox-door.mjs). By AI agents, Wed Nov 11 2026. No macro, syntax, notation, axiom, sorry.
-/
import Derived.Test.YtchemhjcknkbgaaGreatDoorRows
import GoSem.ClaimSeven
namespace Go.Proofs.YtchemhjcknkbgaaGreatDoor
namespace Rows

/-- THE TIED CARD OF 'laws.FnExactReachNeeds'. -/
def fnExactReachNeedsCard : Claim7 := { stood := { row := fnExactReachNeedsRow, standIns := [], harness := (true, "fe210f6eeb1135c2b0077efd9ef361849738473c1390ba3eaa90a18e4b5c0703"), looks := true }, kinds := [], alts := [], laidByText := true, laidKinds := [.data, .data, .data, .data, .sentinel, .sentinel, .data, .pinned], laidTests := true, laidLooks := .later }
def FnExactReachNeedsCardSaid : Prop := Claim7.holds Tryz.pinned (.plain (OpenSpec.ofChange fnExactReachNeedsSpec)) fnExactReachNeedsCard

/-- THE TIED CARD OF 'laws.FnExactInstStep'. -/
def fnExactInstStepCard : Claim7 := { stood := { row := fnExactInstStepRow, standIns := [], harness := (true, "fe210f6eeb1135c2b0077efd9ef361849738473c1390ba3eaa90a18e4b5c0703"), looks := true }, kinds := [], alts := [], laidByText := true, laidKinds := [.data, .data, .data, .data, .sentinel, .sentinel, .data, .pinned], laidTests := true, laidLooks := .later }
def FnExactInstStepCardSaid : Prop := Claim7.holds Tryz.pinned (.plain (OpenSpec.ofChange fnExactInstStepSpec)) fnExactInstStepCard

/-- THE SECOND FORM's CARD OF 'laws.FnExactReachNeeds'. -/
def fnExactReachNeedsUptoCard : Claim7 := { stood := { row := fnExactReachNeedsUptoRow, standIns := [], harness := (true, "fe210f6eeb1135c2b0077efd9ef361849738473c1390ba3eaa90a18e4b5c0703"), looks := true }, kinds := [], alts := [], laidByText := true, laidKinds := [.data, .data, .data, .data, .sentinel, .sentinel, .data, .pinned], laidTests := true, laidLooks := .later }
def FnExactReachNeedsUptoCardSaid : Prop := Claim7.holds Tryz.pinned (.plain (OpenSpec.upto fnExactReachNeedsSpec)) fnExactReachNeedsUptoCard

/-- THE SECOND FORM's CARD OF 'laws.FnExactInstStep'. -/
def fnExactInstStepUptoCard : Claim7 := { stood := { row := fnExactInstStepUptoRow, standIns := [], harness := (true, "fe210f6eeb1135c2b0077efd9ef361849738473c1390ba3eaa90a18e4b5c0703"), looks := true }, kinds := [], alts := [], laidByText := true, laidKinds := [.data, .data, .data, .data, .sentinel, .sentinel, .data, .pinned], laidTests := true, laidLooks := .later }
def FnExactInstStepUptoCardSaid : Prop := Claim7.holds Tryz.pinned (.plain (OpenSpec.upto fnExactInstStepSpec)) fnExactInstStepUptoCard
end Rows
end Go.Proofs.YtchemhjcknkbgaaGreatDoor
