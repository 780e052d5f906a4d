/-
  DERIVED. GIVEN WITH THE SEED: THE CARDS: each row of YtjmgfpldjccilaaGreatDoorRows.lean that lists a variable, with what it lists TIED to the program's text (the seventh form; the later family's looks); each row that meets fmt, with fmt's text TOLD by the authors' own Lean function (tested against real Go, not proved from fmt's source: count such statements apart). THE CARD IS WHAT COUNTS. Prove the row's statement (the work); the ties are given (YtjmgfpldjccilaaGreatDoorTie.lean); close each card by the builder's one call (the guide's Derived/Test/ToyasCard.lean, 'card_holds'). Laid BY PROGRAM, IN A SANDBOX (cutbox-door.mjs). By AI agents, Wed Nov 11 2026. No macro, syntax, notation, axiom, sorry.
-/
import Derived.Test.YtjmgfpldjccilaaGreatDoorRows
import GoSem.ClaimSeven
namespace Go.Proofs.YtjmgfpldjccilaaGreatDoor
namespace Rows

/-- THE TIED CARD OF 'laws.FnEventGet'. -/
def fnEventGetCard : Claim7 := { stood := { row := fnEventGetRow, standIns := [], harness := (true, "08be1a07a9e53ef46f215cddb72be29fed0039ac8ffdae42a0a1a144de4c5c58"), looks := true }, kinds := [], alts := [], laidByText := true, laidKinds := [.data, .data, .data, .data, .sentinel, .sentinel, .data, .pinned], laidTests := true, laidLooks := .later }
def FnEventGetCardSaid : Prop := Claim7.holds Tryz.pinned (.plain (OpenSpec.ofChange fnEventGetSpec)) fnEventGetCard

/-- THE TIED CARD OF 'laws.FnStoryPut'. -/
def fnStoryPutCard : Claim7 := { stood := { row := fnStoryPutRow, standIns := [], harness := (true, "08be1a07a9e53ef46f215cddb72be29fed0039ac8ffdae42a0a1a144de4c5c58"), looks := true }, kinds := [], alts := [], laidByText := true, laidKinds := [.data, .data, .data, .data, .sentinel, .sentinel, .data, .pinned], laidTests := true, laidLooks := .later }
def FnStoryPutCardSaid : Prop := Claim7.holds Tryz.pinned (.plain (OpenSpec.ofChange fnStoryPutSpec)) fnStoryPutCard

/-- THE TIED CARD OF 'laws.FnStoryGet'. -/
def fnStoryGetCard : Claim7 := { stood := { row := fnStoryGetRow, standIns := [], harness := (true, "08be1a07a9e53ef46f215cddb72be29fed0039ac8ffdae42a0a1a144de4c5c58"), looks := true }, kinds := [], alts := [], laidByText := true, laidKinds := [.data, .data, .data, .data, .sentinel, .sentinel, .data, .pinned], laidTests := true, laidLooks := .later }
def FnStoryGetCardSaid : Prop := Claim7.holds Tryz.pinned (.plain (OpenSpec.ofChange fnStoryGetSpec)) fnStoryGetCard

/-- THE TIED CARD OF 'laws.FnStoryTwo'. -/
def fnStoryTwoCard : Claim7 := { stood := { row := fnStoryTwoRow, standIns := [], harness := (true, "08be1a07a9e53ef46f215cddb72be29fed0039ac8ffdae42a0a1a144de4c5c58"), looks := true }, kinds := [], alts := [], laidByText := true, laidKinds := [.data, .data, .data, .data, .sentinel, .sentinel, .data, .pinned], laidTests := true, laidLooks := .later }
def FnStoryTwoCardSaid : Prop := Claim7.holds Tryz.pinned (.plain (OpenSpec.ofChange fnStoryTwoSpec)) fnStoryTwoCard

/-- THE TIED CARD OF 'laws.FnExactStoryGet'. -/
def fnExactStoryGetCard : Claim7 := { stood := { row := fnExactStoryGetRow, standIns := [], harness := (true, "08be1a07a9e53ef46f215cddb72be29fed0039ac8ffdae42a0a1a144de4c5c58"), looks := true }, kinds := [], alts := [], laidByText := true, laidKinds := [.data, .data, .data, .data, .sentinel, .sentinel, .data, .pinned], laidTests := true, laidLooks := .later }
def FnExactStoryGetCardSaid : Prop := Claim7.holds Tryz.pinned (.plain (OpenSpec.ofChange fnExactStoryGetSpec)) fnExactStoryGetCard

/-- THE SECOND FORM's CARD OF 'laws.FnEventGet'. -/
def fnEventGetUptoCard : Claim7 := { stood := { row := fnEventGetUptoRow, standIns := [], harness := (true, "08be1a07a9e53ef46f215cddb72be29fed0039ac8ffdae42a0a1a144de4c5c58"), looks := true }, kinds := [], alts := [], laidByText := true, laidKinds := [.data, .data, .data, .data, .sentinel, .sentinel, .data, .pinned], laidTests := true, laidLooks := .later }
def FnEventGetUptoCardSaid : Prop := Claim7.holds Tryz.pinned (.plain (OpenSpec.upto fnEventGetSpec)) fnEventGetUptoCard

/-- THE SECOND FORM's CARD OF 'laws.FnStoryPut'. -/
def fnStoryPutUptoCard : Claim7 := { stood := { row := fnStoryPutUptoRow, standIns := [], harness := (true, "08be1a07a9e53ef46f215cddb72be29fed0039ac8ffdae42a0a1a144de4c5c58"), looks := true }, kinds := [], alts := [], laidByText := true, laidKinds := [.data, .data, .data, .data, .sentinel, .sentinel, .data, .pinned], laidTests := true, laidLooks := .later }
def FnStoryPutUptoCardSaid : Prop := Claim7.holds Tryz.pinned (.plain (OpenSpec.upto fnStoryPutSpec)) fnStoryPutUptoCard

/-- THE SECOND FORM's CARD OF 'laws.FnStoryGet'. -/
def fnStoryGetUptoCard : Claim7 := { stood := { row := fnStoryGetUptoRow, standIns := [], harness := (true, "08be1a07a9e53ef46f215cddb72be29fed0039ac8ffdae42a0a1a144de4c5c58"), looks := true }, kinds := [], alts := [], laidByText := true, laidKinds := [.data, .data, .data, .data, .sentinel, .sentinel, .data, .pinned], laidTests := true, laidLooks := .later }
def FnStoryGetUptoCardSaid : Prop := Claim7.holds Tryz.pinned (.plain (OpenSpec.upto fnStoryGetSpec)) fnStoryGetUptoCard

/-- THE SECOND FORM's CARD OF 'laws.FnStoryTwo'. -/
def fnStoryTwoUptoCard : Claim7 := { stood := { row := fnStoryTwoUptoRow, standIns := [], harness := (true, "08be1a07a9e53ef46f215cddb72be29fed0039ac8ffdae42a0a1a144de4c5c58"), looks := true }, kinds := [], alts := [], laidByText := true, laidKinds := [.data, .data, .data, .data, .sentinel, .sentinel, .data, .pinned], laidTests := true, laidLooks := .later }
def FnStoryTwoUptoCardSaid : Prop := Claim7.holds Tryz.pinned (.plain (OpenSpec.upto fnStoryTwoSpec)) fnStoryTwoUptoCard

/-- THE SECOND FORM's CARD OF 'laws.FnExactStoryGet'. -/
def fnExactStoryGetUptoCard : Claim7 := { stood := { row := fnExactStoryGetUptoRow, standIns := [], harness := (true, "08be1a07a9e53ef46f215cddb72be29fed0039ac8ffdae42a0a1a144de4c5c58"), looks := true }, kinds := [], alts := [], laidByText := true, laidKinds := [.data, .data, .data, .data, .sentinel, .sentinel, .data, .pinned], laidTests := true, laidLooks := .later }
def FnExactStoryGetUptoCardSaid : Prop := Claim7.holds Tryz.pinned (.plain (OpenSpec.upto fnExactStoryGetSpec)) fnExactStoryGetUptoCard
end Rows
end Go.Proofs.YtjmgfpldjccilaaGreatDoor
