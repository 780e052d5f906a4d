/-
  DERIVED. GIVEN WITH THE SEED: THE CARDS: each row of YtceokbmejnopoaaGreatDoorRows.lean that lists a variable, with what it lists TIED to the program's text (the seventh form; the later family's looks); each row that meets fmt, with fmt's text TOLD by the authors' own Lean function (tested against real Go, not proved from fmt's source: count such statements apart). THE CARD IS WHAT COUNTS. Prove the row's statement (the work); the ties are given (YtceokbmejnopoaaGreatDoorTie.lean); close each card by the builder's one call (the guide's Derived/Test/ToyasCard.lean, 'card_holds'). Laid BY PROGRAM, IN A SANDBOX (cutbox-door.mjs). By AI agents, Wed Nov 11 2026. No macro, syntax, notation, axiom, sorry.
-/
import Derived.Test.YtceokbmejnopoaaGreatDoorRows
import GoSem.ClaimSeven
namespace Go.Proofs.YtceokbmejnopoaaGreatDoor
namespace Rows

/-- THE TIED CARD OF 'laws.FnExactBlockNames'. -/
def fnExactBlockNamesCard : Claim7 := { stood := { row := fnExactBlockNamesRow, standIns := [], harness := (true, "53555eed0da2380c9cb04fd33c9b8325d96ea6f9387662c61cf00251c95aadc8"), looks := true }, kinds := [], alts := [], laidByText := true, laidKinds := [.data, .data, .data, .data, .sentinel, .sentinel, .data, .pinned], laidTests := true, laidLooks := .later }
def FnExactBlockNamesCardSaid : Prop := Claim7.holds Tryz.pinned (.plain (OpenSpec.ofChange fnExactBlockNamesSpec)) fnExactBlockNamesCard

/-- THE TIED CARD OF 'laws.FnExactBlockMost'. -/
def fnExactBlockMostCard : Claim7 := { stood := { row := fnExactBlockMostRow, standIns := [], harness := (true, "53555eed0da2380c9cb04fd33c9b8325d96ea6f9387662c61cf00251c95aadc8"), looks := true }, kinds := [], alts := [], laidByText := true, laidKinds := [.data, .data, .data, .data, .sentinel, .sentinel, .data, .pinned], laidTests := true, laidLooks := .later }
def FnExactBlockMostCardSaid : Prop := Claim7.holds Tryz.pinned (.plain (OpenSpec.ofChange fnExactBlockMostSpec)) fnExactBlockMostCard

/-- THE TIED CARD OF 'laws.FnExactInstNew'. -/
def fnExactInstNewCard : Claim7 := { stood := { row := fnExactInstNewRow, standIns := [], harness := (true, "53555eed0da2380c9cb04fd33c9b8325d96ea6f9387662c61cf00251c95aadc8"), looks := true }, kinds := [], alts := [], laidByText := true, laidKinds := [.data, .data, .data, .data, .sentinel, .sentinel, .data, .pinned], laidTests := true, laidLooks := .later }
def FnExactInstNewCardSaid : Prop := Claim7.holds Tryz.pinned (.plain (OpenSpec.ofChange fnExactInstNewSpec)) fnExactInstNewCard

/-- THE TIED CARD OF 'laws.FnExactInstOk'. -/
def fnExactInstOkCard : Claim7 := { stood := { row := fnExactInstOkRow, standIns := [], harness := (true, "53555eed0da2380c9cb04fd33c9b8325d96ea6f9387662c61cf00251c95aadc8"), looks := true }, kinds := [], alts := [], laidByText := true, laidKinds := [.data, .data, .data, .data, .sentinel, .sentinel, .data, .pinned], laidTests := true, laidLooks := .later }
def FnExactInstOkCardSaid : Prop := Claim7.holds Tryz.pinned (.plain (OpenSpec.ofChange fnExactInstOkSpec)) fnExactInstOkCard

/-- THE TIED CARD OF 'laws.FnExactInstStep'. -/
def fnExactInstStepCard : Claim7 := { stood := { row := fnExactInstStepRow, standIns := [], harness := (true, "53555eed0da2380c9cb04fd33c9b8325d96ea6f9387662c61cf00251c95aadc8"), looks := true }, kinds := [], alts := [], laidByText := true, laidKinds := [.data, .data, .data, .data, .sentinel, .sentinel, .data, .pinned], laidTests := true, laidLooks := .later }
def FnExactInstStepCardSaid : Prop := Claim7.holds Tryz.pinned (.plain (OpenSpec.ofChange fnExactInstStepSpec)) fnExactInstStepCard

/-- THE SECOND FORM's CARD OF 'laws.FnExactBlockNames'. -/
def fnExactBlockNamesUptoCard : Claim7 := { stood := { row := fnExactBlockNamesUptoRow, standIns := [], harness := (true, "53555eed0da2380c9cb04fd33c9b8325d96ea6f9387662c61cf00251c95aadc8"), looks := true }, kinds := [], alts := [], laidByText := true, laidKinds := [.data, .data, .data, .data, .sentinel, .sentinel, .data, .pinned], laidTests := true, laidLooks := .later }
def FnExactBlockNamesUptoCardSaid : Prop := Claim7.holds Tryz.pinned (.plain (OpenSpec.upto fnExactBlockNamesSpec)) fnExactBlockNamesUptoCard

/-- THE SECOND FORM's CARD OF 'laws.FnExactBlockMost'. -/
def fnExactBlockMostUptoCard : Claim7 := { stood := { row := fnExactBlockMostUptoRow, standIns := [], harness := (true, "53555eed0da2380c9cb04fd33c9b8325d96ea6f9387662c61cf00251c95aadc8"), looks := true }, kinds := [], alts := [], laidByText := true, laidKinds := [.data, .data, .data, .data, .sentinel, .sentinel, .data, .pinned], laidTests := true, laidLooks := .later }
def FnExactBlockMostUptoCardSaid : Prop := Claim7.holds Tryz.pinned (.plain (OpenSpec.upto fnExactBlockMostSpec)) fnExactBlockMostUptoCard

/-- THE SECOND FORM's CARD OF 'laws.FnExactInstNew'. -/
def fnExactInstNewUptoCard : Claim7 := { stood := { row := fnExactInstNewUptoRow, standIns := [], harness := (true, "53555eed0da2380c9cb04fd33c9b8325d96ea6f9387662c61cf00251c95aadc8"), looks := true }, kinds := [], alts := [], laidByText := true, laidKinds := [.data, .data, .data, .data, .sentinel, .sentinel, .data, .pinned], laidTests := true, laidLooks := .later }
def FnExactInstNewUptoCardSaid : Prop := Claim7.holds Tryz.pinned (.plain (OpenSpec.upto fnExactInstNewSpec)) fnExactInstNewUptoCard

/-- THE SECOND FORM's CARD OF 'laws.FnExactInstOk'. -/
def fnExactInstOkUptoCard : Claim7 := { stood := { row := fnExactInstOkUptoRow, standIns := [], harness := (true, "53555eed0da2380c9cb04fd33c9b8325d96ea6f9387662c61cf00251c95aadc8"), looks := true }, kinds := [], alts := [], laidByText := true, laidKinds := [.data, .data, .data, .data, .sentinel, .sentinel, .data, .pinned], laidTests := true, laidLooks := .later }
def FnExactInstOkUptoCardSaid : Prop := Claim7.holds Tryz.pinned (.plain (OpenSpec.upto fnExactInstOkSpec)) fnExactInstOkUptoCard

/-- THE SECOND FORM's CARD OF 'laws.FnExactInstStep'. -/
def fnExactInstStepUptoCard : Claim7 := { stood := { row := fnExactInstStepUptoRow, standIns := [], harness := (true, "53555eed0da2380c9cb04fd33c9b8325d96ea6f9387662c61cf00251c95aadc8"), looks := true }, kinds := [], alts := [], laidByText := true, laidKinds := [.data, .data, .data, .data, .sentinel, .sentinel, .data, .pinned], laidTests := true, laidLooks := .later }
def FnExactInstStepUptoCardSaid : Prop := Claim7.holds Tryz.pinned (.plain (OpenSpec.upto fnExactInstStepSpec)) fnExactInstStepUptoCard
end Rows
end Go.Proofs.YtceokbmejnopoaaGreatDoor
