/-
  DERIVED. GIVEN WITH THE SEED: THE CARDS: each row of YtjmgfpldjccilaaDoorRows.lean that lists a variable, with what it lists TIED to the program's text (the seventh form; the later family's looks); each row that meets fmt, with fmt's text TOLD by the authors' own Lean function (tested against real Go, not proved from fmt's source: count such statements apart). THE CARD IS WHAT COUNTS. Prove the row's statement (the work); the ties are given (YtjmgfpldjccilaaDoorTie.lean); close each card by the builder's one call (the guide's Derived/Test/ToyasCard.lean, 'card_holds'). Laid BY PROGRAM, IN A SANDBOX (cutbox-door.mjs). By AI agents, Wed Nov 11 2026. No macro, syntax, notation, axiom, sorry.
-/
import Derived.Test.YtjmgfpldjccilaaDoorRows
import GoSem.ClaimSeven
namespace Go.Proofs.YtjmgfpldjccilaaDoor
namespace Rows

/-- THE TIED CARD OF 'laws.FnEventPut'. -/
def fnEventPutCard : Claim7 := { stood := { row := fnEventPutRow, standIns := [], harness := (true, "69c2df2a43c37c9b0b84b75f2adc02ad4f857033fd4d995d19fd46ac9c4a820d"), looks := true }, kinds := [], alts := [], laidByText := true, laidKinds := [.data, .data, .data, .data, .sentinel, .sentinel, .data, .pinned], laidTests := true, laidLooks := .later }
def FnEventPutCardSaid : Prop := Claim7.holds Tryd.pinned (.plain (OpenSpec.ofChange fnEventPutSpec)) fnEventPutCard

/-- THE TIED CARD OF 'laws.FnExactEventPut'. -/
def fnExactEventPutCard : Claim7 := { stood := { row := fnExactEventPutRow, standIns := [], harness := (true, "69c2df2a43c37c9b0b84b75f2adc02ad4f857033fd4d995d19fd46ac9c4a820d"), looks := true }, kinds := [], alts := [], laidByText := true, laidKinds := [.data, .data, .data, .data], laidTests := true, laidLooks := .later }
def FnExactEventPutCardSaid : Prop := Claim7.holds Tryd.pinned (.plain (OpenSpec.ofChange fnExactEventPutSpec)) fnExactEventPutCard

/-- THE TIED CARD OF 'laws.FnExactEventGet'. -/
def fnExactEventGetCard : Claim7 := { stood := { row := fnExactEventGetRow, standIns := [], harness := (true, "69c2df2a43c37c9b0b84b75f2adc02ad4f857033fd4d995d19fd46ac9c4a820d"), looks := true }, kinds := [], alts := [], laidByText := true, laidKinds := [.data, .data, .data, .data, .sentinel, .sentinel, .data, .pinned], laidTests := true, laidLooks := .later }
def FnExactEventGetCardSaid : Prop := Claim7.holds Tryd.pinned (.plain (OpenSpec.ofChange fnExactEventGetSpec)) fnExactEventGetCard

/-- THE TIED CARD OF 'laws.FnExactStoryPut'. -/
def fnExactStoryPutCard : Claim7 := { stood := { row := fnExactStoryPutRow, standIns := [], harness := (true, "69c2df2a43c37c9b0b84b75f2adc02ad4f857033fd4d995d19fd46ac9c4a820d"), looks := true }, kinds := [], alts := [], laidByText := true, laidKinds := [.data, .data, .data, .data], laidTests := true, laidLooks := .later }
def FnExactStoryPutCardSaid : Prop := Claim7.holds Tryd.pinned (.plain (OpenSpec.ofChange fnExactStoryPutSpec)) fnExactStoryPutCard

/-- THE SECOND FORM's CARD OF 'laws.FnEventPut'. -/
def fnEventPutUptoCard : Claim7 := { stood := { row := fnEventPutUptoRow, standIns := [], harness := (true, "69c2df2a43c37c9b0b84b75f2adc02ad4f857033fd4d995d19fd46ac9c4a820d"), looks := true }, kinds := [], alts := [], laidByText := true, laidKinds := [.data, .data, .data, .data, .sentinel, .sentinel, .data, .pinned], laidTests := true, laidLooks := .later }
def FnEventPutUptoCardSaid : Prop := Claim7.holds Tryd.pinned (.plain (OpenSpec.upto fnEventPutSpec)) fnEventPutUptoCard

/-- THE SECOND FORM's CARD OF 'laws.FnExactEventPut'. -/
def fnExactEventPutUptoCard : Claim7 := { stood := { row := fnExactEventPutUptoRow, standIns := [], harness := (true, "69c2df2a43c37c9b0b84b75f2adc02ad4f857033fd4d995d19fd46ac9c4a820d"), looks := true }, kinds := [], alts := [], laidByText := true, laidKinds := [.data, .data, .data, .data], laidTests := true, laidLooks := .later }
def FnExactEventPutUptoCardSaid : Prop := Claim7.holds Tryd.pinned (.plain (OpenSpec.upto fnExactEventPutSpec)) fnExactEventPutUptoCard

/-- THE SECOND FORM's CARD OF 'laws.FnExactEventGet'. -/
def fnExactEventGetUptoCard : Claim7 := { stood := { row := fnExactEventGetUptoRow, standIns := [], harness := (true, "69c2df2a43c37c9b0b84b75f2adc02ad4f857033fd4d995d19fd46ac9c4a820d"), looks := true }, kinds := [], alts := [], laidByText := true, laidKinds := [.data, .data, .data, .data, .sentinel, .sentinel, .data, .pinned], laidTests := true, laidLooks := .later }
def FnExactEventGetUptoCardSaid : Prop := Claim7.holds Tryd.pinned (.plain (OpenSpec.upto fnExactEventGetSpec)) fnExactEventGetUptoCard

/-- THE SECOND FORM's CARD OF 'laws.FnExactStoryPut'. -/
def fnExactStoryPutUptoCard : Claim7 := { stood := { row := fnExactStoryPutUptoRow, standIns := [], harness := (true, "69c2df2a43c37c9b0b84b75f2adc02ad4f857033fd4d995d19fd46ac9c4a820d"), looks := true }, kinds := [], alts := [], laidByText := true, laidKinds := [.data, .data, .data, .data], laidTests := true, laidLooks := .later }
def FnExactStoryPutUptoCardSaid : Prop := Claim7.holds Tryd.pinned (.plain (OpenSpec.upto fnExactStoryPutSpec)) fnExactStoryPutUptoCard
end Rows
end Go.Proofs.YtjmgfpldjccilaaDoor
