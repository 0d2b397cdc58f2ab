/-
  DERIVED. GIVEN WITH THE SEED: THE CARDS: each row of YtbmdadhbkdkgmaaGreatDoorRows.lean that lists a variable, with what it lists TIED to the program's text (the seventh form; the later family's looks); each row that meets fmt, with fmt's text TOLD by the authors' own Lean function (tested against real Go, not proved from fmt's source: count such statements apart). THE CARD IS WHAT COUNTS. Prove the row's statement (the work); the ties are given (YtbmdadhbkdkgmaaGreatDoorTie.lean); close each card by the builder's one call (the guide's Derived/Test/ToyasCard.lean, 'card_holds'). Laid BY PROGRAM, IN A SANDBOX (cutbox-door.mjs). By AI agents, Wed Nov 11 2026. No macro, syntax, notation, axiom, sorry.
-/
import Derived.Test.YtbmdadhbkdkgmaaGreatDoorRows
import GoSem.ClaimSeven
namespace Go.Proofs.YtbmdadhbkdkgmaaGreatDoor
namespace Rows

/-- THE TIED CARD OF 'clockworklaw09.PrinterProcs'. -/
def printerProcsCard : Claim7 := { stood := { row := printerProcsRow, standIns := [], harness := (true, "6d40a054720183db12a8d31082a382b97f4d0a92239367812b6429ff79ae669e"), looks := false }, kinds := [], alts := [], laidByText := true, laidKinds := [.data, .data, .data, .data, .data], laidTests := true, laidLooks := .later }
def PrinterProcsCardSaid : Prop := Claim7.holds Tryz.pinned (.plain (OpenSpec.ofChange printerProcsSpec)) printerProcsCard

/-- THE TIED CARD OF 'clockworklaw09.PrinterExprs'. -/
def printerExprsCard : Claim7 := { stood := { row := printerExprsRow, standIns := [], harness := (true, "6d40a054720183db12a8d31082a382b97f4d0a92239367812b6429ff79ae669e"), looks := false }, kinds := [], alts := [], laidByText := true, laidKinds := [.data, .data, .data, .data, .data], laidTests := true, laidLooks := .later }
def PrinterExprsCardSaid : Prop := Claim7.holds Tryz.pinned (.plain (OpenSpec.ofChange printerExprsSpec)) printerExprsCard

/-- THE SECOND FORM's CARD OF 'clockworklaw09.PrinterProcs'. -/
def printerProcsUptoCard : Claim7 := { stood := { row := printerProcsUptoRow, standIns := [], harness := (true, "6d40a054720183db12a8d31082a382b97f4d0a92239367812b6429ff79ae669e"), looks := false }, kinds := [], alts := [], laidByText := true, laidKinds := [.data, .data, .data, .data, .data], laidTests := true, laidLooks := .later }
def PrinterProcsUptoCardSaid : Prop := Claim7.holds Tryz.pinned (.plain (OpenSpec.upto printerProcsSpec)) printerProcsUptoCard

/-- THE SECOND FORM's CARD OF 'clockworklaw09.PrinterExprs'. -/
def printerExprsUptoCard : Claim7 := { stood := { row := printerExprsUptoRow, standIns := [], harness := (true, "6d40a054720183db12a8d31082a382b97f4d0a92239367812b6429ff79ae669e"), looks := false }, kinds := [], alts := [], laidByText := true, laidKinds := [.data, .data, .data, .data, .data], laidTests := true, laidLooks := .later }
def PrinterExprsUptoCardSaid : Prop := Claim7.holds Tryz.pinned (.plain (OpenSpec.upto printerExprsSpec)) printerExprsUptoCard
end Rows
end Go.Proofs.YtbmdadhbkdkgmaaGreatDoor
