/-
  DERIVED. GIVEN WITH THE SEED: THE CARDS: each row of YteglaeopaocilaaGreatDoorRows.lean that lists a variable, with what it lists TIED to the program's text (the seventh form; the later family's looks); each row that meets fmt, with fmt's text TOLD by the authors' own Lean function (tested against real Go, not proved from fmt's source: count such statements apart). THE CARD IS WHAT COUNTS. Prove the row's statement (the work); the ties are given (YteglaeopaocilaaGreatDoorTie.lean); close each card by the builder's one call (the guide's Derived/Test/ToyasCard.lean, 'card_holds'). Laid BY PROGRAM, IN A SANDBOX (cutbox-door.mjs). By AI agents, Wed Nov 11 2026. No macro, syntax, notation, axiom, sorry.
-/
import Derived.Test.YteglaeopaocilaaGreatDoorRows
import GoSem.ClaimSeven
namespace Go.Proofs.YteglaeopaocilaaGreatDoor
namespace Rows

/-- THE TIED CARD OF 'clockworklaw10.ParserRoundTrips'. -/
def parserRoundTripsCard : Claim7 := { stood := { row := parserRoundTripsRow, standIns := [], harness := (true, "eb6ef3f211af50a87850ddfbf8658d7abf455de4fde702ddf76d35291ff3a00e"), looks := true }, kinds := [], alts := [], laidByText := true, laidKinds := [.data, .data, .data, .data, .data, .data, .data, .pinned], laidTests := true, laidLooks := .later }
def ParserRoundTripsCardSaid : Prop := Claim7.holds Tryz.pinned (.plain (OpenSpec.ofChange parserRoundTripsSpec)) parserRoundTripsCard

/-- THE TIED CARD OF 'clockworklaw10.ParserExprs'. -/
def parserExprsCard : Claim7 := { stood := { row := parserExprsRow, standIns := [], harness := (true, "eb6ef3f211af50a87850ddfbf8658d7abf455de4fde702ddf76d35291ff3a00e"), looks := true }, kinds := [], alts := [], laidByText := true, laidKinds := [.data, .data, .pinned], laidTests := true, laidLooks := .later }
def ParserExprsCardSaid : Prop := Claim7.holds Tryz.pinned (.plain (OpenSpec.ofChange parserExprsSpec)) parserExprsCard

/-- THE TIED CARD OF 'clockworklaw10.ParserProcs'. -/
def parserProcsCard : Claim7 := { stood := { row := parserProcsRow, standIns := [], harness := (true, "eb6ef3f211af50a87850ddfbf8658d7abf455de4fde702ddf76d35291ff3a00e"), looks := true }, kinds := [], alts := [], laidByText := true, laidKinds := [.data, .data, .pinned], laidTests := true, laidLooks := .later }
def ParserProcsCardSaid : Prop := Claim7.holds Tryz.pinned (.plain (OpenSpec.ofChange parserProcsSpec)) parserProcsCard

/-- THE TIED CARD OF 'clockworklaw10.ParserPrograms'. -/
def parserProgramsCard : Claim7 := { stood := { row := parserProgramsRow, standIns := [], harness := (true, "eb6ef3f211af50a87850ddfbf8658d7abf455de4fde702ddf76d35291ff3a00e"), looks := true }, kinds := [], alts := [], laidByText := true, laidKinds := [.data, .data, .pinned], laidTests := true, laidLooks := .later }
def ParserProgramsCardSaid : Prop := Claim7.holds Tryz.pinned (.plain (OpenSpec.ofChange parserProgramsSpec)) parserProgramsCard

/-- THE TIED CARD OF 'clockworklaw10.ParserExprRoundTrips'. -/
def parserExprRoundTripsCard : Claim7 := { stood := { row := parserExprRoundTripsRow, standIns := [], harness := (true, "eb6ef3f211af50a87850ddfbf8658d7abf455de4fde702ddf76d35291ff3a00e"), looks := true }, kinds := [], alts := [], laidByText := true, laidKinds := [.data, .data, .data, .data, .data, .data, .pinned], laidTests := true, laidLooks := .later }
def ParserExprRoundTripsCardSaid : Prop := Claim7.holds Tryz.pinned (.plain (OpenSpec.ofChange parserExprRoundTripsSpec)) parserExprRoundTripsCard

/-- THE TIED CARD OF 'clockworklaw10.ParserProgramRoundTrips'. -/
def parserProgramRoundTripsCard : Claim7 := { stood := { row := parserProgramRoundTripsRow, standIns := [], harness := (true, "eb6ef3f211af50a87850ddfbf8658d7abf455de4fde702ddf76d35291ff3a00e"), looks := true }, kinds := [], alts := [], laidByText := true, laidKinds := [.data, .data, .data, .data, .data, .data, .data, .pinned], laidTests := true, laidLooks := .later }
def ParserProgramRoundTripsCardSaid : Prop := Claim7.holds Tryz.pinned (.plain (OpenSpec.ofChange parserProgramRoundTripsSpec)) parserProgramRoundTripsCard

/-- THE TIED CARD OF 'clockworklaw10.ParserTokens'. -/
def parserTokensCard : Claim7 := { stood := { row := parserTokensRow, standIns := [], harness := (true, "eb6ef3f211af50a87850ddfbf8658d7abf455de4fde702ddf76d35291ff3a00e"), looks := true }, kinds := [], alts := [], laidByText := true, laidKinds := [.data, .data, .data, .data, .data, .data, .data, .pinned], laidTests := true, laidLooks := .later }
def ParserTokensCardSaid : Prop := Claim7.holds Tryz.pinned (.plain (OpenSpec.ofChange parserTokensSpec)) parserTokensCard

/-- THE SECOND FORM's CARD OF 'clockworklaw10.ParserRoundTrips'. -/
def parserRoundTripsUptoCard : Claim7 := { stood := { row := parserRoundTripsUptoRow, standIns := [], harness := (true, "eb6ef3f211af50a87850ddfbf8658d7abf455de4fde702ddf76d35291ff3a00e"), looks := true }, kinds := [], alts := [], laidByText := true, laidKinds := [.data, .data, .data, .data, .data, .data, .data, .pinned], laidTests := true, laidLooks := .later }
def ParserRoundTripsUptoCardSaid : Prop := Claim7.holds Tryz.pinned (.plain (OpenSpec.upto parserRoundTripsSpec)) parserRoundTripsUptoCard

/-- THE SECOND FORM's CARD OF 'clockworklaw10.ParserExprs'. -/
def parserExprsUptoCard : Claim7 := { stood := { row := parserExprsUptoRow, standIns := [], harness := (true, "eb6ef3f211af50a87850ddfbf8658d7abf455de4fde702ddf76d35291ff3a00e"), looks := true }, kinds := [], alts := [], laidByText := true, laidKinds := [.data, .data, .pinned], laidTests := true, laidLooks := .later }
def ParserExprsUptoCardSaid : Prop := Claim7.holds Tryz.pinned (.plain (OpenSpec.upto parserExprsSpec)) parserExprsUptoCard

/-- THE SECOND FORM's CARD OF 'clockworklaw10.ParserProcs'. -/
def parserProcsUptoCard : Claim7 := { stood := { row := parserProcsUptoRow, standIns := [], harness := (true, "eb6ef3f211af50a87850ddfbf8658d7abf455de4fde702ddf76d35291ff3a00e"), looks := true }, kinds := [], alts := [], laidByText := true, laidKinds := [.data, .data, .pinned], laidTests := true, laidLooks := .later }
def ParserProcsUptoCardSaid : Prop := Claim7.holds Tryz.pinned (.plain (OpenSpec.upto parserProcsSpec)) parserProcsUptoCard

/-- THE SECOND FORM's CARD OF 'clockworklaw10.ParserPrograms'. -/
def parserProgramsUptoCard : Claim7 := { stood := { row := parserProgramsUptoRow, standIns := [], harness := (true, "eb6ef3f211af50a87850ddfbf8658d7abf455de4fde702ddf76d35291ff3a00e"), looks := true }, kinds := [], alts := [], laidByText := true, laidKinds := [.data, .data, .pinned], laidTests := true, laidLooks := .later }
def ParserProgramsUptoCardSaid : Prop := Claim7.holds Tryz.pinned (.plain (OpenSpec.upto parserProgramsSpec)) parserProgramsUptoCard

/-- THE SECOND FORM's CARD OF 'clockworklaw10.ParserExprRoundTrips'. -/
def parserExprRoundTripsUptoCard : Claim7 := { stood := { row := parserExprRoundTripsUptoRow, standIns := [], harness := (true, "eb6ef3f211af50a87850ddfbf8658d7abf455de4fde702ddf76d35291ff3a00e"), looks := true }, kinds := [], alts := [], laidByText := true, laidKinds := [.data, .data, .data, .data, .data, .data, .pinned], laidTests := true, laidLooks := .later }
def ParserExprRoundTripsUptoCardSaid : Prop := Claim7.holds Tryz.pinned (.plain (OpenSpec.upto parserExprRoundTripsSpec)) parserExprRoundTripsUptoCard

/-- THE SECOND FORM's CARD OF 'clockworklaw10.ParserProgramRoundTrips'. -/
def parserProgramRoundTripsUptoCard : Claim7 := { stood := { row := parserProgramRoundTripsUptoRow, standIns := [], harness := (true, "eb6ef3f211af50a87850ddfbf8658d7abf455de4fde702ddf76d35291ff3a00e"), looks := true }, kinds := [], alts := [], laidByText := true, laidKinds := [.data, .data, .data, .data, .data, .data, .data, .pinned], laidTests := true, laidLooks := .later }
def ParserProgramRoundTripsUptoCardSaid : Prop := Claim7.holds Tryz.pinned (.plain (OpenSpec.upto parserProgramRoundTripsSpec)) parserProgramRoundTripsUptoCard

/-- THE SECOND FORM's CARD OF 'clockworklaw10.ParserTokens'. -/
def parserTokensUptoCard : Claim7 := { stood := { row := parserTokensUptoRow, standIns := [], harness := (true, "eb6ef3f211af50a87850ddfbf8658d7abf455de4fde702ddf76d35291ff3a00e"), looks := true }, kinds := [], alts := [], laidByText := true, laidKinds := [.data, .data, .data, .data, .data, .data, .data, .pinned], laidTests := true, laidLooks := .later }
def ParserTokensUptoCardSaid : Prop := Claim7.holds Tryz.pinned (.plain (OpenSpec.upto parserTokensSpec)) parserTokensUptoCard
end Rows
end Go.Proofs.YteglaeopaocilaaGreatDoor
