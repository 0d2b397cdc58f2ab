/-
  DERIVED. GIVEN WITH THE SEED: THE CARDS: each row of YtbmdadhbkdkgmaaDoorRows.lean that lists a variable, with what it lists TIED to the program's text (the seventh form; the later family's looks); each row that meets fmt, with fmt's text TOLD by the authors' own Lean function (tested against real Go, not proved from fmt's source: count such statements apart). THE CARD IS WHAT COUNTS. Prove the row's statement (the work); the ties are given (YtbmdadhbkdkgmaaDoorTie.lean); close each card by the builder's one call (the guide's Derived/Test/ToyasCard.lean, 'card_holds'). Laid BY PROGRAM, IN A SANDBOX (cutbox-door.mjs). By AI agents, Wed Nov 11 2026. No macro, syntax, notation, axiom, sorry.
-/
import Derived.Test.YtbmdadhbkdkgmaaDoorRows
import GoSem.ClaimSeven
namespace Go.Proofs.YtbmdadhbkdkgmaaDoor
namespace Rows

/-- THE TIED CARD OF 'clockworklaw09.PrinterDistinct'. -/
def printerDistinctCard : Claim7 := { stood := { row := printerDistinctRow, standIns := [], harness := (true, "7575f45216af380a855434d7daddfbe25a1562800800c061b96a62513350e6a3"), looks := false }, kinds := [], alts := [], laidByText := true, laidKinds := [.data, .data, .data, .data, .data], laidTests := true, laidLooks := .later }
def PrinterDistinctCardSaid : Prop := Claim7.holds Tryd.pinned (.plain (OpenSpec.ofChange printerDistinctSpec)) printerDistinctCard

/-- THE TIED CARD OF 'clockworklaw09.PrinterLines'. -/
def printerLinesCard : Claim7 := { stood := { row := printerLinesRow, standIns := [], harness := (true, "7575f45216af380a855434d7daddfbe25a1562800800c061b96a62513350e6a3"), looks := false }, kinds := [], alts := [], laidByText := true, laidKinds := [.data, .data, .data, .data, .data], laidTests := true, laidLooks := .later }
def PrinterLinesCardSaid : Prop := Claim7.holds Tryd.pinned (.plain (OpenSpec.ofChange printerLinesSpec)) printerLinesCard

/-- THE TIED CARD OF 'clockworklaw09.PrinterOperators'. -/
def printerOperatorsCard : Claim7 := { stood := { row := printerOperatorsRow, standIns := [], harness := (true, "7575f45216af380a855434d7daddfbe25a1562800800c061b96a62513350e6a3"), looks := false }, kinds := [], alts := [], laidByText := true, laidKinds := [.data, .data, .data, .data, .data], laidTests := true, laidLooks := .later }
def PrinterOperatorsCardSaid : Prop := Claim7.holds Tryd.pinned (.plain (OpenSpec.ofChange printerOperatorsSpec)) printerOperatorsCard

/-- THE TIED CARD OF 'clockworklaw09.PrinterJoins'. -/
def printerJoinsCard : Claim7 := { stood := { row := printerJoinsRow, standIns := [], harness := (true, "7575f45216af380a855434d7daddfbe25a1562800800c061b96a62513350e6a3"), looks := false }, kinds := [], alts := [], laidByText := true, laidKinds := [.data, .data, .data, .data, .data], laidTests := true, laidLooks := .later }
def PrinterJoinsCardSaid : Prop := Claim7.holds Tryd.pinned (.plain (OpenSpec.ofChange printerJoinsSpec)) printerJoinsCard

/-- THE SECOND FORM's CARD OF 'clockworklaw09.PrinterDistinct'. -/
def printerDistinctUptoCard : Claim7 := { stood := { row := printerDistinctUptoRow, standIns := [], harness := (true, "7575f45216af380a855434d7daddfbe25a1562800800c061b96a62513350e6a3"), looks := false }, kinds := [], alts := [], laidByText := true, laidKinds := [.data, .data, .data, .data, .data], laidTests := true, laidLooks := .later }
def PrinterDistinctUptoCardSaid : Prop := Claim7.holds Tryd.pinned (.plain (OpenSpec.upto printerDistinctSpec)) printerDistinctUptoCard

/-- THE SECOND FORM's CARD OF 'clockworklaw09.PrinterLines'. -/
def printerLinesUptoCard : Claim7 := { stood := { row := printerLinesUptoRow, standIns := [], harness := (true, "7575f45216af380a855434d7daddfbe25a1562800800c061b96a62513350e6a3"), looks := false }, kinds := [], alts := [], laidByText := true, laidKinds := [.data, .data, .data, .data, .data], laidTests := true, laidLooks := .later }
def PrinterLinesUptoCardSaid : Prop := Claim7.holds Tryd.pinned (.plain (OpenSpec.upto printerLinesSpec)) printerLinesUptoCard

/-- THE SECOND FORM's CARD OF 'clockworklaw09.PrinterOperators'. -/
def printerOperatorsUptoCard : Claim7 := { stood := { row := printerOperatorsUptoRow, standIns := [], harness := (true, "7575f45216af380a855434d7daddfbe25a1562800800c061b96a62513350e6a3"), looks := false }, kinds := [], alts := [], laidByText := true, laidKinds := [.data, .data, .data, .data, .data], laidTests := true, laidLooks := .later }
def PrinterOperatorsUptoCardSaid : Prop := Claim7.holds Tryd.pinned (.plain (OpenSpec.upto printerOperatorsSpec)) printerOperatorsUptoCard

/-- THE SECOND FORM's CARD OF 'clockworklaw09.PrinterJoins'. -/
def printerJoinsUptoCard : Claim7 := { stood := { row := printerJoinsUptoRow, standIns := [], harness := (true, "7575f45216af380a855434d7daddfbe25a1562800800c061b96a62513350e6a3"), looks := false }, kinds := [], alts := [], laidByText := true, laidKinds := [.data, .data, .data, .data, .data], laidTests := true, laidLooks := .later }
def PrinterJoinsUptoCardSaid : Prop := Claim7.holds Tryd.pinned (.plain (OpenSpec.upto printerJoinsSpec)) printerJoinsUptoCard
end Rows
end Go.Proofs.YtbmdadhbkdkgmaaDoor
