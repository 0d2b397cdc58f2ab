/-
  DERIVED. GIVEN WITH THE SEED: THE CARDS: each row of YtlebflphgeolfaaDoorRows.lean that lists a variable, with what it lists TIED to the program's text (the seventh form; the later family's looks); each row that meets fmt, with fmt's text TOLD by the authors' own Lean function (tested against real Go, not proved from fmt's source: count such statements apart). THE CARD IS WHAT COUNTS. Prove the row's statement (the work); the ties are given (YtlebflphgeolfaaDoorTie.lean); close each card by the builder's one call (the guide's Derived/Test/ToyasCard.lean, 'card_holds'). Laid BY PROGRAM, IN A SANDBOX (cutbox-door.mjs). By AI agents, Wed Nov 11 2026. No macro, syntax, notation, axiom, sorry.
-/
import Derived.Test.YtlebflphgeolfaaDoorRows
import GoSem.ClaimSeven
namespace Go.Proofs.YtlebflphgeolfaaDoor
namespace Rows

/-- THE TIED CARD OF 'clockworklaw11.TypesOf'. -/
def typesOfCard : Claim7 := { stood := { row := typesOfRow, standIns := [], harness := (true, "86fe6f02d98be5619404f670f9d4ec074bc1337cb73d767f27b0de4700a7cb4b"), looks := false }, kinds := [], alts := [], laidByText := true, laidKinds := [.wider], laidTests := true, laidLooks := .later }
def TypesOfCardSaid : Prop := Claim7.holds Tryd.pinned (.plain (OpenSpec.ofChange typesOfSpec)) typesOfCard

/-- THE TIED CARD OF 'clockworklaw11.TypesChecks'. -/
def typesChecksCard : Claim7 := { stood := { row := typesChecksRow, standIns := [], harness := (true, "86fe6f02d98be5619404f670f9d4ec074bc1337cb73d767f27b0de4700a7cb4b"), looks := false }, kinds := [], alts := [], laidByText := true, laidKinds := [.wider], laidTests := true, laidLooks := .later }
def TypesChecksCardSaid : Prop := Claim7.holds Tryd.pinned (.plain (OpenSpec.ofChange typesChecksSpec)) typesChecksCard

/-- THE TIED CARD OF 'clockworklaw11.TypesVars'. -/
def typesVarsCard : Claim7 := { stood := { row := typesVarsRow, standIns := [], harness := (true, "86fe6f02d98be5619404f670f9d4ec074bc1337cb73d767f27b0de4700a7cb4b"), looks := false }, kinds := [], alts := [], laidByText := true, laidKinds := [.wider], laidTests := true, laidLooks := .later }
def TypesVarsCardSaid : Prop := Claim7.holds Tryd.pinned (.plain (OpenSpec.ofChange typesVarsSpec)) typesVarsCard

/-- THE TIED CARD OF 'clockworklaw11.TypesArgs'. -/
def typesArgsCard : Claim7 := { stood := { row := typesArgsRow, standIns := [], harness := (true, "86fe6f02d98be5619404f670f9d4ec074bc1337cb73d767f27b0de4700a7cb4b"), looks := false }, kinds := [], alts := [], laidByText := true, laidKinds := [.wider], laidTests := true, laidLooks := .later }
def TypesArgsCardSaid : Prop := Claim7.holds Tryd.pinned (.plain (OpenSpec.ofChange typesArgsSpec)) typesArgsCard

/-- THE TIED CARD OF 'clockworklaw11.TypesScoped'. -/
def typesScopedCard : Claim7 := { stood := { row := typesScopedRow, standIns := [], harness := (true, "86fe6f02d98be5619404f670f9d4ec074bc1337cb73d767f27b0de4700a7cb4b"), looks := false }, kinds := [], alts := [], laidByText := true, laidKinds := [.wider], laidTests := true, laidLooks := .later }
def TypesScopedCardSaid : Prop := Claim7.holds Tryd.pinned (.plain (OpenSpec.ofChange typesScopedSpec)) typesScopedCard

/-- THE TIED CARD OF 'clockworklaw11.TypesRenames'. -/
def typesRenamesCard : Claim7 := { stood := { row := typesRenamesRow, standIns := [], harness := (true, "86fe6f02d98be5619404f670f9d4ec074bc1337cb73d767f27b0de4700a7cb4b"), looks := false }, kinds := [], alts := [], laidByText := true, laidKinds := [.wider], laidTests := true, laidLooks := .later }
def TypesRenamesCardSaid : Prop := Claim7.holds Tryd.pinned (.plain (OpenSpec.ofChange typesRenamesSpec)) typesRenamesCard

/-- THE TIED CARD OF 'clockworklaw11.TypesExtends'. -/
def typesExtendsCard : Claim7 := { stood := { row := typesExtendsRow, standIns := [], harness := (true, "86fe6f02d98be5619404f670f9d4ec074bc1337cb73d767f27b0de4700a7cb4b"), looks := false }, kinds := [], alts := [], laidByText := true, laidKinds := [.wider], laidTests := true, laidLooks := .later }
def TypesExtendsCardSaid : Prop := Claim7.holds Tryd.pinned (.plain (OpenSpec.ofChange typesExtendsSpec)) typesExtendsCard

/-- THE TIED CARD OF 'clockworklaw11.TypesStatements'. -/
def typesStatementsCard : Claim7 := { stood := { row := typesStatementsRow, standIns := [], harness := (true, "86fe6f02d98be5619404f670f9d4ec074bc1337cb73d767f27b0de4700a7cb4b"), looks := false }, kinds := [], alts := [], laidByText := true, laidKinds := [.wider], laidTests := true, laidLooks := .later }
def TypesStatementsCardSaid : Prop := Claim7.holds Tryd.pinned (.plain (OpenSpec.ofChange typesStatementsSpec)) typesStatementsCard

/-- THE SECOND FORM's CARD OF 'clockworklaw11.TypesOf'. -/
def typesOfUptoCard : Claim7 := { stood := { row := typesOfUptoRow, standIns := [], harness := (true, "86fe6f02d98be5619404f670f9d4ec074bc1337cb73d767f27b0de4700a7cb4b"), looks := false }, kinds := [], alts := [], laidByText := true, laidKinds := [.wider], laidTests := true, laidLooks := .later }
def TypesOfUptoCardSaid : Prop := Claim7.holds Tryd.pinned (.plain (OpenSpec.upto typesOfSpec)) typesOfUptoCard

/-- THE SECOND FORM's CARD OF 'clockworklaw11.TypesChecks'. -/
def typesChecksUptoCard : Claim7 := { stood := { row := typesChecksUptoRow, standIns := [], harness := (true, "86fe6f02d98be5619404f670f9d4ec074bc1337cb73d767f27b0de4700a7cb4b"), looks := false }, kinds := [], alts := [], laidByText := true, laidKinds := [.wider], laidTests := true, laidLooks := .later }
def TypesChecksUptoCardSaid : Prop := Claim7.holds Tryd.pinned (.plain (OpenSpec.upto typesChecksSpec)) typesChecksUptoCard

/-- THE SECOND FORM's CARD OF 'clockworklaw11.TypesVars'. -/
def typesVarsUptoCard : Claim7 := { stood := { row := typesVarsUptoRow, standIns := [], harness := (true, "86fe6f02d98be5619404f670f9d4ec074bc1337cb73d767f27b0de4700a7cb4b"), looks := false }, kinds := [], alts := [], laidByText := true, laidKinds := [.wider], laidTests := true, laidLooks := .later }
def TypesVarsUptoCardSaid : Prop := Claim7.holds Tryd.pinned (.plain (OpenSpec.upto typesVarsSpec)) typesVarsUptoCard

/-- THE SECOND FORM's CARD OF 'clockworklaw11.TypesArgs'. -/
def typesArgsUptoCard : Claim7 := { stood := { row := typesArgsUptoRow, standIns := [], harness := (true, "86fe6f02d98be5619404f670f9d4ec074bc1337cb73d767f27b0de4700a7cb4b"), looks := false }, kinds := [], alts := [], laidByText := true, laidKinds := [.wider], laidTests := true, laidLooks := .later }
def TypesArgsUptoCardSaid : Prop := Claim7.holds Tryd.pinned (.plain (OpenSpec.upto typesArgsSpec)) typesArgsUptoCard

/-- THE SECOND FORM's CARD OF 'clockworklaw11.TypesScoped'. -/
def typesScopedUptoCard : Claim7 := { stood := { row := typesScopedUptoRow, standIns := [], harness := (true, "86fe6f02d98be5619404f670f9d4ec074bc1337cb73d767f27b0de4700a7cb4b"), looks := false }, kinds := [], alts := [], laidByText := true, laidKinds := [.wider], laidTests := true, laidLooks := .later }
def TypesScopedUptoCardSaid : Prop := Claim7.holds Tryd.pinned (.plain (OpenSpec.upto typesScopedSpec)) typesScopedUptoCard

/-- THE SECOND FORM's CARD OF 'clockworklaw11.TypesRenames'. -/
def typesRenamesUptoCard : Claim7 := { stood := { row := typesRenamesUptoRow, standIns := [], harness := (true, "86fe6f02d98be5619404f670f9d4ec074bc1337cb73d767f27b0de4700a7cb4b"), looks := false }, kinds := [], alts := [], laidByText := true, laidKinds := [.wider], laidTests := true, laidLooks := .later }
def TypesRenamesUptoCardSaid : Prop := Claim7.holds Tryd.pinned (.plain (OpenSpec.upto typesRenamesSpec)) typesRenamesUptoCard

/-- THE SECOND FORM's CARD OF 'clockworklaw11.TypesExtends'. -/
def typesExtendsUptoCard : Claim7 := { stood := { row := typesExtendsUptoRow, standIns := [], harness := (true, "86fe6f02d98be5619404f670f9d4ec074bc1337cb73d767f27b0de4700a7cb4b"), looks := false }, kinds := [], alts := [], laidByText := true, laidKinds := [.wider], laidTests := true, laidLooks := .later }
def TypesExtendsUptoCardSaid : Prop := Claim7.holds Tryd.pinned (.plain (OpenSpec.upto typesExtendsSpec)) typesExtendsUptoCard

/-- THE SECOND FORM's CARD OF 'clockworklaw11.TypesStatements'. -/
def typesStatementsUptoCard : Claim7 := { stood := { row := typesStatementsUptoRow, standIns := [], harness := (true, "86fe6f02d98be5619404f670f9d4ec074bc1337cb73d767f27b0de4700a7cb4b"), looks := false }, kinds := [], alts := [], laidByText := true, laidKinds := [.wider], laidTests := true, laidLooks := .later }
def TypesStatementsUptoCardSaid : Prop := Claim7.holds Tryd.pinned (.plain (OpenSpec.upto typesStatementsSpec)) typesStatementsUptoCard
end Rows
end Go.Proofs.YtlebflphgeolfaaDoor
