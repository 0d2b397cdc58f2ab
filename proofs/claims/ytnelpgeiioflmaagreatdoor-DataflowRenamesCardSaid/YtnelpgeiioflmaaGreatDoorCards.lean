/-
  DERIVED. GIVEN WITH THE SEED: THE CARDS: each row of YtnelpgeiioflmaaGreatDoorRows.lean that lists a variable, with what it lists TIED to the program's text (the seventh form; the later family's looks); each row that meets fmt, with fmt's text TOLD by the authors' own Lean function (tested against real Go, not proved from fmt's source: count such statements apart). THE CARD IS WHAT COUNTS. Prove the row's statement (the work); the ties are given (YtnelpgeiioflmaaGreatDoorTie.lean); close each card by the builder's one call (the guide's Derived/Test/ToyasCard.lean, 'card_holds'). Laid BY PROGRAM, IN A SANDBOX (cutbox-door.mjs). By AI agents, Wed Nov 11 2026. No macro, syntax, notation, axiom, sorry.
-/
import Derived.Test.YtnelpgeiioflmaaGreatDoorRows
import GoSem.ClaimSeven
namespace Go.Proofs.YtnelpgeiioflmaaGreatDoor
namespace Rows

/-- THE TIED CARD OF 'clockworklaw14.DataflowTaints'. -/
def dataflowTaintsCard : Claim7 := { stood := { row := dataflowTaintsRow, standIns := [], harness := (true, "0a5f751a377aa363afa8b69b6f8ff358535114f703d6f59ab8f809bd2bc91b0e"), looks := false }, kinds := [], alts := [], laidByText := true, laidKinds := [.wider], laidTests := true, laidLooks := .later }
def DataflowTaintsCardSaid : Prop := Claim7.holds Tryz.pinned (.plain (OpenSpec.ofChange dataflowTaintsSpec)) dataflowTaintsCard

/-- THE TIED CARD OF 'clockworklaw14.DataflowBranches'. -/
def dataflowBranchesCard : Claim7 := { stood := { row := dataflowBranchesRow, standIns := [], harness := (true, "0a5f751a377aa363afa8b69b6f8ff358535114f703d6f59ab8f809bd2bc91b0e"), looks := false }, kinds := [], alts := [], laidByText := true, laidKinds := [.wider], laidTests := true, laidLooks := .later }
def DataflowBranchesCardSaid : Prop := Claim7.holds Tryz.pinned (.plain (OpenSpec.ofChange dataflowBranchesSpec)) dataflowBranchesCard

/-- THE TIED CARD OF 'clockworklaw14.DataflowClosed'. -/
def dataflowClosedCard : Claim7 := { stood := { row := dataflowClosedRow, standIns := [], harness := (true, "0a5f751a377aa363afa8b69b6f8ff358535114f703d6f59ab8f809bd2bc91b0e"), looks := false }, kinds := [], alts := [], laidByText := true, laidKinds := [.wider], laidTests := true, laidLooks := .later }
def DataflowClosedCardSaid : Prop := Claim7.holds Tryz.pinned (.plain (OpenSpec.ofChange dataflowClosedSpec)) dataflowClosedCard

/-- THE TIED CARD OF 'clockworklaw14.DataflowPure'. -/
def dataflowPureCard : Claim7 := { stood := { row := dataflowPureRow, standIns := [], harness := (true, "0a5f751a377aa363afa8b69b6f8ff358535114f703d6f59ab8f809bd2bc91b0e"), looks := false }, kinds := [], alts := [], laidByText := true, laidKinds := [.wider], laidTests := true, laidLooks := .later }
def DataflowPureCardSaid : Prop := Claim7.holds Tryz.pinned (.plain (OpenSpec.ofChange dataflowPureSpec)) dataflowPureCard

/-- THE TIED CARD OF 'clockworklaw14.DataflowRenames'. -/
def dataflowRenamesCard : Claim7 := { stood := { row := dataflowRenamesRow, standIns := [], harness := (true, "0a5f751a377aa363afa8b69b6f8ff358535114f703d6f59ab8f809bd2bc91b0e"), looks := false }, kinds := [], alts := [], laidByText := true, laidKinds := [.wider], laidTests := true, laidLooks := .later }
def DataflowRenamesCardSaid : Prop := Claim7.holds Tryz.pinned (.plain (OpenSpec.ofChange dataflowRenamesSpec)) dataflowRenamesCard

/-- THE TIED CARD OF 'clockworklaw14.DataflowParams'. -/
def dataflowParamsCard : Claim7 := { stood := { row := dataflowParamsRow, standIns := [], harness := (true, "0a5f751a377aa363afa8b69b6f8ff358535114f703d6f59ab8f809bd2bc91b0e"), looks := false }, kinds := [], alts := [], laidByText := true, laidKinds := [.wider], laidTests := true, laidLooks := .later }
def DataflowParamsCardSaid : Prop := Claim7.holds Tryz.pinned (.plain (OpenSpec.ofChange dataflowParamsSpec)) dataflowParamsCard

/-- THE SECOND FORM's CARD OF 'clockworklaw14.DataflowTaints'. -/
def dataflowTaintsUptoCard : Claim7 := { stood := { row := dataflowTaintsUptoRow, standIns := [], harness := (true, "0a5f751a377aa363afa8b69b6f8ff358535114f703d6f59ab8f809bd2bc91b0e"), looks := false }, kinds := [], alts := [], laidByText := true, laidKinds := [.wider], laidTests := true, laidLooks := .later }
def DataflowTaintsUptoCardSaid : Prop := Claim7.holds Tryz.pinned (.plain (OpenSpec.upto dataflowTaintsSpec)) dataflowTaintsUptoCard

/-- THE SECOND FORM's CARD OF 'clockworklaw14.DataflowBranches'. -/
def dataflowBranchesUptoCard : Claim7 := { stood := { row := dataflowBranchesUptoRow, standIns := [], harness := (true, "0a5f751a377aa363afa8b69b6f8ff358535114f703d6f59ab8f809bd2bc91b0e"), looks := false }, kinds := [], alts := [], laidByText := true, laidKinds := [.wider], laidTests := true, laidLooks := .later }
def DataflowBranchesUptoCardSaid : Prop := Claim7.holds Tryz.pinned (.plain (OpenSpec.upto dataflowBranchesSpec)) dataflowBranchesUptoCard

/-- THE SECOND FORM's CARD OF 'clockworklaw14.DataflowClosed'. -/
def dataflowClosedUptoCard : Claim7 := { stood := { row := dataflowClosedUptoRow, standIns := [], harness := (true, "0a5f751a377aa363afa8b69b6f8ff358535114f703d6f59ab8f809bd2bc91b0e"), looks := false }, kinds := [], alts := [], laidByText := true, laidKinds := [.wider], laidTests := true, laidLooks := .later }
def DataflowClosedUptoCardSaid : Prop := Claim7.holds Tryz.pinned (.plain (OpenSpec.upto dataflowClosedSpec)) dataflowClosedUptoCard

/-- THE SECOND FORM's CARD OF 'clockworklaw14.DataflowPure'. -/
def dataflowPureUptoCard : Claim7 := { stood := { row := dataflowPureUptoRow, standIns := [], harness := (true, "0a5f751a377aa363afa8b69b6f8ff358535114f703d6f59ab8f809bd2bc91b0e"), looks := false }, kinds := [], alts := [], laidByText := true, laidKinds := [.wider], laidTests := true, laidLooks := .later }
def DataflowPureUptoCardSaid : Prop := Claim7.holds Tryz.pinned (.plain (OpenSpec.upto dataflowPureSpec)) dataflowPureUptoCard

/-- THE SECOND FORM's CARD OF 'clockworklaw14.DataflowRenames'. -/
def dataflowRenamesUptoCard : Claim7 := { stood := { row := dataflowRenamesUptoRow, standIns := [], harness := (true, "0a5f751a377aa363afa8b69b6f8ff358535114f703d6f59ab8f809bd2bc91b0e"), looks := false }, kinds := [], alts := [], laidByText := true, laidKinds := [.wider], laidTests := true, laidLooks := .later }
def DataflowRenamesUptoCardSaid : Prop := Claim7.holds Tryz.pinned (.plain (OpenSpec.upto dataflowRenamesSpec)) dataflowRenamesUptoCard

/-- THE SECOND FORM's CARD OF 'clockworklaw14.DataflowParams'. -/
def dataflowParamsUptoCard : Claim7 := { stood := { row := dataflowParamsUptoRow, standIns := [], harness := (true, "0a5f751a377aa363afa8b69b6f8ff358535114f703d6f59ab8f809bd2bc91b0e"), looks := false }, kinds := [], alts := [], laidByText := true, laidKinds := [.wider], laidTests := true, laidLooks := .later }
def DataflowParamsUptoCardSaid : Prop := Claim7.holds Tryz.pinned (.plain (OpenSpec.upto dataflowParamsSpec)) dataflowParamsUptoCard
end Rows
end Go.Proofs.YtnelpgeiioflmaaGreatDoor
