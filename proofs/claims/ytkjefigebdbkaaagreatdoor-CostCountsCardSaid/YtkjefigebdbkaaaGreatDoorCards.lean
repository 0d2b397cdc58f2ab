/-
  DERIVED. GIVEN WITH THE SEED: THE CARDS: each row of YtkjefigebdbkaaaGreatDoorRows.lean that lists a variable, with what it lists TIED to the program's text (the seventh form; the later family's looks); each row that meets fmt, with fmt's text TOLD by the authors' own Lean function (tested against real Go, not proved from fmt's source: count such statements apart). THE CARD IS WHAT COUNTS. Prove the row's statement (the work); the ties are given (YtkjefigebdbkaaaGreatDoorTie.lean); close each card by the builder's one call (the guide's Derived/Test/ToyasCard.lean, 'card_holds'). Laid BY PROGRAM, IN A SANDBOX (cutbox-door.mjs). By AI agents, Wed Nov 11 2026. No macro, syntax, notation, axiom, sorry.
-/
import Derived.Test.YtkjefigebdbkaaaGreatDoorRows
import GoSem.ClaimSeven
namespace Go.Proofs.YtkjefigebdbkaaaGreatDoor
namespace Rows

/-- THE TIED CARD OF 'clockworklaw12.DeterminismChecks'. -/
def determinismChecksCard : Claim7 := { stood := { row := determinismChecksRow, standIns := [], harness := (true, "5d5925dcb3491442df35da830af479cb0eeb4759568ecf7dc72701edbc0166ba"), looks := false }, kinds := [], alts := [], laidByText := true, laidKinds := [.wider], laidTests := true, laidLooks := .later }
def DeterminismChecksCardSaid : Prop := Claim7.holds Tryz.pinned (.plain (OpenSpec.ofChange determinismChecksSpec)) determinismChecksCard

/-- THE TIED CARD OF 'clockworklaw13.CostCounts'. -/
def costCountsCard : Claim7 := { stood := { row := costCountsRow, standIns := [], harness := (true, "5d5925dcb3491442df35da830af479cb0eeb4759568ecf7dc72701edbc0166ba"), looks := false }, kinds := [], alts := [], laidByText := true, laidKinds := [.wider], laidTests := true, laidLooks := .later }
def CostCountsCardSaid : Prop := Claim7.holds Tryz.pinned (.plain (OpenSpec.ofChange costCountsSpec)) costCountsCard

/-- THE TIED CARD OF 'clockworklaw13.CostChecks'. -/
def costChecksCard : Claim7 := { stood := { row := costChecksRow, standIns := [], harness := (true, "5d5925dcb3491442df35da830af479cb0eeb4759568ecf7dc72701edbc0166ba"), looks := false }, kinds := [], alts := [], laidByText := true, laidKinds := [.wider], laidTests := true, laidLooks := .later }
def CostChecksCardSaid : Prop := Claim7.holds Tryz.pinned (.plain (OpenSpec.ofChange costChecksSpec)) costChecksCard

/-- THE SECOND FORM's CARD OF 'clockworklaw12.DeterminismChecks'. -/
def determinismChecksUptoCard : Claim7 := { stood := { row := determinismChecksUptoRow, standIns := [], harness := (true, "5d5925dcb3491442df35da830af479cb0eeb4759568ecf7dc72701edbc0166ba"), looks := false }, kinds := [], alts := [], laidByText := true, laidKinds := [.wider], laidTests := true, laidLooks := .later }
def DeterminismChecksUptoCardSaid : Prop := Claim7.holds Tryz.pinned (.plain (OpenSpec.upto determinismChecksSpec)) determinismChecksUptoCard

/-- THE SECOND FORM's CARD OF 'clockworklaw13.CostCounts'. -/
def costCountsUptoCard : Claim7 := { stood := { row := costCountsUptoRow, standIns := [], harness := (true, "5d5925dcb3491442df35da830af479cb0eeb4759568ecf7dc72701edbc0166ba"), looks := false }, kinds := [], alts := [], laidByText := true, laidKinds := [.wider], laidTests := true, laidLooks := .later }
def CostCountsUptoCardSaid : Prop := Claim7.holds Tryz.pinned (.plain (OpenSpec.upto costCountsSpec)) costCountsUptoCard

/-- THE SECOND FORM's CARD OF 'clockworklaw13.CostChecks'. -/
def costChecksUptoCard : Claim7 := { stood := { row := costChecksUptoRow, standIns := [], harness := (true, "5d5925dcb3491442df35da830af479cb0eeb4759568ecf7dc72701edbc0166ba"), looks := false }, kinds := [], alts := [], laidByText := true, laidKinds := [.wider], laidTests := true, laidLooks := .later }
def CostChecksUptoCardSaid : Prop := Claim7.holds Tryz.pinned (.plain (OpenSpec.upto costChecksSpec)) costChecksUptoCard
end Rows
end Go.Proofs.YtkjefigebdbkaaaGreatDoor
