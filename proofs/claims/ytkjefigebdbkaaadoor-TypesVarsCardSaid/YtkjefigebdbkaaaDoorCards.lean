/-
  DERIVED. GIVEN WITH THE SEED: THE CARDS: each row of YtkjefigebdbkaaaDoorRows.lean that lists a variable, with what it lists TIED to the program's text (the seventh form; the later family's looks); each row that meets fmt, with fmt's text TOLD by the authors' own Lean function (tested against real Go, not proved from fmt's source: count such statements apart). THE CARD IS WHAT COUNTS. Prove the row's statement (the work); the ties are given (YtkjefigebdbkaaaDoorTie.lean); close each card by the builder's one call (the guide's Derived/Test/ToyasCard.lean, 'card_holds'). Laid BY PROGRAM, IN A SANDBOX (cutbox-door.mjs). By AI agents, Wed Nov 11 2026. No macro, syntax, notation, axiom, sorry.
-/
import Derived.Test.YtkjefigebdbkaaaDoorRows
import GoSem.ClaimSeven
namespace Go.Proofs.YtkjefigebdbkaaaDoor
namespace Rows

/-- THE TIED CARD OF 'clockworklaw11.TypesVars'. -/
def typesVarsCard : Claim7 := { stood := { row := typesVarsRow, standIns := [], harness := (true, "83b4a297d2360c800f5261489126072244e131310e834901a69035f9e560d1a1"), looks := false }, kinds := [], alts := [], laidByText := true, laidKinds := [.wider], laidTests := true, laidLooks := .later }
def TypesVarsCardSaid : Prop := Claim7.holds Tryd.pinned (.plain (OpenSpec.ofChange typesVarsSpec)) typesVarsCard

/-- THE TIED CARD OF 'clockworklaw13.CostBounds'. -/
def costBoundsCard : Claim7 := { stood := { row := costBoundsRow, standIns := [], harness := (true, "83b4a297d2360c800f5261489126072244e131310e834901a69035f9e560d1a1"), looks := false }, kinds := [], alts := [], laidByText := true, laidKinds := [.wider], laidTests := true, laidLooks := .later }
def CostBoundsCardSaid : Prop := Claim7.holds Tryd.pinned (.plain (OpenSpec.ofChange costBoundsSpec)) costBoundsCard

/-- THE TIED CARD OF 'clockworklaw13.CostRenames'. -/
def costRenamesCard : Claim7 := { stood := { row := costRenamesRow, standIns := [], harness := (true, "83b4a297d2360c800f5261489126072244e131310e834901a69035f9e560d1a1"), looks := false }, kinds := [], alts := [], laidByText := true, laidKinds := [.wider], laidTests := true, laidLooks := .later }
def CostRenamesCardSaid : Prop := Claim7.holds Tryd.pinned (.plain (OpenSpec.ofChange costRenamesSpec)) costRenamesCard

/-- THE TIED CARD OF 'clockworklaw13.CostLoops'. -/
def costLoopsCard : Claim7 := { stood := { row := costLoopsRow, standIns := [], harness := (true, "83b4a297d2360c800f5261489126072244e131310e834901a69035f9e560d1a1"), looks := false }, kinds := [], alts := [], laidByText := true, laidKinds := [.wider], laidTests := true, laidLooks := .later }
def CostLoopsCardSaid : Prop := Claim7.holds Tryd.pinned (.plain (OpenSpec.ofChange costLoopsSpec)) costLoopsCard

/-- THE SECOND FORM's CARD OF 'clockworklaw11.TypesVars'. -/
def typesVarsUptoCard : Claim7 := { stood := { row := typesVarsUptoRow, standIns := [], harness := (true, "83b4a297d2360c800f5261489126072244e131310e834901a69035f9e560d1a1"), looks := false }, kinds := [], alts := [], laidByText := true, laidKinds := [.wider], laidTests := true, laidLooks := .later }
def TypesVarsUptoCardSaid : Prop := Claim7.holds Tryd.pinned (.plain (OpenSpec.upto typesVarsSpec)) typesVarsUptoCard

/-- THE SECOND FORM's CARD OF 'clockworklaw13.CostBounds'. -/
def costBoundsUptoCard : Claim7 := { stood := { row := costBoundsUptoRow, standIns := [], harness := (true, "83b4a297d2360c800f5261489126072244e131310e834901a69035f9e560d1a1"), looks := false }, kinds := [], alts := [], laidByText := true, laidKinds := [.wider], laidTests := true, laidLooks := .later }
def CostBoundsUptoCardSaid : Prop := Claim7.holds Tryd.pinned (.plain (OpenSpec.upto costBoundsSpec)) costBoundsUptoCard

/-- THE SECOND FORM's CARD OF 'clockworklaw13.CostRenames'. -/
def costRenamesUptoCard : Claim7 := { stood := { row := costRenamesUptoRow, standIns := [], harness := (true, "83b4a297d2360c800f5261489126072244e131310e834901a69035f9e560d1a1"), looks := false }, kinds := [], alts := [], laidByText := true, laidKinds := [.wider], laidTests := true, laidLooks := .later }
def CostRenamesUptoCardSaid : Prop := Claim7.holds Tryd.pinned (.plain (OpenSpec.upto costRenamesSpec)) costRenamesUptoCard

/-- THE SECOND FORM's CARD OF 'clockworklaw13.CostLoops'. -/
def costLoopsUptoCard : Claim7 := { stood := { row := costLoopsUptoRow, standIns := [], harness := (true, "83b4a297d2360c800f5261489126072244e131310e834901a69035f9e560d1a1"), looks := false }, kinds := [], alts := [], laidByText := true, laidKinds := [.wider], laidTests := true, laidLooks := .later }
def CostLoopsUptoCardSaid : Prop := Claim7.holds Tryd.pinned (.plain (OpenSpec.upto costLoopsSpec)) costLoopsUptoCard
end Rows
end Go.Proofs.YtkjefigebdbkaaaDoor
