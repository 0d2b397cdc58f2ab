/-
  DERIVED. GIVEN WITH THE SEED: THE CARDS: each row of YtgjnddjpinhkgaaDoorRows.lean that lists a variable, with what it lists TIED to the program's text (the seventh form; the later family's looks); each row that meets fmt, with fmt's text TOLD by the authors' own Lean function (tested against real Go, not proved from fmt's source: count such statements apart). THE CARD IS WHAT COUNTS. Prove the row's statement (the work); the ties are given (YtgjnddjpinhkgaaDoorTie.lean); close each card by the builder's one call (the guide's Derived/Test/ToyasCard.lean, 'card_holds'). Laid BY PROGRAM, IN A SANDBOX (cutbox-door.mjs). By AI agents, Wed Nov 11 2026. No macro, syntax, notation, axiom, sorry.
-/
import Derived.Test.YtgjnddjpinhkgaaDoorRows
import GoSem.ClaimSeven
namespace Go.Proofs.YtgjnddjpinhkgaaDoor
namespace Rows

/-- THE TIED CARD OF 'clockworklaw11.TypesChecks'. -/
def typesChecksCard : Claim7 := { stood := { row := typesChecksRow, standIns := [], harness := (true, "855a0dc166761a3afe27e2ebecf49aa1f65692bb26ec771e490d2c03be9a0f64"), looks := false }, kinds := [], alts := [], laidByText := true, laidKinds := [.wider], laidTests := true, laidLooks := .later }
def TypesChecksCardSaid : Prop := Claim7.holds Tryd.pinned (.plain (OpenSpec.ofChange typesChecksSpec)) typesChecksCard

/-- THE TIED CARD OF 'clockworklaw11.TypesVars'. -/
def typesVarsCard : Claim7 := { stood := { row := typesVarsRow, standIns := [], harness := (true, "855a0dc166761a3afe27e2ebecf49aa1f65692bb26ec771e490d2c03be9a0f64"), looks := false }, kinds := [], alts := [], laidByText := true, laidKinds := [.wider], laidTests := true, laidLooks := .later }
def TypesVarsCardSaid : Prop := Claim7.holds Tryd.pinned (.plain (OpenSpec.ofChange typesVarsSpec)) typesVarsCard

/-- THE TIED CARD OF 'clockworklaw11.TypesArgs'. -/
def typesArgsCard : Claim7 := { stood := { row := typesArgsRow, standIns := [], harness := (true, "855a0dc166761a3afe27e2ebecf49aa1f65692bb26ec771e490d2c03be9a0f64"), looks := false }, kinds := [], alts := [], laidByText := true, laidKinds := [.wider], laidTests := true, laidLooks := .later }
def TypesArgsCardSaid : Prop := Claim7.holds Tryd.pinned (.plain (OpenSpec.ofChange typesArgsSpec)) typesArgsCard

/-- THE TIED CARD OF 'clockworklaw11.TypesScoped'. -/
def typesScopedCard : Claim7 := { stood := { row := typesScopedRow, standIns := [], harness := (true, "855a0dc166761a3afe27e2ebecf49aa1f65692bb26ec771e490d2c03be9a0f64"), looks := false }, kinds := [], alts := [], laidByText := true, laidKinds := [.wider], laidTests := true, laidLooks := .later }
def TypesScopedCardSaid : Prop := Claim7.holds Tryd.pinned (.plain (OpenSpec.ofChange typesScopedSpec)) typesScopedCard

/-- THE TIED CARD OF 'clockworklaw11.TypesRenames'. -/
def typesRenamesCard : Claim7 := { stood := { row := typesRenamesRow, standIns := [], harness := (true, "855a0dc166761a3afe27e2ebecf49aa1f65692bb26ec771e490d2c03be9a0f64"), looks := false }, kinds := [], alts := [], laidByText := true, laidKinds := [.wider], laidTests := true, laidLooks := .later }
def TypesRenamesCardSaid : Prop := Claim7.holds Tryd.pinned (.plain (OpenSpec.ofChange typesRenamesSpec)) typesRenamesCard

/-- THE TIED CARD OF 'clockworklaw12.DeterminismSound'. -/
def determinismSoundCard : Claim7 := { stood := { row := determinismSoundRow, standIns := [], harness := (true, "855a0dc166761a3afe27e2ebecf49aa1f65692bb26ec771e490d2c03be9a0f64"), looks := false }, kinds := [], alts := [], laidByText := true, laidKinds := [.wider], laidTests := true, laidLooks := .later }
def DeterminismSoundCardSaid : Prop := Claim7.holds Tryd.pinned (.plain (OpenSpec.ofChange determinismSoundSpec)) determinismSoundCard

/-- THE TIED CARD OF 'clockworklaw12.DeterminismReplaced'. -/
def determinismReplacedCard : Claim7 := { stood := { row := determinismReplacedRow, standIns := [], harness := (true, "855a0dc166761a3afe27e2ebecf49aa1f65692bb26ec771e490d2c03be9a0f64"), looks := false }, kinds := [], alts := [], laidByText := true, laidKinds := [.wider], laidTests := true, laidLooks := .later }
def DeterminismReplacedCardSaid : Prop := Claim7.holds Tryd.pinned (.plain (OpenSpec.ofChange determinismReplacedSpec)) determinismReplacedCard

/-- THE SECOND FORM's CARD OF 'clockworklaw11.TypesChecks'. -/
def typesChecksUptoCard : Claim7 := { stood := { row := typesChecksUptoRow, standIns := [], harness := (true, "855a0dc166761a3afe27e2ebecf49aa1f65692bb26ec771e490d2c03be9a0f64"), looks := false }, kinds := [], alts := [], laidByText := true, laidKinds := [.wider], laidTests := true, laidLooks := .later }
def TypesChecksUptoCardSaid : Prop := Claim7.holds Tryd.pinned (.plain (OpenSpec.upto typesChecksSpec)) typesChecksUptoCard

/-- THE SECOND FORM's CARD OF 'clockworklaw11.TypesVars'. -/
def typesVarsUptoCard : Claim7 := { stood := { row := typesVarsUptoRow, standIns := [], harness := (true, "855a0dc166761a3afe27e2ebecf49aa1f65692bb26ec771e490d2c03be9a0f64"), looks := false }, kinds := [], alts := [], laidByText := true, laidKinds := [.wider], laidTests := true, laidLooks := .later }
def TypesVarsUptoCardSaid : Prop := Claim7.holds Tryd.pinned (.plain (OpenSpec.upto typesVarsSpec)) typesVarsUptoCard

/-- THE SECOND FORM's CARD OF 'clockworklaw11.TypesArgs'. -/
def typesArgsUptoCard : Claim7 := { stood := { row := typesArgsUptoRow, standIns := [], harness := (true, "855a0dc166761a3afe27e2ebecf49aa1f65692bb26ec771e490d2c03be9a0f64"), looks := false }, kinds := [], alts := [], laidByText := true, laidKinds := [.wider], laidTests := true, laidLooks := .later }
def TypesArgsUptoCardSaid : Prop := Claim7.holds Tryd.pinned (.plain (OpenSpec.upto typesArgsSpec)) typesArgsUptoCard

/-- THE SECOND FORM's CARD OF 'clockworklaw11.TypesScoped'. -/
def typesScopedUptoCard : Claim7 := { stood := { row := typesScopedUptoRow, standIns := [], harness := (true, "855a0dc166761a3afe27e2ebecf49aa1f65692bb26ec771e490d2c03be9a0f64"), looks := false }, kinds := [], alts := [], laidByText := true, laidKinds := [.wider], laidTests := true, laidLooks := .later }
def TypesScopedUptoCardSaid : Prop := Claim7.holds Tryd.pinned (.plain (OpenSpec.upto typesScopedSpec)) typesScopedUptoCard

/-- THE SECOND FORM's CARD OF 'clockworklaw11.TypesRenames'. -/
def typesRenamesUptoCard : Claim7 := { stood := { row := typesRenamesUptoRow, standIns := [], harness := (true, "855a0dc166761a3afe27e2ebecf49aa1f65692bb26ec771e490d2c03be9a0f64"), looks := false }, kinds := [], alts := [], laidByText := true, laidKinds := [.wider], laidTests := true, laidLooks := .later }
def TypesRenamesUptoCardSaid : Prop := Claim7.holds Tryd.pinned (.plain (OpenSpec.upto typesRenamesSpec)) typesRenamesUptoCard

/-- THE SECOND FORM's CARD OF 'clockworklaw12.DeterminismSound'. -/
def determinismSoundUptoCard : Claim7 := { stood := { row := determinismSoundUptoRow, standIns := [], harness := (true, "855a0dc166761a3afe27e2ebecf49aa1f65692bb26ec771e490d2c03be9a0f64"), looks := false }, kinds := [], alts := [], laidByText := true, laidKinds := [.wider], laidTests := true, laidLooks := .later }
def DeterminismSoundUptoCardSaid : Prop := Claim7.holds Tryd.pinned (.plain (OpenSpec.upto determinismSoundSpec)) determinismSoundUptoCard

/-- THE SECOND FORM's CARD OF 'clockworklaw12.DeterminismReplaced'. -/
def determinismReplacedUptoCard : Claim7 := { stood := { row := determinismReplacedUptoRow, standIns := [], harness := (true, "855a0dc166761a3afe27e2ebecf49aa1f65692bb26ec771e490d2c03be9a0f64"), looks := false }, kinds := [], alts := [], laidByText := true, laidKinds := [.wider], laidTests := true, laidLooks := .later }
def DeterminismReplacedUptoCardSaid : Prop := Claim7.holds Tryd.pinned (.plain (OpenSpec.upto determinismReplacedSpec)) determinismReplacedUptoCard
end Rows
end Go.Proofs.YtgjnddjpinhkgaaDoor
