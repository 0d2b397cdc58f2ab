/-
  NARROWER THAN 'FOR EVERY INPUT', by the rows' own cells (each row's printed sentence says how): TypesOf: loops, laid · TypesChecks: loops, laid · TypesVars: loops, laid · TypesArgs: loops, laid · TypesScoped: loops, laid · TypesRenames: loops, laid · TypesExtends: loops, laid · TypesStatements: loops, laid.
  DERIVED. THE GIVEN ROWS OF THIS SEAT. 8 by the template 'for every input the law returns true; each argument reads behind the call as it read before'; 0 by the template 'total and deterministic' (their statements: YtlebflphgeolfaaDoorTotals.lean).
  GIVEN WITH THE SEED: the statements are not yours to turn. If you find one false, say at which input.
  Laid BY PROGRAM, IN A SANDBOX (cutbox-rows.mjs): the forced cells as the released guide's own fill.sh prints them over the translation 335bdefd23ef7a23… (all of the seat's roots in one cut). By AI agents, Wed Nov 11 2026. No macro, syntax, notation, axiom, sorry.
-/
import Derived.Test.YtlebflphgeolfaaDoorChecked
import GoSem.Claim
import GoSem.ClaimJoined
import GoSem.ClaimMapViews
import Derived.JoinedTies
import Derived.KernelRfl
namespace Go.Proofs.YtlebflphgeolfaaDoor
/- THE CELL 'sum', in the pinned program and in every row, IS THE sha256 OF THE DUMP (.gsa) THAT YtlebflphgeolfaaDoorProg.lean LOADS. Nothing in Lean hashes anything: it is a label: what it is worth is what the hold of that sum in a sandbox is worth. -/
noncomputable def Tryd.pinned : Pinned := { name := "ytlebflphgeolfaadoor", sum := "335bdefd23ef7a237eea3a5534c9eb49d70424e63619ae60e8c0dce1cbc61e30", checked := Tryd.checked }
namespace Rows
def none {H : Type} : Left H := { results := [], args := [] }

/- WHAT THE LISTED PACKAGE-LEVEL VARIABLES READ AS WHEN THE CALL BEGINS. Each datum BY PROGRAM (the guide's laid-datum.mjs) off the statement by which the dump's own 'gosem.cut.vars' lays the variable. In a bare row this is a premise. The card (YtlebflphgeolfaaDoorCards.lean) ties it to the program's text. -/
def laid_clockwork_types_operators {H : Type} : DataW H := .agg [.agg [.lit (.int .i64 0), .lit (.int .i64 0)], .agg [.lit (.int .i64 0), .lit (.int .i64 1)], .agg [.lit (.int .i64 0), .lit (.int .i64 2)], .agg [.lit (.int .i64 0), .lit (.int .i64 0)], .agg [.lit (.int .i64 2), .lit (.int .i64 1)], .agg [.lit (.int .i64 2), .lit (.int .i64 1)], .agg [.lit (.int .i64 2), .lit (.int .i64 1)], .agg [.lit (.int .i64 2), .lit (.int .i64 1)], .agg [.lit (.int .i64 2), .lit (.int .i64 1)], .agg [.lit (.int .i64 2), .lit (.int .i64 1)], .agg [.lit (.int .i64 14), .lit (.int .i64 3)], .agg [.lit (.int .i64 14), .lit (.int .i64 3)], .agg [.lit (.int .i64 6), .lit (.int .i64 3)], .agg [.lit (.int .i64 6), .lit (.int .i64 3)], .agg [.lit (.int .i64 6), .lit (.int .i64 3)], .agg [.lit (.int .i64 6), .lit (.int .i64 3)], .agg [.lit (.int .i64 8), .lit (.int .i64 3)], .agg [.lit (.int .i64 8), .lit (.int .i64 3)], .agg [.lit (.int .i64 8), .lit (.int .i64 3)], .agg [.lit (.int .i64 4), .lit (.int .i64 2)], .agg [.lit (.int .i64 2), .lit (.int .i64 2)], .agg [.lit (.int .i64 4), .lit (.int .i64 1)], .agg [.lit (.int .i64 4), .lit (.int .i64 1)], .agg [.lit (.int .i64 4), .lit (.int .i64 2)], .agg [.lit (.int .i64 4), .lit (.int .i64 3)], .agg [.lit (.int .i64 0), .lit (.int .i64 1)], .agg [.lit (.int .i64 0), .lit (.int .i64 1)], .agg [.lit (.int .i64 0), .lit (.int .i64 1)]]

/-- 'clockworklaw11.TypesOf': WHATEVER THE INPUT: true; the input reads as it did. -/
def typesOfSpec : ChangeSpec := { name := "typesOf", fn := fun _ => fun
  | [d1, d2] => { results := [.lit (.bool true)], args := [d1, d2] }
  | _ => none }
def typesOfRow : OpenClaim := { program := "ytlebflphgeolfaadoor", sum := "335bdefd23ef7a237eea3a5534c9eb49d70424e63619ae60e8c0dce1cbc61e30", func := "clockwork/clockworklaw11.TypesOf", spec := "typesOf", unfollowed := true, recurses := true, named := ["clockwork/types.operators"], loops := true, apart := false, laid := [("clockwork/types.operators", laid_clockwork_types_operators)] }
def TypesOfSaid : Prop := typesOfRow.holds Tryd.pinned (OpenSpec.ofChange typesOfSpec)

/-- ITS FALSE NEIGHBOUR: 'it returns false'. Refute it at one input. -/
def typesOfWrong : ChangeSpec := { name := "typesOf", fn := fun _ => fun
  | [d1, d2] => { results := [.lit (.bool false)], args := [d1, d2] }
  | _ => none }
def TypesOfWrongFalsely : Prop := typesOfRow.holds Tryd.pinned (OpenSpec.ofChange typesOfWrong)

/-- 'clockworklaw11.TypesChecks': WHATEVER THE INPUT: true; the input reads as it did. -/
def typesChecksSpec : ChangeSpec := { name := "typesChecks", fn := fun _ => fun
  | [d] => { results := [.lit (.bool true)], args := [d] }
  | _ => none }
def typesChecksRow : OpenClaim := { program := "ytlebflphgeolfaadoor", sum := "335bdefd23ef7a237eea3a5534c9eb49d70424e63619ae60e8c0dce1cbc61e30", func := "clockwork/clockworklaw11.TypesChecks", spec := "typesChecks", unfollowed := true, recurses := true, named := ["clockwork/types.operators"], loops := true, apart := false, laid := [("clockwork/types.operators", laid_clockwork_types_operators)] }
def TypesChecksSaid : Prop := typesChecksRow.holds Tryd.pinned (OpenSpec.ofChange typesChecksSpec)

/-- ITS FALSE NEIGHBOUR: 'it returns false'. Refute it at one input. -/
def typesChecksWrong : ChangeSpec := { name := "typesChecks", fn := fun _ => fun
  | [d] => { results := [.lit (.bool false)], args := [d] }
  | _ => none }
def TypesChecksWrongFalsely : Prop := typesChecksRow.holds Tryd.pinned (OpenSpec.ofChange typesChecksWrong)

/-- 'clockworklaw11.TypesVars': WHATEVER THE INPUT: true; the input reads as it did. -/
def typesVarsSpec : ChangeSpec := { name := "typesVars", fn := fun _ => fun
  | [d] => { results := [.lit (.bool true)], args := [d] }
  | _ => none }
def typesVarsRow : OpenClaim := { program := "ytlebflphgeolfaadoor", sum := "335bdefd23ef7a237eea3a5534c9eb49d70424e63619ae60e8c0dce1cbc61e30", func := "clockwork/clockworklaw11.TypesVars", spec := "typesVars", unfollowed := true, recurses := true, named := ["clockwork/types.operators"], loops := true, apart := false, laid := [("clockwork/types.operators", laid_clockwork_types_operators)] }
def TypesVarsSaid : Prop := typesVarsRow.holds Tryd.pinned (OpenSpec.ofChange typesVarsSpec)

/-- ITS FALSE NEIGHBOUR: 'it returns false'. Refute it at one input. -/
def typesVarsWrong : ChangeSpec := { name := "typesVars", fn := fun _ => fun
  | [d] => { results := [.lit (.bool false)], args := [d] }
  | _ => none }
def TypesVarsWrongFalsely : Prop := typesVarsRow.holds Tryd.pinned (OpenSpec.ofChange typesVarsWrong)

/-- 'clockworklaw11.TypesArgs': WHATEVER THE INPUT: true; the input reads as it did. -/
def typesArgsSpec : ChangeSpec := { name := "typesArgs", fn := fun _ => fun
  | [d1, d2] => { results := [.lit (.bool true)], args := [d1, d2] }
  | _ => none }
def typesArgsRow : OpenClaim := { program := "ytlebflphgeolfaadoor", sum := "335bdefd23ef7a237eea3a5534c9eb49d70424e63619ae60e8c0dce1cbc61e30", func := "clockwork/clockworklaw11.TypesArgs", spec := "typesArgs", unfollowed := true, recurses := true, named := ["clockwork/types.operators"], loops := true, apart := false, laid := [("clockwork/types.operators", laid_clockwork_types_operators)] }
def TypesArgsSaid : Prop := typesArgsRow.holds Tryd.pinned (OpenSpec.ofChange typesArgsSpec)

/-- ITS FALSE NEIGHBOUR: 'it returns false'. Refute it at one input. -/
def typesArgsWrong : ChangeSpec := { name := "typesArgs", fn := fun _ => fun
  | [d1, d2] => { results := [.lit (.bool false)], args := [d1, d2] }
  | _ => none }
def TypesArgsWrongFalsely : Prop := typesArgsRow.holds Tryd.pinned (OpenSpec.ofChange typesArgsWrong)

/-- 'clockworklaw11.TypesScoped': WHATEVER THE INPUT: true; the input reads as it did. -/
def typesScopedSpec : ChangeSpec := { name := "typesScoped", fn := fun _ => fun
  | [d] => { results := [.lit (.bool true)], args := [d] }
  | _ => none }
def typesScopedRow : OpenClaim := { program := "ytlebflphgeolfaadoor", sum := "335bdefd23ef7a237eea3a5534c9eb49d70424e63619ae60e8c0dce1cbc61e30", func := "clockwork/clockworklaw11.TypesScoped", spec := "typesScoped", unfollowed := true, recurses := true, named := ["clockwork/types.operators"], loops := true, apart := false, laid := [("clockwork/types.operators", laid_clockwork_types_operators)] }
def TypesScopedSaid : Prop := typesScopedRow.holds Tryd.pinned (OpenSpec.ofChange typesScopedSpec)

/-- ITS FALSE NEIGHBOUR: 'it returns false'. Refute it at one input. -/
def typesScopedWrong : ChangeSpec := { name := "typesScoped", fn := fun _ => fun
  | [d] => { results := [.lit (.bool false)], args := [d] }
  | _ => none }
def TypesScopedWrongFalsely : Prop := typesScopedRow.holds Tryd.pinned (OpenSpec.ofChange typesScopedWrong)

/-- 'clockworklaw11.TypesRenames': WHATEVER THE INPUT: true; the input reads as it did. -/
def typesRenamesSpec : ChangeSpec := { name := "typesRenames", fn := fun _ => fun
  | [d1, d2, d3] => { results := [.lit (.bool true)], args := [d1, d2, d3] }
  | _ => none }
def typesRenamesRow : OpenClaim := { program := "ytlebflphgeolfaadoor", sum := "335bdefd23ef7a237eea3a5534c9eb49d70424e63619ae60e8c0dce1cbc61e30", func := "clockwork/clockworklaw11.TypesRenames", spec := "typesRenames", unfollowed := true, recurses := true, named := ["clockwork/types.operators"], loops := true, apart := false, laid := [("clockwork/types.operators", laid_clockwork_types_operators)] }
def TypesRenamesSaid : Prop := typesRenamesRow.holds Tryd.pinned (OpenSpec.ofChange typesRenamesSpec)

/-- ITS FALSE NEIGHBOUR: 'it returns false'. Refute it at one input. -/
def typesRenamesWrong : ChangeSpec := { name := "typesRenames", fn := fun _ => fun
  | [d1, d2, d3] => { results := [.lit (.bool false)], args := [d1, d2, d3] }
  | _ => none }
def TypesRenamesWrongFalsely : Prop := typesRenamesRow.holds Tryd.pinned (OpenSpec.ofChange typesRenamesWrong)

/-- 'clockworklaw11.TypesExtends': WHATEVER THE INPUT: true; the input reads as it did. -/
def typesExtendsSpec : ChangeSpec := { name := "typesExtends", fn := fun _ => fun
  | [d1, d2, d3] => { results := [.lit (.bool true)], args := [d1, d2, d3] }
  | _ => none }
def typesExtendsRow : OpenClaim := { program := "ytlebflphgeolfaadoor", sum := "335bdefd23ef7a237eea3a5534c9eb49d70424e63619ae60e8c0dce1cbc61e30", func := "clockwork/clockworklaw11.TypesExtends", spec := "typesExtends", unfollowed := true, recurses := true, named := ["clockwork/types.operators"], loops := true, apart := false, laid := [("clockwork/types.operators", laid_clockwork_types_operators)] }
def TypesExtendsSaid : Prop := typesExtendsRow.holds Tryd.pinned (OpenSpec.ofChange typesExtendsSpec)

/-- ITS FALSE NEIGHBOUR: 'it returns false'. Refute it at one input. -/
def typesExtendsWrong : ChangeSpec := { name := "typesExtends", fn := fun _ => fun
  | [d1, d2, d3] => { results := [.lit (.bool false)], args := [d1, d2, d3] }
  | _ => none }
def TypesExtendsWrongFalsely : Prop := typesExtendsRow.holds Tryd.pinned (OpenSpec.ofChange typesExtendsWrong)

/-- 'clockworklaw11.TypesStatements': WHATEVER THE INPUT: true; the input reads as it did. -/
def typesStatementsSpec : ChangeSpec := { name := "typesStatements", fn := fun _ => fun
  | [d] => { results := [.lit (.bool true)], args := [d] }
  | _ => none }
def typesStatementsRow : OpenClaim := { program := "ytlebflphgeolfaadoor", sum := "335bdefd23ef7a237eea3a5534c9eb49d70424e63619ae60e8c0dce1cbc61e30", func := "clockwork/clockworklaw11.TypesStatements", spec := "typesStatements", unfollowed := true, recurses := true, named := ["clockwork/types.operators"], loops := true, apart := false, laid := [("clockwork/types.operators", laid_clockwork_types_operators)] }
def TypesStatementsSaid : Prop := typesStatementsRow.holds Tryd.pinned (OpenSpec.ofChange typesStatementsSpec)

/-- ITS FALSE NEIGHBOUR: 'it returns false'. Refute it at one input. -/
def typesStatementsWrong : ChangeSpec := { name := "typesStatements", fn := fun _ => fun
  | [d] => { results := [.lit (.bool false)], args := [d] }
  | _ => none }
def TypesStatementsWrongFalsely : Prop := typesStatementsRow.holds Tryd.pinned (OpenSpec.ofChange typesStatementsWrong)

/- THE SECOND FORM. 'bulk': how many values and letters a reading holds, each counted each time it is reached (what is shared counts as often as it is met; a slice's spare places count too). A statement '..UptoSaid' is the law's where the arguments, and the package variables that the reading takes, are together of bulk at most 1048576: NARROWER than '..Said'. Prove '..Said' where nothing that the law and all that it calls make is longer than what came in: it says more and counts as full. Else prove '..UptoSaid'. A law counts once. -/
mutual
def uptoBulk {H : Type} : DataW H → Nat
  | .lit (.string bytes) => bytes.length + 1
  | .lit _ => 1
  | .nil => 1
  | .ptr d => uptoBulk d + 1
  | .slice elems spare => uptoBulkAll elems + uptoBulkAll spare + 1
  | .agg parts => uptoBulkAll parts + 1
  | .iface _ d => uptoBulk d + 1
  | .map entries => uptoBulkEntries entries + 1
  | .held _ => 1
def uptoBulkAll {H : Type} : List (DataW H) → Nat
  | [] => 0
  | d :: r => uptoBulk d + uptoBulkAll r
def uptoBulkEntries {H : Type} : List (Lit × DataW H) → Nat
  | [] => 0
  | x :: r => uptoBulkEntry x + uptoBulkEntries r
def uptoBulkEntry {H : Type} : Lit × DataW H → Nat
  | (.string bytes, d) => bytes.length + uptoBulk d + 1
  | (_, d) => uptoBulk d + 1
 end
def uptoSmall : (H : Type) → List (DataW H) → Bool := fun _ ds => decide (uptoBulkAll ds ≤ 1048576)
def OpenSpec.upto (s : _root_.Go.ChangeSpec) : _root_.Go.OpenSpec := { _root_.Go.OpenSpec.ofChange s with cond := some uptoSmall }

/-- 'clockworklaw11.TypesOf', WHERE WHAT IT READS IS OF BULK AT MOST 1048576: true; the input reads as it did. -/
def typesOfUptoRow : OpenClaim := { program := "ytlebflphgeolfaadoor", sum := "335bdefd23ef7a237eea3a5534c9eb49d70424e63619ae60e8c0dce1cbc61e30", func := "clockwork/clockworklaw11.TypesOf", spec := "typesOf", unfollowed := true, recurses := true, named := ["clockwork/types.operators"], loops := true, apart := false, laid := [("clockwork/types.operators", laid_clockwork_types_operators)], narrowed := true }
def TypesOfUptoSaid : Prop := typesOfUptoRow.holds Tryd.pinned (OpenSpec.upto typesOfSpec)

/-- 'clockworklaw11.TypesChecks', WHERE WHAT IT READS IS OF BULK AT MOST 1048576: true; the input reads as it did. -/
def typesChecksUptoRow : OpenClaim := { program := "ytlebflphgeolfaadoor", sum := "335bdefd23ef7a237eea3a5534c9eb49d70424e63619ae60e8c0dce1cbc61e30", func := "clockwork/clockworklaw11.TypesChecks", spec := "typesChecks", unfollowed := true, recurses := true, named := ["clockwork/types.operators"], loops := true, apart := false, laid := [("clockwork/types.operators", laid_clockwork_types_operators)], narrowed := true }
def TypesChecksUptoSaid : Prop := typesChecksUptoRow.holds Tryd.pinned (OpenSpec.upto typesChecksSpec)

/-- 'clockworklaw11.TypesVars', WHERE WHAT IT READS IS OF BULK AT MOST 1048576: true; the input reads as it did. -/
def typesVarsUptoRow : OpenClaim := { program := "ytlebflphgeolfaadoor", sum := "335bdefd23ef7a237eea3a5534c9eb49d70424e63619ae60e8c0dce1cbc61e30", func := "clockwork/clockworklaw11.TypesVars", spec := "typesVars", unfollowed := true, recurses := true, named := ["clockwork/types.operators"], loops := true, apart := false, laid := [("clockwork/types.operators", laid_clockwork_types_operators)], narrowed := true }
def TypesVarsUptoSaid : Prop := typesVarsUptoRow.holds Tryd.pinned (OpenSpec.upto typesVarsSpec)

/-- 'clockworklaw11.TypesArgs', WHERE WHAT IT READS IS OF BULK AT MOST 1048576: true; the input reads as it did. -/
def typesArgsUptoRow : OpenClaim := { program := "ytlebflphgeolfaadoor", sum := "335bdefd23ef7a237eea3a5534c9eb49d70424e63619ae60e8c0dce1cbc61e30", func := "clockwork/clockworklaw11.TypesArgs", spec := "typesArgs", unfollowed := true, recurses := true, named := ["clockwork/types.operators"], loops := true, apart := false, laid := [("clockwork/types.operators", laid_clockwork_types_operators)], narrowed := true }
def TypesArgsUptoSaid : Prop := typesArgsUptoRow.holds Tryd.pinned (OpenSpec.upto typesArgsSpec)

/-- 'clockworklaw11.TypesScoped', WHERE WHAT IT READS IS OF BULK AT MOST 1048576: true; the input reads as it did. -/
def typesScopedUptoRow : OpenClaim := { program := "ytlebflphgeolfaadoor", sum := "335bdefd23ef7a237eea3a5534c9eb49d70424e63619ae60e8c0dce1cbc61e30", func := "clockwork/clockworklaw11.TypesScoped", spec := "typesScoped", unfollowed := true, recurses := true, named := ["clockwork/types.operators"], loops := true, apart := false, laid := [("clockwork/types.operators", laid_clockwork_types_operators)], narrowed := true }
def TypesScopedUptoSaid : Prop := typesScopedUptoRow.holds Tryd.pinned (OpenSpec.upto typesScopedSpec)

/-- 'clockworklaw11.TypesRenames', WHERE WHAT IT READS IS OF BULK AT MOST 1048576: true; the input reads as it did. -/
def typesRenamesUptoRow : OpenClaim := { program := "ytlebflphgeolfaadoor", sum := "335bdefd23ef7a237eea3a5534c9eb49d70424e63619ae60e8c0dce1cbc61e30", func := "clockwork/clockworklaw11.TypesRenames", spec := "typesRenames", unfollowed := true, recurses := true, named := ["clockwork/types.operators"], loops := true, apart := false, laid := [("clockwork/types.operators", laid_clockwork_types_operators)], narrowed := true }
def TypesRenamesUptoSaid : Prop := typesRenamesUptoRow.holds Tryd.pinned (OpenSpec.upto typesRenamesSpec)

/-- 'clockworklaw11.TypesExtends', WHERE WHAT IT READS IS OF BULK AT MOST 1048576: true; the input reads as it did. -/
def typesExtendsUptoRow : OpenClaim := { program := "ytlebflphgeolfaadoor", sum := "335bdefd23ef7a237eea3a5534c9eb49d70424e63619ae60e8c0dce1cbc61e30", func := "clockwork/clockworklaw11.TypesExtends", spec := "typesExtends", unfollowed := true, recurses := true, named := ["clockwork/types.operators"], loops := true, apart := false, laid := [("clockwork/types.operators", laid_clockwork_types_operators)], narrowed := true }
def TypesExtendsUptoSaid : Prop := typesExtendsUptoRow.holds Tryd.pinned (OpenSpec.upto typesExtendsSpec)

/-- 'clockworklaw11.TypesStatements', WHERE WHAT IT READS IS OF BULK AT MOST 1048576: true; the input reads as it did. -/
def typesStatementsUptoRow : OpenClaim := { program := "ytlebflphgeolfaadoor", sum := "335bdefd23ef7a237eea3a5534c9eb49d70424e63619ae60e8c0dce1cbc61e30", func := "clockwork/clockworklaw11.TypesStatements", spec := "typesStatements", unfollowed := true, recurses := true, named := ["clockwork/types.operators"], loops := true, apart := false, laid := [("clockwork/types.operators", laid_clockwork_types_operators)], narrowed := true }
def TypesStatementsUptoSaid : Prop := typesStatementsUptoRow.holds Tryd.pinned (OpenSpec.upto typesStatementsSpec)

end Rows
end Go.Proofs.YtlebflphgeolfaaDoor
