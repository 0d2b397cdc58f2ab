/-
  NARROWER THAN 'FOR EVERY INPUT', by the rows' own cells (each row's printed sentence says how): TypesChecks: loops, laid · TypesVars: loops, laid · TypesArgs: loops, laid · TypesScoped: loops, laid · TypesRenames: loops, laid · DeterminismSound: loops, laid · DeterminismReplaced: loops, laid.
  DERIVED. THE GIVEN ROWS OF THIS SEAT. 7 by the template 'for every input the law returns true; each argument reads behind the call as it read before'; 0 by the template 'total and deterministic' (their statements: YtgjnddjpinhkgaaDoorTotals.lean).
  GIVEN WITH THE SEED: the statements are not yours to turn. If you find one false, say at which input.
  Laid BY PROGRAM, IN A SANDBOX (cutbox-rows.mjs): the forced cells as the released guide's own fill.sh prints them over the translation 21860bfa8cdc99a5… (all of the seat's roots in one cut). By AI agents, Wed Nov 11 2026. No macro, syntax, notation, axiom, sorry.
-/
import Derived.Test.YtgjnddjpinhkgaaDoorChecked
import GoSem.Claim
import GoSem.ClaimJoined
import GoSem.ClaimMapViews
import Derived.JoinedTies
import Derived.KernelRfl
namespace Go.Proofs.YtgjnddjpinhkgaaDoor
/- THE CELL 'sum', in the pinned program and in every row, IS THE sha256 OF THE DUMP (.gsa) THAT YtgjnddjpinhkgaaDoorProg.lean LOADS. Nothing in Lean hashes anything: it is a label: what it is worth is what the hold of that sum in a sandbox is worth. -/
noncomputable def Tryd.pinned : Pinned := { name := "ytgjnddjpinhkgaadoor", sum := "21860bfa8cdc99a5fbafdb110acefd655bc71f391b7bf56646c0d222d82f43d9", checked := Tryd.checked }
namespace Rows
def none {H : Type} : Left H := { results := [], args := [] }

/- WHAT THE LISTED PACKAGE-LEVEL VARIABLES READ AS WHEN THE CALL BEGINS. Each datum BY PROGRAM (the guide's laid-datum.mjs) off the statement by which the dump's own 'gosem.cut.vars' lays the variable. In a bare row this is a premise. The card (YtgjnddjpinhkgaaDoorCards.lean) ties it to the program's text. -/
def laid_clockwork_types_operators {H : Type} : DataW H := .agg [.agg [.lit (.int .i64 0), .lit (.int .i64 0)], .agg [.lit (.int .i64 0), .lit (.int .i64 1)], .agg [.lit (.int .i64 0), .lit (.int .i64 2)], .agg [.lit (.int .i64 0), .lit (.int .i64 0)], .agg [.lit (.int .i64 2), .lit (.int .i64 1)], .agg [.lit (.int .i64 2), .lit (.int .i64 1)], .agg [.lit (.int .i64 2), .lit (.int .i64 1)], .agg [.lit (.int .i64 2), .lit (.int .i64 1)], .agg [.lit (.int .i64 2), .lit (.int .i64 1)], .agg [.lit (.int .i64 2), .lit (.int .i64 1)], .agg [.lit (.int .i64 14), .lit (.int .i64 3)], .agg [.lit (.int .i64 14), .lit (.int .i64 3)], .agg [.lit (.int .i64 6), .lit (.int .i64 3)], .agg [.lit (.int .i64 6), .lit (.int .i64 3)], .agg [.lit (.int .i64 6), .lit (.int .i64 3)], .agg [.lit (.int .i64 6), .lit (.int .i64 3)], .agg [.lit (.int .i64 8), .lit (.int .i64 3)], .agg [.lit (.int .i64 8), .lit (.int .i64 3)], .agg [.lit (.int .i64 8), .lit (.int .i64 3)], .agg [.lit (.int .i64 4), .lit (.int .i64 2)], .agg [.lit (.int .i64 2), .lit (.int .i64 2)], .agg [.lit (.int .i64 4), .lit (.int .i64 1)], .agg [.lit (.int .i64 4), .lit (.int .i64 1)], .agg [.lit (.int .i64 4), .lit (.int .i64 2)], .agg [.lit (.int .i64 4), .lit (.int .i64 3)], .agg [.lit (.int .i64 0), .lit (.int .i64 1)], .agg [.lit (.int .i64 0), .lit (.int .i64 1)], .agg [.lit (.int .i64 0), .lit (.int .i64 1)]]

/-- 'clockworklaw11.TypesChecks': WHATEVER THE INPUT: true; the input reads as it did. -/
def typesChecksSpec : ChangeSpec := { name := "typesChecks", fn := fun _ => fun
  | [d] => { results := [.lit (.bool true)], args := [d] }
  | _ => none }
def typesChecksRow : OpenClaim := { program := "ytgjnddjpinhkgaadoor", sum := "21860bfa8cdc99a5fbafdb110acefd655bc71f391b7bf56646c0d222d82f43d9", func := "clockwork/clockworklaw11.TypesChecks", spec := "typesChecks", unfollowed := true, recurses := true, named := ["clockwork/types.operators"], loops := true, apart := false, laid := [("clockwork/types.operators", laid_clockwork_types_operators)] }
def TypesChecksSaid : Prop := typesChecksRow.holds Tryd.pinned (OpenSpec.ofChange typesChecksSpec)

/-- ITS FALSE NEIGHBOUR: 'it returns false'. Refute it at one input. -/
def typesChecksWrong : ChangeSpec := { name := "typesChecks", fn := fun _ => fun
  | [d] => { results := [.lit (.bool false)], args := [d] }
  | _ => none }
def TypesChecksWrongFalsely : Prop := typesChecksRow.holds Tryd.pinned (OpenSpec.ofChange typesChecksWrong)

/-- 'clockworklaw11.TypesVars': WHATEVER THE INPUT: true; the input reads as it did. -/
def typesVarsSpec : ChangeSpec := { name := "typesVars", fn := fun _ => fun
  | [d] => { results := [.lit (.bool true)], args := [d] }
  | _ => none }
def typesVarsRow : OpenClaim := { program := "ytgjnddjpinhkgaadoor", sum := "21860bfa8cdc99a5fbafdb110acefd655bc71f391b7bf56646c0d222d82f43d9", func := "clockwork/clockworklaw11.TypesVars", spec := "typesVars", unfollowed := true, recurses := true, named := ["clockwork/types.operators"], loops := true, apart := false, laid := [("clockwork/types.operators", laid_clockwork_types_operators)] }
def TypesVarsSaid : Prop := typesVarsRow.holds Tryd.pinned (OpenSpec.ofChange typesVarsSpec)

/-- ITS FALSE NEIGHBOUR: 'it returns false'. Refute it at one input. -/
def typesVarsWrong : ChangeSpec := { name := "typesVars", fn := fun _ => fun
  | [d] => { results := [.lit (.bool false)], args := [d] }
  | _ => none }
def TypesVarsWrongFalsely : Prop := typesVarsRow.holds Tryd.pinned (OpenSpec.ofChange typesVarsWrong)

/-- 'clockworklaw11.TypesArgs': WHATEVER THE INPUT: true; the input reads as it did. -/
def typesArgsSpec : ChangeSpec := { name := "typesArgs", fn := fun _ => fun
  | [d1, d2] => { results := [.lit (.bool true)], args := [d1, d2] }
  | _ => none }
def typesArgsRow : OpenClaim := { program := "ytgjnddjpinhkgaadoor", sum := "21860bfa8cdc99a5fbafdb110acefd655bc71f391b7bf56646c0d222d82f43d9", func := "clockwork/clockworklaw11.TypesArgs", spec := "typesArgs", unfollowed := true, recurses := true, named := ["clockwork/types.operators"], loops := true, apart := false, laid := [("clockwork/types.operators", laid_clockwork_types_operators)] }
def TypesArgsSaid : Prop := typesArgsRow.holds Tryd.pinned (OpenSpec.ofChange typesArgsSpec)

/-- ITS FALSE NEIGHBOUR: 'it returns false'. Refute it at one input. -/
def typesArgsWrong : ChangeSpec := { name := "typesArgs", fn := fun _ => fun
  | [d1, d2] => { results := [.lit (.bool false)], args := [d1, d2] }
  | _ => none }
def TypesArgsWrongFalsely : Prop := typesArgsRow.holds Tryd.pinned (OpenSpec.ofChange typesArgsWrong)

/-- 'clockworklaw11.TypesScoped': WHATEVER THE INPUT: true; the input reads as it did. -/
def typesScopedSpec : ChangeSpec := { name := "typesScoped", fn := fun _ => fun
  | [d] => { results := [.lit (.bool true)], args := [d] }
  | _ => none }
def typesScopedRow : OpenClaim := { program := "ytgjnddjpinhkgaadoor", sum := "21860bfa8cdc99a5fbafdb110acefd655bc71f391b7bf56646c0d222d82f43d9", func := "clockwork/clockworklaw11.TypesScoped", spec := "typesScoped", unfollowed := true, recurses := true, named := ["clockwork/types.operators"], loops := true, apart := false, laid := [("clockwork/types.operators", laid_clockwork_types_operators)] }
def TypesScopedSaid : Prop := typesScopedRow.holds Tryd.pinned (OpenSpec.ofChange typesScopedSpec)

/-- ITS FALSE NEIGHBOUR: 'it returns false'. Refute it at one input. -/
def typesScopedWrong : ChangeSpec := { name := "typesScoped", fn := fun _ => fun
  | [d] => { results := [.lit (.bool false)], args := [d] }
  | _ => none }
def TypesScopedWrongFalsely : Prop := typesScopedRow.holds Tryd.pinned (OpenSpec.ofChange typesScopedWrong)

/-- 'clockworklaw11.TypesRenames': WHATEVER THE INPUT: true; the input reads as it did. -/
def typesRenamesSpec : ChangeSpec := { name := "typesRenames", fn := fun _ => fun
  | [d1, d2, d3] => { results := [.lit (.bool true)], args := [d1, d2, d3] }
  | _ => none }
def typesRenamesRow : OpenClaim := { program := "ytgjnddjpinhkgaadoor", sum := "21860bfa8cdc99a5fbafdb110acefd655bc71f391b7bf56646c0d222d82f43d9", func := "clockwork/clockworklaw11.TypesRenames", spec := "typesRenames", unfollowed := true, recurses := true, named := ["clockwork/types.operators"], loops := true, apart := false, laid := [("clockwork/types.operators", laid_clockwork_types_operators)] }
def TypesRenamesSaid : Prop := typesRenamesRow.holds Tryd.pinned (OpenSpec.ofChange typesRenamesSpec)

/-- ITS FALSE NEIGHBOUR: 'it returns false'. Refute it at one input. -/
def typesRenamesWrong : ChangeSpec := { name := "typesRenames", fn := fun _ => fun
  | [d1, d2, d3] => { results := [.lit (.bool false)], args := [d1, d2, d3] }
  | _ => none }
def TypesRenamesWrongFalsely : Prop := typesRenamesRow.holds Tryd.pinned (OpenSpec.ofChange typesRenamesWrong)

/-- 'clockworklaw12.DeterminismSound': WHATEVER THE INPUT: true; the input reads as it did. -/
def determinismSoundSpec : ChangeSpec := { name := "determinismSound", fn := fun _ => fun
  | [d] => { results := [.lit (.bool true)], args := [d] }
  | _ => none }
def determinismSoundRow : OpenClaim := { program := "ytgjnddjpinhkgaadoor", sum := "21860bfa8cdc99a5fbafdb110acefd655bc71f391b7bf56646c0d222d82f43d9", func := "clockwork/clockworklaw12.DeterminismSound", spec := "determinismSound", unfollowed := true, recurses := true, named := ["clockwork/types.operators"], loops := true, apart := false, laid := [("clockwork/types.operators", laid_clockwork_types_operators)] }
def DeterminismSoundSaid : Prop := determinismSoundRow.holds Tryd.pinned (OpenSpec.ofChange determinismSoundSpec)

/-- ITS FALSE NEIGHBOUR: 'it returns false'. Refute it at one input. -/
def determinismSoundWrong : ChangeSpec := { name := "determinismSound", fn := fun _ => fun
  | [d] => { results := [.lit (.bool false)], args := [d] }
  | _ => none }
def DeterminismSoundWrongFalsely : Prop := determinismSoundRow.holds Tryd.pinned (OpenSpec.ofChange determinismSoundWrong)

/-- 'clockworklaw12.DeterminismReplaced': WHATEVER THE INPUT: true; the input reads as it did. -/
def determinismReplacedSpec : ChangeSpec := { name := "determinismReplaced", fn := fun _ => fun
  | [d1, d2, d3] => { results := [.lit (.bool true)], args := [d1, d2, d3] }
  | _ => none }
def determinismReplacedRow : OpenClaim := { program := "ytgjnddjpinhkgaadoor", sum := "21860bfa8cdc99a5fbafdb110acefd655bc71f391b7bf56646c0d222d82f43d9", func := "clockwork/clockworklaw12.DeterminismReplaced", spec := "determinismReplaced", unfollowed := true, recurses := true, named := ["clockwork/types.operators"], loops := true, apart := false, laid := [("clockwork/types.operators", laid_clockwork_types_operators)] }
def DeterminismReplacedSaid : Prop := determinismReplacedRow.holds Tryd.pinned (OpenSpec.ofChange determinismReplacedSpec)

/-- ITS FALSE NEIGHBOUR: 'it returns false'. Refute it at one input. -/
def determinismReplacedWrong : ChangeSpec := { name := "determinismReplaced", fn := fun _ => fun
  | [d1, d2, d3] => { results := [.lit (.bool false)], args := [d1, d2, d3] }
  | _ => none }
def DeterminismReplacedWrongFalsely : Prop := determinismReplacedRow.holds Tryd.pinned (OpenSpec.ofChange determinismReplacedWrong)

/- THE SECOND FORM. 'bulk': how many values and letters a reading holds, each counted each time it is reached (what is shared counts as often as it is met; a slice's spare places count too). A statement '..UptoSaid' is the law's where the arguments, and the package variables that the reading takes, are together of bulk at most 1048576: NARROWER than '..Said'. Prove '..Said' where nothing that the law and all that it calls make is longer than what came in: it says more and counts as full. Else prove '..UptoSaid'. A law counts once. -/
mutual
def uptoBulk {H : Type} : DataW H → Nat
  | .lit (.string bytes) => bytes.length + 1
  | .lit _ => 1
  | .nil => 1
  | .ptr d => uptoBulk d + 1
  | .slice elems spare => uptoBulkAll elems + uptoBulkAll spare + 1
  | .agg parts => uptoBulkAll parts + 1
  | .iface _ d => uptoBulk d + 1
  | .map entries => uptoBulkEntries entries + 1
  | .held _ => 1
def uptoBulkAll {H : Type} : List (DataW H) → Nat
  | [] => 0
  | d :: r => uptoBulk d + uptoBulkAll r
def uptoBulkEntries {H : Type} : List (Lit × DataW H) → Nat
  | [] => 0
  | x :: r => uptoBulkEntry x + uptoBulkEntries r
def uptoBulkEntry {H : Type} : Lit × DataW H → Nat
  | (.string bytes, d) => bytes.length + uptoBulk d + 1
  | (_, d) => uptoBulk d + 1
 end
def uptoSmall : (H : Type) → List (DataW H) → Bool := fun _ ds => decide (uptoBulkAll ds ≤ 1048576)
def OpenSpec.upto (s : _root_.Go.ChangeSpec) : _root_.Go.OpenSpec := { _root_.Go.OpenSpec.ofChange s with cond := some uptoSmall }

/-- 'clockworklaw11.TypesChecks', WHERE WHAT IT READS IS OF BULK AT MOST 1048576: true; the input reads as it did. -/
def typesChecksUptoRow : OpenClaim := { program := "ytgjnddjpinhkgaadoor", sum := "21860bfa8cdc99a5fbafdb110acefd655bc71f391b7bf56646c0d222d82f43d9", func := "clockwork/clockworklaw11.TypesChecks", spec := "typesChecks", unfollowed := true, recurses := true, named := ["clockwork/types.operators"], loops := true, apart := false, laid := [("clockwork/types.operators", laid_clockwork_types_operators)], narrowed := true }
def TypesChecksUptoSaid : Prop := typesChecksUptoRow.holds Tryd.pinned (OpenSpec.upto typesChecksSpec)

/-- 'clockworklaw11.TypesVars', WHERE WHAT IT READS IS OF BULK AT MOST 1048576: true; the input reads as it did. -/
def typesVarsUptoRow : OpenClaim := { program := "ytgjnddjpinhkgaadoor", sum := "21860bfa8cdc99a5fbafdb110acefd655bc71f391b7bf56646c0d222d82f43d9", func := "clockwork/clockworklaw11.TypesVars", spec := "typesVars", unfollowed := true, recurses := true, named := ["clockwork/types.operators"], loops := true, apart := false, laid := [("clockwork/types.operators", laid_clockwork_types_operators)], narrowed := true }
def TypesVarsUptoSaid : Prop := typesVarsUptoRow.holds Tryd.pinned (OpenSpec.upto typesVarsSpec)

/-- 'clockworklaw11.TypesArgs', WHERE WHAT IT READS IS OF BULK AT MOST 1048576: true; the input reads as it did. -/
def typesArgsUptoRow : OpenClaim := { program := "ytgjnddjpinhkgaadoor", sum := "21860bfa8cdc99a5fbafdb110acefd655bc71f391b7bf56646c0d222d82f43d9", func := "clockwork/clockworklaw11.TypesArgs", spec := "typesArgs", unfollowed := true, recurses := true, named := ["clockwork/types.operators"], loops := true, apart := false, laid := [("clockwork/types.operators", laid_clockwork_types_operators)], narrowed := true }
def TypesArgsUptoSaid : Prop := typesArgsUptoRow.holds Tryd.pinned (OpenSpec.upto typesArgsSpec)

/-- 'clockworklaw11.TypesScoped', WHERE WHAT IT READS IS OF BULK AT MOST 1048576: true; the input reads as it did. -/
def typesScopedUptoRow : OpenClaim := { program := "ytgjnddjpinhkgaadoor", sum := "21860bfa8cdc99a5fbafdb110acefd655bc71f391b7bf56646c0d222d82f43d9", func := "clockwork/clockworklaw11.TypesScoped", spec := "typesScoped", unfollowed := true, recurses := true, named := ["clockwork/types.operators"], loops := true, apart := false, laid := [("clockwork/types.operators", laid_clockwork_types_operators)], narrowed := true }
def TypesScopedUptoSaid : Prop := typesScopedUptoRow.holds Tryd.pinned (OpenSpec.upto typesScopedSpec)

/-- 'clockworklaw11.TypesRenames', WHERE WHAT IT READS IS OF BULK AT MOST 1048576: true; the input reads as it did. -/
def typesRenamesUptoRow : OpenClaim := { program := "ytgjnddjpinhkgaadoor", sum := "21860bfa8cdc99a5fbafdb110acefd655bc71f391b7bf56646c0d222d82f43d9", func := "clockwork/clockworklaw11.TypesRenames", spec := "typesRenames", unfollowed := true, recurses := true, named := ["clockwork/types.operators"], loops := true, apart := false, laid := [("clockwork/types.operators", laid_clockwork_types_operators)], narrowed := true }
def TypesRenamesUptoSaid : Prop := typesRenamesUptoRow.holds Tryd.pinned (OpenSpec.upto typesRenamesSpec)

/-- 'clockworklaw12.DeterminismSound', WHERE WHAT IT READS IS OF BULK AT MOST 1048576: true; the input reads as it did. -/
def determinismSoundUptoRow : OpenClaim := { program := "ytgjnddjpinhkgaadoor", sum := "21860bfa8cdc99a5fbafdb110acefd655bc71f391b7bf56646c0d222d82f43d9", func := "clockwork/clockworklaw12.DeterminismSound", spec := "determinismSound", unfollowed := true, recurses := true, named := ["clockwork/types.operators"], loops := true, apart := false, laid := [("clockwork/types.operators", laid_clockwork_types_operators)], narrowed := true }
def DeterminismSoundUptoSaid : Prop := determinismSoundUptoRow.holds Tryd.pinned (OpenSpec.upto determinismSoundSpec)

/-- 'clockworklaw12.DeterminismReplaced', WHERE WHAT IT READS IS OF BULK AT MOST 1048576: true; the input reads as it did. -/
def determinismReplacedUptoRow : OpenClaim := { program := "ytgjnddjpinhkgaadoor", sum := "21860bfa8cdc99a5fbafdb110acefd655bc71f391b7bf56646c0d222d82f43d9", func := "clockwork/clockworklaw12.DeterminismReplaced", spec := "determinismReplaced", unfollowed := true, recurses := true, named := ["clockwork/types.operators"], loops := true, apart := false, laid := [("clockwork/types.operators", laid_clockwork_types_operators)], narrowed := true }
def DeterminismReplacedUptoSaid : Prop := determinismReplacedUptoRow.holds Tryd.pinned (OpenSpec.upto determinismReplacedSpec)

end Rows
end Go.Proofs.YtgjnddjpinhkgaaDoor
