/-
  NARROWER THAN 'FOR EVERY INPUT', by the rows' own cells (each row's printed sentence says how): TypesVars: loops, laid · CostBounds: loops, laid · CostRenames: loops, laid · CostLoops: loops, laid.
  DERIVED. THE GIVEN ROWS OF THIS SEAT. 4 by the template 'for every input the law returns true; each argument reads behind the call as it read before'; 0 by the template 'total and deterministic' (their statements: YtkjefigebdbkaaaDoorTotals.lean).
  GIVEN WITH THE SEED: the statements are not yours to turn. If you find one false, say at which input.
  Laid BY PROGRAM, IN A SANDBOX (cutbox-rows.mjs): the forced cells as the released guide's own fill.sh prints them over the translation 89477958fc7f26fb… (all of the seat's roots in one cut). By AI agents, Wed Nov 11 2026. No macro, syntax, notation, axiom, sorry.
-/
import Derived.Test.YtkjefigebdbkaaaDoorChecked
import GoSem.Claim
import GoSem.ClaimJoined
import GoSem.ClaimMapViews
import Derived.JoinedTies
import Derived.KernelRfl
namespace Go.Proofs.YtkjefigebdbkaaaDoor
/- THE CELL 'sum', in the pinned program and in every row, IS THE sha256 OF THE DUMP (.gsa) THAT YtkjefigebdbkaaaDoorProg.lean LOADS. Nothing in Lean hashes anything: it is a label: what it is worth is what the hold of that sum in a sandbox is worth. -/
noncomputable def Tryd.pinned : Pinned := { name := "ytkjefigebdbkaaadoor", sum := "89477958fc7f26fbf344c1ebf7935fac7851a2608620fababd1c91cc253d4cd2", checked := Tryd.checked }
namespace Rows
def none {H : Type} : Left H := { results := [], args := [] }

/- WHAT THE LISTED PACKAGE-LEVEL VARIABLES READ AS WHEN THE CALL BEGINS. Each datum BY PROGRAM (the guide's laid-datum.mjs) off the statement by which the dump's own 'gosem.cut.vars' lays the variable. In a bare row this is a premise. The card (YtkjefigebdbkaaaDoorCards.lean) ties it to the program's text. -/
def laid_clockwork_types_operators {H : Type} : DataW H := .agg [.agg [.lit (.int .i64 0), .lit (.int .i64 0)], .agg [.lit (.int .i64 0), .lit (.int .i64 1)], .agg [.lit (.int .i64 0), .lit (.int .i64 2)], .agg [.lit (.int .i64 0), .lit (.int .i64 0)], .agg [.lit (.int .i64 2), .lit (.int .i64 1)], .agg [.lit (.int .i64 2), .lit (.int .i64 1)], .agg [.lit (.int .i64 2), .lit (.int .i64 1)], .agg [.lit (.int .i64 2), .lit (.int .i64 1)], .agg [.lit (.int .i64 2), .lit (.int .i64 1)], .agg [.lit (.int .i64 2), .lit (.int .i64 1)], .agg [.lit (.int .i64 14), .lit (.int .i64 3)], .agg [.lit (.int .i64 14), .lit (.int .i64 3)], .agg [.lit (.int .i64 6), .lit (.int .i64 3)], .agg [.lit (.int .i64 6), .lit (.int .i64 3)], .agg [.lit (.int .i64 6), .lit (.int .i64 3)], .agg [.lit (.int .i64 6), .lit (.int .i64 3)], .agg [.lit (.int .i64 8), .lit (.int .i64 3)], .agg [.lit (.int .i64 8), .lit (.int .i64 3)], .agg [.lit (.int .i64 8), .lit (.int .i64 3)], .agg [.lit (.int .i64 4), .lit (.int .i64 2)], .agg [.lit (.int .i64 2), .lit (.int .i64 2)], .agg [.lit (.int .i64 4), .lit (.int .i64 1)], .agg [.lit (.int .i64 4), .lit (.int .i64 1)], .agg [.lit (.int .i64 4), .lit (.int .i64 2)], .agg [.lit (.int .i64 4), .lit (.int .i64 3)], .agg [.lit (.int .i64 0), .lit (.int .i64 1)], .agg [.lit (.int .i64 0), .lit (.int .i64 1)], .agg [.lit (.int .i64 0), .lit (.int .i64 1)]]

/-- 'clockworklaw11.TypesVars': WHATEVER THE INPUT: true; the input reads as it did. -/
def typesVarsSpec : ChangeSpec := { name := "typesVars", fn := fun _ => fun
  | [d] => { results := [.lit (.bool true)], args := [d] }
  | _ => none }
def typesVarsRow : OpenClaim := { program := "ytkjefigebdbkaaadoor", sum := "89477958fc7f26fbf344c1ebf7935fac7851a2608620fababd1c91cc253d4cd2", func := "clockwork/clockworklaw11.TypesVars", spec := "typesVars", unfollowed := true, recurses := true, named := ["clockwork/types.operators"], loops := true, apart := false, laid := [("clockwork/types.operators", laid_clockwork_types_operators)] }
def TypesVarsSaid : Prop := typesVarsRow.holds Tryd.pinned (OpenSpec.ofChange typesVarsSpec)

/-- ITS FALSE NEIGHBOUR: 'it returns false'. Refute it at one input. -/
def typesVarsWrong : ChangeSpec := { name := "typesVars", fn := fun _ => fun
  | [d] => { results := [.lit (.bool false)], args := [d] }
  | _ => none }
def TypesVarsWrongFalsely : Prop := typesVarsRow.holds Tryd.pinned (OpenSpec.ofChange typesVarsWrong)

/-- 'clockworklaw13.CostBounds': WHATEVER THE INPUT: true; the input reads as it did. -/
def costBoundsSpec : ChangeSpec := { name := "costBounds", fn := fun _ => fun
  | [d1, d2] => { results := [.lit (.bool true)], args := [d1, d2] }
  | _ => none }
def costBoundsRow : OpenClaim := { program := "ytkjefigebdbkaaadoor", sum := "89477958fc7f26fbf344c1ebf7935fac7851a2608620fababd1c91cc253d4cd2", func := "clockwork/clockworklaw13.CostBounds", spec := "costBounds", unfollowed := true, recurses := true, named := ["clockwork/types.operators"], loops := true, apart := false, laid := [("clockwork/types.operators", laid_clockwork_types_operators)] }
def CostBoundsSaid : Prop := costBoundsRow.holds Tryd.pinned (OpenSpec.ofChange costBoundsSpec)

/-- ITS FALSE NEIGHBOUR: 'it returns false'. Refute it at one input. -/
def costBoundsWrong : ChangeSpec := { name := "costBounds", fn := fun _ => fun
  | [d1, d2] => { results := [.lit (.bool false)], args := [d1, d2] }
  | _ => none }
def CostBoundsWrongFalsely : Prop := costBoundsRow.holds Tryd.pinned (OpenSpec.ofChange costBoundsWrong)

/-- 'clockworklaw13.CostRenames': WHATEVER THE INPUT: true; the input reads as it did. -/
def costRenamesSpec : ChangeSpec := { name := "costRenames", fn := fun _ => fun
  | [d1, d2, d3] => { results := [.lit (.bool true)], args := [d1, d2, d3] }
  | _ => none }
def costRenamesRow : OpenClaim := { program := "ytkjefigebdbkaaadoor", sum := "89477958fc7f26fbf344c1ebf7935fac7851a2608620fababd1c91cc253d4cd2", func := "clockwork/clockworklaw13.CostRenames", spec := "costRenames", unfollowed := true, recurses := true, named := ["clockwork/types.operators"], loops := true, apart := false, laid := [("clockwork/types.operators", laid_clockwork_types_operators)] }
def CostRenamesSaid : Prop := costRenamesRow.holds Tryd.pinned (OpenSpec.ofChange costRenamesSpec)

/-- ITS FALSE NEIGHBOUR: 'it returns false'. Refute it at one input. -/
def costRenamesWrong : ChangeSpec := { name := "costRenames", fn := fun _ => fun
  | [d1, d2, d3] => { results := [.lit (.bool false)], args := [d1, d2, d3] }
  | _ => none }
def CostRenamesWrongFalsely : Prop := costRenamesRow.holds Tryd.pinned (OpenSpec.ofChange costRenamesWrong)

/-- 'clockworklaw13.CostLoops': WHATEVER THE INPUT: true; the input reads as it did. -/
def costLoopsSpec : ChangeSpec := { name := "costLoops", fn := fun _ => fun
  | [d1, d2, d3] => { results := [.lit (.bool true)], args := [d1, d2, d3] }
  | _ => none }
def costLoopsRow : OpenClaim := { program := "ytkjefigebdbkaaadoor", sum := "89477958fc7f26fbf344c1ebf7935fac7851a2608620fababd1c91cc253d4cd2", func := "clockwork/clockworklaw13.CostLoops", spec := "costLoops", unfollowed := true, recurses := true, named := ["clockwork/types.operators"], loops := true, apart := false, laid := [("clockwork/types.operators", laid_clockwork_types_operators)] }
def CostLoopsSaid : Prop := costLoopsRow.holds Tryd.pinned (OpenSpec.ofChange costLoopsSpec)

/-- ITS FALSE NEIGHBOUR: 'it returns false'. Refute it at one input. -/
def costLoopsWrong : ChangeSpec := { name := "costLoops", fn := fun _ => fun
  | [d1, d2, d3] => { results := [.lit (.bool false)], args := [d1, d2, d3] }
  | _ => none }
def CostLoopsWrongFalsely : Prop := costLoopsRow.holds Tryd.pinned (OpenSpec.ofChange costLoopsWrong)

/- THE SECOND FORM. 'bulk': how many values and letters a reading holds, each counted each time it is reached (what is shared counts as often as it is met; a slice's spare places count too). A statement '..UptoSaid' is the law's where the arguments, and the package variables that the reading takes, are together of bulk at most 1048576: NARROWER than '..Said'. Prove '..Said' where nothing that the law and all that it calls make is longer than what came in: it says more and counts as full. Else prove '..UptoSaid'. A law counts once. -/
mutual
def uptoBulk {H : Type} : DataW H → Nat
  | .lit (.string bytes) => bytes.length + 1
  | .lit _ => 1
  | .nil => 1
  | .ptr d => uptoBulk d + 1
  | .slice elems spare => uptoBulkAll elems + uptoBulkAll spare + 1
  | .agg parts => uptoBulkAll parts + 1
  | .iface _ d => uptoBulk d + 1
  | .map entries => uptoBulkEntries entries + 1
  | .held _ => 1
def uptoBulkAll {H : Type} : List (DataW H) → Nat
  | [] => 0
  | d :: r => uptoBulk d + uptoBulkAll r
def uptoBulkEntries {H : Type} : List (Lit × DataW H) → Nat
  | [] => 0
  | x :: r => uptoBulkEntry x + uptoBulkEntries r
def uptoBulkEntry {H : Type} : Lit × DataW H → Nat
  | (.string bytes, d) => bytes.length + uptoBulk d + 1
  | (_, d) => uptoBulk d + 1
 end
def uptoSmall : (H : Type) → List (DataW H) → Bool := fun _ ds => decide (uptoBulkAll ds ≤ 1048576)
def OpenSpec.upto (s : _root_.Go.ChangeSpec) : _root_.Go.OpenSpec := { _root_.Go.OpenSpec.ofChange s with cond := some uptoSmall }

/-- 'clockworklaw11.TypesVars', WHERE WHAT IT READS IS OF BULK AT MOST 1048576: true; the input reads as it did. -/
def typesVarsUptoRow : OpenClaim := { program := "ytkjefigebdbkaaadoor", sum := "89477958fc7f26fbf344c1ebf7935fac7851a2608620fababd1c91cc253d4cd2", func := "clockwork/clockworklaw11.TypesVars", spec := "typesVars", unfollowed := true, recurses := true, named := ["clockwork/types.operators"], loops := true, apart := false, laid := [("clockwork/types.operators", laid_clockwork_types_operators)], narrowed := true }
def TypesVarsUptoSaid : Prop := typesVarsUptoRow.holds Tryd.pinned (OpenSpec.upto typesVarsSpec)

/-- 'clockworklaw13.CostBounds', WHERE WHAT IT READS IS OF BULK AT MOST 1048576: true; the input reads as it did. -/
def costBoundsUptoRow : OpenClaim := { program := "ytkjefigebdbkaaadoor", sum := "89477958fc7f26fbf344c1ebf7935fac7851a2608620fababd1c91cc253d4cd2", func := "clockwork/clockworklaw13.CostBounds", spec := "costBounds", unfollowed := true, recurses := true, named := ["clockwork/types.operators"], loops := true, apart := false, laid := [("clockwork/types.operators", laid_clockwork_types_operators)], narrowed := true }
def CostBoundsUptoSaid : Prop := costBoundsUptoRow.holds Tryd.pinned (OpenSpec.upto costBoundsSpec)

/-- 'clockworklaw13.CostRenames', WHERE WHAT IT READS IS OF BULK AT MOST 1048576: true; the input reads as it did. -/
def costRenamesUptoRow : OpenClaim := { program := "ytkjefigebdbkaaadoor", sum := "89477958fc7f26fbf344c1ebf7935fac7851a2608620fababd1c91cc253d4cd2", func := "clockwork/clockworklaw13.CostRenames", spec := "costRenames", unfollowed := true, recurses := true, named := ["clockwork/types.operators"], loops := true, apart := false, laid := [("clockwork/types.operators", laid_clockwork_types_operators)], narrowed := true }
def CostRenamesUptoSaid : Prop := costRenamesUptoRow.holds Tryd.pinned (OpenSpec.upto costRenamesSpec)

/-- 'clockworklaw13.CostLoops', WHERE WHAT IT READS IS OF BULK AT MOST 1048576: true; the input reads as it did. -/
def costLoopsUptoRow : OpenClaim := { program := "ytkjefigebdbkaaadoor", sum := "89477958fc7f26fbf344c1ebf7935fac7851a2608620fababd1c91cc253d4cd2", func := "clockwork/clockworklaw13.CostLoops", spec := "costLoops", unfollowed := true, recurses := true, named := ["clockwork/types.operators"], loops := true, apart := false, laid := [("clockwork/types.operators", laid_clockwork_types_operators)], narrowed := true }
def CostLoopsUptoSaid : Prop := costLoopsUptoRow.holds Tryd.pinned (OpenSpec.upto costLoopsSpec)

end Rows
end Go.Proofs.YtkjefigebdbkaaaDoor
