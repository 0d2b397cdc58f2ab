/-
  NARROWER THAN 'FOR EVERY INPUT', by the rows' own cells (each row's printed sentence says how): DataflowTaints: loops, laid · DataflowBranches: loops, laid · DataflowClosed: loops, laid · DataflowPure: loops, laid · DataflowRenames: loops, laid · DataflowParams: loops, laid.
  DERIVED. THE GIVEN ROWS OF THIS SEAT. 6 by the template 'for every input the law returns true; each argument reads behind the call as it read before'; 0 by the template 'total and deterministic' (their statements: YtnelpgeiioflmaaGreatDoorTotals.lean).
  GIVEN WITH THE SEED: the statements are not yours to turn. If you find one false, say at which input.
  Laid BY PROGRAM, IN A SANDBOX (cutbox-rows.mjs): the forced cells as the released guide's own fill.sh prints them over the translation f80765e59a083ffe… (all of the seat's roots in one cut). By AI agents, Wed Nov 11 2026. No macro, syntax, notation, axiom, sorry.
-/
import Derived.Test.YtnelpgeiioflmaaGreatDoorChecked
import GoSem.Claim
import GoSem.ClaimJoined
import GoSem.ClaimMapViews
import Derived.JoinedTies
import Derived.KernelRfl
namespace Go.Proofs.YtnelpgeiioflmaaGreatDoor
/- THE CELL 'sum', in the pinned program and in every row, IS THE sha256 OF THE DUMP (.gsa) THAT YtnelpgeiioflmaaGreatDoorProg.lean LOADS. Nothing in Lean hashes anything: it is a label: what it is worth is what the hold of that sum in a sandbox is worth. -/
noncomputable def Tryz.pinned : Pinned := { name := "ytnelpgeiioflmaagreatdoor", sum := "f80765e59a083ffece758d0614c7a8b898e68f100b274079f7380a0a8eb7d33a", checked := Tryz.checked }
namespace Rows
def none {H : Type} : Left H := { results := [], args := [] }

/- WHAT THE LISTED PACKAGE-LEVEL VARIABLES READ AS WHEN THE CALL BEGINS. Each datum BY PROGRAM (the guide's laid-datum.mjs) off the statement by which the dump's own 'gosem.cut.vars' lays the variable. In a bare row this is a premise. The card (YtnelpgeiioflmaaGreatDoorCards.lean) ties it to the program's text. -/
def laid_clockwork_types_operators {H : Type} : DataW H := .agg [.agg [.lit (.int .i64 0), .lit (.int .i64 0)], .agg [.lit (.int .i64 0), .lit (.int .i64 1)], .agg [.lit (.int .i64 0), .lit (.int .i64 2)], .agg [.lit (.int .i64 0), .lit (.int .i64 0)], .agg [.lit (.int .i64 2), .lit (.int .i64 1)], .agg [.lit (.int .i64 2), .lit (.int .i64 1)], .agg [.lit (.int .i64 2), .lit (.int .i64 1)], .agg [.lit (.int .i64 2), .lit (.int .i64 1)], .agg [.lit (.int .i64 2), .lit (.int .i64 1)], .agg [.lit (.int .i64 2), .lit (.int .i64 1)], .agg [.lit (.int .i64 14), .lit (.int .i64 3)], .agg [.lit (.int .i64 14), .lit (.int .i64 3)], .agg [.lit (.int .i64 6), .lit (.int .i64 3)], .agg [.lit (.int .i64 6), .lit (.int .i64 3)], .agg [.lit (.int .i64 6), .lit (.int .i64 3)], .agg [.lit (.int .i64 6), .lit (.int .i64 3)], .agg [.lit (.int .i64 8), .lit (.int .i64 3)], .agg [.lit (.int .i64 8), .lit (.int .i64 3)], .agg [.lit (.int .i64 8), .lit (.int .i64 3)], .agg [.lit (.int .i64 4), .lit (.int .i64 2)], .agg [.lit (.int .i64 2), .lit (.int .i64 2)], .agg [.lit (.int .i64 4), .lit (.int .i64 1)], .agg [.lit (.int .i64 4), .lit (.int .i64 1)], .agg [.lit (.int .i64 4), .lit (.int .i64 2)], .agg [.lit (.int .i64 4), .lit (.int .i64 3)], .agg [.lit (.int .i64 0), .lit (.int .i64 1)], .agg [.lit (.int .i64 0), .lit (.int .i64 1)], .agg [.lit (.int .i64 0), .lit (.int .i64 1)]]

/-- 'clockworklaw14.DataflowTaints': WHATEVER THE INPUT: true; the input reads as it did. -/
def dataflowTaintsSpec : ChangeSpec := { name := "dataflowTaints", fn := fun _ => fun
  | [d] => { results := [.lit (.bool true)], args := [d] }
  | _ => none }
def dataflowTaintsRow : OpenClaim := { program := "ytnelpgeiioflmaagreatdoor", sum := "f80765e59a083ffece758d0614c7a8b898e68f100b274079f7380a0a8eb7d33a", func := "clockwork/clockworklaw14.DataflowTaints", spec := "dataflowTaints", unfollowed := true, recurses := true, named := ["clockwork/types.operators"], loops := true, apart := false, laid := [("clockwork/types.operators", laid_clockwork_types_operators)] }
def DataflowTaintsSaid : Prop := dataflowTaintsRow.holds Tryz.pinned (OpenSpec.ofChange dataflowTaintsSpec)

/-- ITS FALSE NEIGHBOUR: 'it returns false'. Refute it at one input. -/
def dataflowTaintsWrong : ChangeSpec := { name := "dataflowTaints", fn := fun _ => fun
  | [d] => { results := [.lit (.bool false)], args := [d] }
  | _ => none }
def DataflowTaintsWrongFalsely : Prop := dataflowTaintsRow.holds Tryz.pinned (OpenSpec.ofChange dataflowTaintsWrong)

/-- 'clockworklaw14.DataflowBranches': WHATEVER THE INPUT: true; the input reads as it did. -/
def dataflowBranchesSpec : ChangeSpec := { name := "dataflowBranches", fn := fun _ => fun
  | [d] => { results := [.lit (.bool true)], args := [d] }
  | _ => none }
def dataflowBranchesRow : OpenClaim := { program := "ytnelpgeiioflmaagreatdoor", sum := "f80765e59a083ffece758d0614c7a8b898e68f100b274079f7380a0a8eb7d33a", func := "clockwork/clockworklaw14.DataflowBranches", spec := "dataflowBranches", unfollowed := true, recurses := true, named := ["clockwork/types.operators"], loops := true, apart := false, laid := [("clockwork/types.operators", laid_clockwork_types_operators)] }
def DataflowBranchesSaid : Prop := dataflowBranchesRow.holds Tryz.pinned (OpenSpec.ofChange dataflowBranchesSpec)

/-- ITS FALSE NEIGHBOUR: 'it returns false'. Refute it at one input. -/
def dataflowBranchesWrong : ChangeSpec := { name := "dataflowBranches", fn := fun _ => fun
  | [d] => { results := [.lit (.bool false)], args := [d] }
  | _ => none }
def DataflowBranchesWrongFalsely : Prop := dataflowBranchesRow.holds Tryz.pinned (OpenSpec.ofChange dataflowBranchesWrong)

/-- 'clockworklaw14.DataflowClosed': WHATEVER THE INPUT: true; the input reads as it did. -/
def dataflowClosedSpec : ChangeSpec := { name := "dataflowClosed", fn := fun _ => fun
  | [d] => { results := [.lit (.bool true)], args := [d] }
  | _ => none }
def dataflowClosedRow : OpenClaim := { program := "ytnelpgeiioflmaagreatdoor", sum := "f80765e59a083ffece758d0614c7a8b898e68f100b274079f7380a0a8eb7d33a", func := "clockwork/clockworklaw14.DataflowClosed", spec := "dataflowClosed", unfollowed := true, recurses := true, named := ["clockwork/types.operators"], loops := true, apart := false, laid := [("clockwork/types.operators", laid_clockwork_types_operators)] }
def DataflowClosedSaid : Prop := dataflowClosedRow.holds Tryz.pinned (OpenSpec.ofChange dataflowClosedSpec)

/-- ITS FALSE NEIGHBOUR: 'it returns false'. Refute it at one input. -/
def dataflowClosedWrong : ChangeSpec := { name := "dataflowClosed", fn := fun _ => fun
  | [d] => { results := [.lit (.bool false)], args := [d] }
  | _ => none }
def DataflowClosedWrongFalsely : Prop := dataflowClosedRow.holds Tryz.pinned (OpenSpec.ofChange dataflowClosedWrong)

/-- 'clockworklaw14.DataflowPure': WHATEVER THE INPUT: true; the input reads as it did. -/
def dataflowPureSpec : ChangeSpec := { name := "dataflowPure", fn := fun _ => fun
  | [d] => { results := [.lit (.bool true)], args := [d] }
  | _ => none }
def dataflowPureRow : OpenClaim := { program := "ytnelpgeiioflmaagreatdoor", sum := "f80765e59a083ffece758d0614c7a8b898e68f100b274079f7380a0a8eb7d33a", func := "clockwork/clockworklaw14.DataflowPure", spec := "dataflowPure", unfollowed := true, recurses := true, named := ["clockwork/types.operators"], loops := true, apart := false, laid := [("clockwork/types.operators", laid_clockwork_types_operators)] }
def DataflowPureSaid : Prop := dataflowPureRow.holds Tryz.pinned (OpenSpec.ofChange dataflowPureSpec)

/-- ITS FALSE NEIGHBOUR: 'it returns false'. Refute it at one input. -/
def dataflowPureWrong : ChangeSpec := { name := "dataflowPure", fn := fun _ => fun
  | [d] => { results := [.lit (.bool false)], args := [d] }
  | _ => none }
def DataflowPureWrongFalsely : Prop := dataflowPureRow.holds Tryz.pinned (OpenSpec.ofChange dataflowPureWrong)

/-- 'clockworklaw14.DataflowRenames': WHATEVER THE INPUT: true; the input reads as it did. -/
def dataflowRenamesSpec : ChangeSpec := { name := "dataflowRenames", fn := fun _ => fun
  | [d1, d2, d3] => { results := [.lit (.bool true)], args := [d1, d2, d3] }
  | _ => none }
def dataflowRenamesRow : OpenClaim := { program := "ytnelpgeiioflmaagreatdoor", sum := "f80765e59a083ffece758d0614c7a8b898e68f100b274079f7380a0a8eb7d33a", func := "clockwork/clockworklaw14.DataflowRenames", spec := "dataflowRenames", unfollowed := true, recurses := true, named := ["clockwork/types.operators"], loops := true, apart := false, laid := [("clockwork/types.operators", laid_clockwork_types_operators)] }
def DataflowRenamesSaid : Prop := dataflowRenamesRow.holds Tryz.pinned (OpenSpec.ofChange dataflowRenamesSpec)

/-- ITS FALSE NEIGHBOUR: 'it returns false'. Refute it at one input. -/
def dataflowRenamesWrong : ChangeSpec := { name := "dataflowRenames", fn := fun _ => fun
  | [d1, d2, d3] => { results := [.lit (.bool false)], args := [d1, d2, d3] }
  | _ => none }
def DataflowRenamesWrongFalsely : Prop := dataflowRenamesRow.holds Tryz.pinned (OpenSpec.ofChange dataflowRenamesWrong)

/-- 'clockworklaw14.DataflowParams': WHATEVER THE INPUT: true; the input reads as it did. -/
def dataflowParamsSpec : ChangeSpec := { name := "dataflowParams", fn := fun _ => fun
  | [d] => { results := [.lit (.bool true)], args := [d] }
  | _ => none }
def dataflowParamsRow : OpenClaim := { program := "ytnelpgeiioflmaagreatdoor", sum := "f80765e59a083ffece758d0614c7a8b898e68f100b274079f7380a0a8eb7d33a", func := "clockwork/clockworklaw14.DataflowParams", spec := "dataflowParams", unfollowed := true, recurses := true, named := ["clockwork/types.operators"], loops := true, apart := false, laid := [("clockwork/types.operators", laid_clockwork_types_operators)] }
def DataflowParamsSaid : Prop := dataflowParamsRow.holds Tryz.pinned (OpenSpec.ofChange dataflowParamsSpec)

/-- ITS FALSE NEIGHBOUR: 'it returns false'. Refute it at one input. -/
def dataflowParamsWrong : ChangeSpec := { name := "dataflowParams", fn := fun _ => fun
  | [d] => { results := [.lit (.bool false)], args := [d] }
  | _ => none }
def DataflowParamsWrongFalsely : Prop := dataflowParamsRow.holds Tryz.pinned (OpenSpec.ofChange dataflowParamsWrong)

/- THE SECOND FORM. 'bulk': how many values and letters a reading holds, each counted each time it is reached (what is shared counts as often as it is met; a slice's spare places count too). A statement '..UptoSaid' is the law's where the arguments, and the package variables that the reading takes, are together of bulk at most 1048576: NARROWER than '..Said'. Prove '..Said' where nothing that the law and all that it calls make is longer than what came in: it says more and counts as full. Else prove '..UptoSaid'. A law counts once. -/
mutual
def uptoBulk {H : Type} : DataW H → Nat
  | .lit (.string bytes) => bytes.length + 1
  | .lit _ => 1
  | .nil => 1
  | .ptr d => uptoBulk d + 1
  | .slice elems spare => uptoBulkAll elems + uptoBulkAll spare + 1
  | .agg parts => uptoBulkAll parts + 1
  | .iface _ d => uptoBulk d + 1
  | .map entries => uptoBulkEntries entries + 1
  | .held _ => 1
def uptoBulkAll {H : Type} : List (DataW H) → Nat
  | [] => 0
  | d :: r => uptoBulk d + uptoBulkAll r
def uptoBulkEntries {H : Type} : List (Lit × DataW H) → Nat
  | [] => 0
  | x :: r => uptoBulkEntry x + uptoBulkEntries r
def uptoBulkEntry {H : Type} : Lit × DataW H → Nat
  | (.string bytes, d) => bytes.length + uptoBulk d + 1
  | (_, d) => uptoBulk d + 1
 end
def uptoSmall : (H : Type) → List (DataW H) → Bool := fun _ ds => decide (uptoBulkAll ds ≤ 1048576)
def OpenSpec.upto (s : _root_.Go.ChangeSpec) : _root_.Go.OpenSpec := { _root_.Go.OpenSpec.ofChange s with cond := some uptoSmall }

/-- 'clockworklaw14.DataflowTaints', WHERE WHAT IT READS IS OF BULK AT MOST 1048576: true; the input reads as it did. -/
def dataflowTaintsUptoRow : OpenClaim := { program := "ytnelpgeiioflmaagreatdoor", sum := "f80765e59a083ffece758d0614c7a8b898e68f100b274079f7380a0a8eb7d33a", func := "clockwork/clockworklaw14.DataflowTaints", spec := "dataflowTaints", unfollowed := true, recurses := true, named := ["clockwork/types.operators"], loops := true, apart := false, laid := [("clockwork/types.operators", laid_clockwork_types_operators)], narrowed := true }
def DataflowTaintsUptoSaid : Prop := dataflowTaintsUptoRow.holds Tryz.pinned (OpenSpec.upto dataflowTaintsSpec)

/-- 'clockworklaw14.DataflowBranches', WHERE WHAT IT READS IS OF BULK AT MOST 1048576: true; the input reads as it did. -/
def dataflowBranchesUptoRow : OpenClaim := { program := "ytnelpgeiioflmaagreatdoor", sum := "f80765e59a083ffece758d0614c7a8b898e68f100b274079f7380a0a8eb7d33a", func := "clockwork/clockworklaw14.DataflowBranches", spec := "dataflowBranches", unfollowed := true, recurses := true, named := ["clockwork/types.operators"], loops := true, apart := false, laid := [("clockwork/types.operators", laid_clockwork_types_operators)], narrowed := true }
def DataflowBranchesUptoSaid : Prop := dataflowBranchesUptoRow.holds Tryz.pinned (OpenSpec.upto dataflowBranchesSpec)

/-- 'clockworklaw14.DataflowClosed', WHERE WHAT IT READS IS OF BULK AT MOST 1048576: true; the input reads as it did. -/
def dataflowClosedUptoRow : OpenClaim := { program := "ytnelpgeiioflmaagreatdoor", sum := "f80765e59a083ffece758d0614c7a8b898e68f100b274079f7380a0a8eb7d33a", func := "clockwork/clockworklaw14.DataflowClosed", spec := "dataflowClosed", unfollowed := true, recurses := true, named := ["clockwork/types.operators"], loops := true, apart := false, laid := [("clockwork/types.operators", laid_clockwork_types_operators)], narrowed := true }
def DataflowClosedUptoSaid : Prop := dataflowClosedUptoRow.holds Tryz.pinned (OpenSpec.upto dataflowClosedSpec)

/-- 'clockworklaw14.DataflowPure', WHERE WHAT IT READS IS OF BULK AT MOST 1048576: true; the input reads as it did. -/
def dataflowPureUptoRow : OpenClaim := { program := "ytnelpgeiioflmaagreatdoor", sum := "f80765e59a083ffece758d0614c7a8b898e68f100b274079f7380a0a8eb7d33a", func := "clockwork/clockworklaw14.DataflowPure", spec := "dataflowPure", unfollowed := true, recurses := true, named := ["clockwork/types.operators"], loops := true, apart := false, laid := [("clockwork/types.operators", laid_clockwork_types_operators)], narrowed := true }
def DataflowPureUptoSaid : Prop := dataflowPureUptoRow.holds Tryz.pinned (OpenSpec.upto dataflowPureSpec)

/-- 'clockworklaw14.DataflowRenames', WHERE WHAT IT READS IS OF BULK AT MOST 1048576: true; the input reads as it did. -/
def dataflowRenamesUptoRow : OpenClaim := { program := "ytnelpgeiioflmaagreatdoor", sum := "f80765e59a083ffece758d0614c7a8b898e68f100b274079f7380a0a8eb7d33a", func := "clockwork/clockworklaw14.DataflowRenames", spec := "dataflowRenames", unfollowed := true, recurses := true, named := ["clockwork/types.operators"], loops := true, apart := false, laid := [("clockwork/types.operators", laid_clockwork_types_operators)], narrowed := true }
def DataflowRenamesUptoSaid : Prop := dataflowRenamesUptoRow.holds Tryz.pinned (OpenSpec.upto dataflowRenamesSpec)

/-- 'clockworklaw14.DataflowParams', WHERE WHAT IT READS IS OF BULK AT MOST 1048576: true; the input reads as it did. -/
def dataflowParamsUptoRow : OpenClaim := { program := "ytnelpgeiioflmaagreatdoor", sum := "f80765e59a083ffece758d0614c7a8b898e68f100b274079f7380a0a8eb7d33a", func := "clockwork/clockworklaw14.DataflowParams", spec := "dataflowParams", unfollowed := true, recurses := true, named := ["clockwork/types.operators"], loops := true, apart := false, laid := [("clockwork/types.operators", laid_clockwork_types_operators)], narrowed := true }
def DataflowParamsUptoSaid : Prop := dataflowParamsUptoRow.holds Tryz.pinned (OpenSpec.upto dataflowParamsSpec)

end Rows
end Go.Proofs.YtnelpgeiioflmaaGreatDoor
