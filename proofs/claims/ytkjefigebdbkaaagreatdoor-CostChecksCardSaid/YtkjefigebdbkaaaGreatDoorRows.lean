/-
  NARROWER THAN 'FOR EVERY INPUT', by the rows' own cells (each row's printed sentence says how): DeterminismChecks: loops, laid · CostCounts: loops, laid · CostChecks: loops, laid.
  DERIVED. THE GIVEN ROWS OF THIS SEAT. 3 by the template 'for every input the law returns true; each argument reads behind the call as it read before'; 0 by the template 'total and deterministic' (their statements: YtkjefigebdbkaaaGreatDoorTotals.lean).
  GIVEN WITH THE SEED: the statements are not yours to turn. If you find one false, say at which input.
  Laid BY PROGRAM, IN A SANDBOX (cutbox-rows.mjs): the forced cells as the released guide's own fill.sh prints them over the translation fec1c1771f87297b… (all of the seat's roots in one cut). By AI agents, Wed Nov 11 2026. No macro, syntax, notation, axiom, sorry.
-/
import Derived.Test.YtkjefigebdbkaaaGreatDoorChecked
import GoSem.Claim
import GoSem.ClaimJoined
import GoSem.ClaimMapViews
import Derived.JoinedTies
import Derived.KernelRfl
namespace Go.Proofs.YtkjefigebdbkaaaGreatDoor
/- THE CELL 'sum', in the pinned program and in every row, IS THE sha256 OF THE DUMP (.gsa) THAT YtkjefigebdbkaaaGreatDoorProg.lean LOADS. Nothing in Lean hashes anything: it is a label: what it is worth is what the hold of that sum in a sandbox is worth. -/
noncomputable def Tryz.pinned : Pinned := { name := "ytkjefigebdbkaaagreatdoor", sum := "fec1c1771f87297bf23f497e509567b8b0740ab8de6aefb16684fe69f9e7449f", checked := Tryz.checked }
namespace Rows
def none {H : Type} : Left H := { results := [], args := [] }

/- WHAT THE LISTED PACKAGE-LEVEL VARIABLES READ AS WHEN THE CALL BEGINS. Each datum BY PROGRAM (the guide's laid-datum.mjs) off the statement by which the dump's own 'gosem.cut.vars' lays the variable. In a bare row this is a premise. The card (YtkjefigebdbkaaaGreatDoorCards.lean) ties it to the program's text. -/
def laid_clockwork_types_operators {H : Type} : DataW H := .agg [.agg [.lit (.int .i64 0), .lit (.int .i64 0)], .agg [.lit (.int .i64 0), .lit (.int .i64 1)], .agg [.lit (.int .i64 0), .lit (.int .i64 2)], .agg [.lit (.int .i64 0), .lit (.int .i64 0)], .agg [.lit (.int .i64 2), .lit (.int .i64 1)], .agg [.lit (.int .i64 2), .lit (.int .i64 1)], .agg [.lit (.int .i64 2), .lit (.int .i64 1)], .agg [.lit (.int .i64 2), .lit (.int .i64 1)], .agg [.lit (.int .i64 2), .lit (.int .i64 1)], .agg [.lit (.int .i64 2), .lit (.int .i64 1)], .agg [.lit (.int .i64 14), .lit (.int .i64 3)], .agg [.lit (.int .i64 14), .lit (.int .i64 3)], .agg [.lit (.int .i64 6), .lit (.int .i64 3)], .agg [.lit (.int .i64 6), .lit (.int .i64 3)], .agg [.lit (.int .i64 6), .lit (.int .i64 3)], .agg [.lit (.int .i64 6), .lit (.int .i64 3)], .agg [.lit (.int .i64 8), .lit (.int .i64 3)], .agg [.lit (.int .i64 8), .lit (.int .i64 3)], .agg [.lit (.int .i64 8), .lit (.int .i64 3)], .agg [.lit (.int .i64 4), .lit (.int .i64 2)], .agg [.lit (.int .i64 2), .lit (.int .i64 2)], .agg [.lit (.int .i64 4), .lit (.int .i64 1)], .agg [.lit (.int .i64 4), .lit (.int .i64 1)], .agg [.lit (.int .i64 4), .lit (.int .i64 2)], .agg [.lit (.int .i64 4), .lit (.int .i64 3)], .agg [.lit (.int .i64 0), .lit (.int .i64 1)], .agg [.lit (.int .i64 0), .lit (.int .i64 1)], .agg [.lit (.int .i64 0), .lit (.int .i64 1)]]

/-- 'clockworklaw12.DeterminismChecks': WHATEVER THE INPUT: true; the input reads as it did. -/
def determinismChecksSpec : ChangeSpec := { name := "determinismChecks", fn := fun _ => fun
  | [d] => { results := [.lit (.bool true)], args := [d] }
  | _ => none }
def determinismChecksRow : OpenClaim := { program := "ytkjefigebdbkaaagreatdoor", sum := "fec1c1771f87297bf23f497e509567b8b0740ab8de6aefb16684fe69f9e7449f", func := "clockwork/clockworklaw12.DeterminismChecks", spec := "determinismChecks", unfollowed := true, recurses := true, named := ["clockwork/types.operators"], loops := true, apart := false, laid := [("clockwork/types.operators", laid_clockwork_types_operators)] }
def DeterminismChecksSaid : Prop := determinismChecksRow.holds Tryz.pinned (OpenSpec.ofChange determinismChecksSpec)

/-- ITS FALSE NEIGHBOUR: 'it returns false'. Refute it at one input. -/
def determinismChecksWrong : ChangeSpec := { name := "determinismChecks", fn := fun _ => fun
  | [d] => { results := [.lit (.bool false)], args := [d] }
  | _ => none }
def DeterminismChecksWrongFalsely : Prop := determinismChecksRow.holds Tryz.pinned (OpenSpec.ofChange determinismChecksWrong)

/-- 'clockworklaw13.CostCounts': WHATEVER THE INPUT: true; the input reads as it did. -/
def costCountsSpec : ChangeSpec := { name := "costCounts", fn := fun _ => fun
  | [d] => { results := [.lit (.bool true)], args := [d] }
  | _ => none }
def costCountsRow : OpenClaim := { program := "ytkjefigebdbkaaagreatdoor", sum := "fec1c1771f87297bf23f497e509567b8b0740ab8de6aefb16684fe69f9e7449f", func := "clockwork/clockworklaw13.CostCounts", spec := "costCounts", unfollowed := true, recurses := true, named := ["clockwork/types.operators"], loops := true, apart := false, laid := [("clockwork/types.operators", laid_clockwork_types_operators)] }
def CostCountsSaid : Prop := costCountsRow.holds Tryz.pinned (OpenSpec.ofChange costCountsSpec)

/-- ITS FALSE NEIGHBOUR: 'it returns false'. Refute it at one input. -/
def costCountsWrong : ChangeSpec := { name := "costCounts", fn := fun _ => fun
  | [d] => { results := [.lit (.bool false)], args := [d] }
  | _ => none }
def CostCountsWrongFalsely : Prop := costCountsRow.holds Tryz.pinned (OpenSpec.ofChange costCountsWrong)

/-- 'clockworklaw13.CostChecks': WHATEVER THE INPUT: true; the input reads as it did. -/
def costChecksSpec : ChangeSpec := { name := "costChecks", fn := fun _ => fun
  | [d] => { results := [.lit (.bool true)], args := [d] }
  | _ => none }
def costChecksRow : OpenClaim := { program := "ytkjefigebdbkaaagreatdoor", sum := "fec1c1771f87297bf23f497e509567b8b0740ab8de6aefb16684fe69f9e7449f", func := "clockwork/clockworklaw13.CostChecks", spec := "costChecks", unfollowed := true, recurses := true, named := ["clockwork/types.operators"], loops := true, apart := false, laid := [("clockwork/types.operators", laid_clockwork_types_operators)] }
def CostChecksSaid : Prop := costChecksRow.holds Tryz.pinned (OpenSpec.ofChange costChecksSpec)

/-- ITS FALSE NEIGHBOUR: 'it returns false'. Refute it at one input. -/
def costChecksWrong : ChangeSpec := { name := "costChecks", fn := fun _ => fun
  | [d] => { results := [.lit (.bool false)], args := [d] }
  | _ => none }
def CostChecksWrongFalsely : Prop := costChecksRow.holds Tryz.pinned (OpenSpec.ofChange costChecksWrong)

/- THE SECOND FORM. 'bulk': how many values and letters a reading holds, each counted each time it is reached (what is shared counts as often as it is met; a slice's spare places count too). A statement '..UptoSaid' is the law's where the arguments, and the package variables that the reading takes, are together of bulk at most 1048576: NARROWER than '..Said'. Prove '..Said' where nothing that the law and all that it calls make is longer than what came in: it says more and counts as full. Else prove '..UptoSaid'. A law counts once. -/
mutual
def uptoBulk {H : Type} : DataW H → Nat
  | .lit (.string bytes) => bytes.length + 1
  | .lit _ => 1
  | .nil => 1
  | .ptr d => uptoBulk d + 1
  | .slice elems spare => uptoBulkAll elems + uptoBulkAll spare + 1
  | .agg parts => uptoBulkAll parts + 1
  | .iface _ d => uptoBulk d + 1
  | .map entries => uptoBulkEntries entries + 1
  | .held _ => 1
def uptoBulkAll {H : Type} : List (DataW H) → Nat
  | [] => 0
  | d :: r => uptoBulk d + uptoBulkAll r
def uptoBulkEntries {H : Type} : List (Lit × DataW H) → Nat
  | [] => 0
  | x :: r => uptoBulkEntry x + uptoBulkEntries r
def uptoBulkEntry {H : Type} : Lit × DataW H → Nat
  | (.string bytes, d) => bytes.length + uptoBulk d + 1
  | (_, d) => uptoBulk d + 1
 end
def uptoSmall : (H : Type) → List (DataW H) → Bool := fun _ ds => decide (uptoBulkAll ds ≤ 1048576)
def OpenSpec.upto (s : _root_.Go.ChangeSpec) : _root_.Go.OpenSpec := { _root_.Go.OpenSpec.ofChange s with cond := some uptoSmall }

/-- 'clockworklaw12.DeterminismChecks', WHERE WHAT IT READS IS OF BULK AT MOST 1048576: true; the input reads as it did. -/
def determinismChecksUptoRow : OpenClaim := { program := "ytkjefigebdbkaaagreatdoor", sum := "fec1c1771f87297bf23f497e509567b8b0740ab8de6aefb16684fe69f9e7449f", func := "clockwork/clockworklaw12.DeterminismChecks", spec := "determinismChecks", unfollowed := true, recurses := true, named := ["clockwork/types.operators"], loops := true, apart := false, laid := [("clockwork/types.operators", laid_clockwork_types_operators)], narrowed := true }
def DeterminismChecksUptoSaid : Prop := determinismChecksUptoRow.holds Tryz.pinned (OpenSpec.upto determinismChecksSpec)

/-- 'clockworklaw13.CostCounts', WHERE WHAT IT READS IS OF BULK AT MOST 1048576: true; the input reads as it did. -/
def costCountsUptoRow : OpenClaim := { program := "ytkjefigebdbkaaagreatdoor", sum := "fec1c1771f87297bf23f497e509567b8b0740ab8de6aefb16684fe69f9e7449f", func := "clockwork/clockworklaw13.CostCounts", spec := "costCounts", unfollowed := true, recurses := true, named := ["clockwork/types.operators"], loops := true, apart := false, laid := [("clockwork/types.operators", laid_clockwork_types_operators)], narrowed := true }
def CostCountsUptoSaid : Prop := costCountsUptoRow.holds Tryz.pinned (OpenSpec.upto costCountsSpec)

/-- 'clockworklaw13.CostChecks', WHERE WHAT IT READS IS OF BULK AT MOST 1048576: true; the input reads as it did. -/
def costChecksUptoRow : OpenClaim := { program := "ytkjefigebdbkaaagreatdoor", sum := "fec1c1771f87297bf23f497e509567b8b0740ab8de6aefb16684fe69f9e7449f", func := "clockwork/clockworklaw13.CostChecks", spec := "costChecks", unfollowed := true, recurses := true, named := ["clockwork/types.operators"], loops := true, apart := false, laid := [("clockwork/types.operators", laid_clockwork_types_operators)], narrowed := true }
def CostChecksUptoSaid : Prop := costChecksUptoRow.holds Tryz.pinned (OpenSpec.upto costChecksSpec)

end Rows
end Go.Proofs.YtkjefigebdbkaaaGreatDoor
