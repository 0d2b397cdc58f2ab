/-
  NARROWER THAN 'FOR EVERY INPUT', by the rows' own cells (each row's printed sentence says how): DeterminismExprs: loops · DeterminismParts: loops.
  DERIVED. THE GIVEN ROWS OF THIS SEAT. 2 by the template 'for every input the law returns true; each argument reads behind the call as it read before'; 0 by the template 'total and deterministic' (their statements: YtgjnddjpinhkgaaTotals.lean).
  GIVEN WITH THE SEED: the statements are not yours to turn. If you find one false, say at which input.
  Laid BY PROGRAM, IN A SANDBOX (cutbox-rows.mjs): the forced cells as the released guide's own fill.sh prints them over the translation e5b86884b7d785f8… (all of the seat's roots in one cut). By AI agents, Wed Nov 11 2026. No macro, syntax, notation, axiom, sorry.
-/
import Derived.Test.YtgjnddjpinhkgaaChecked
import GoSem.Claim
import GoSem.ClaimJoined
import GoSem.ClaimMapViews
import Derived.JoinedTies
import Derived.KernelRfl
namespace Go.Proofs.Ytgjnddjpinhkgaa
/- THE CELL 'sum', in the pinned program and in every row, IS THE sha256 OF THE DUMP (.gsa) THAT YtgjnddjpinhkgaaProg.lean LOADS. Nothing in Lean hashes anything: it is a label: what it is worth is what the hold of that sum in a sandbox is worth. -/
noncomputable def Try.pinned : Pinned := { name := "ytgjnddjpinhkgaa", sum := "e5b86884b7d785f8ea78d9b730b651ba71f8a255b5e7d8f18fabade1148444bc", checked := Try.checked }
namespace Rows
def none {H : Type} : Left H := { results := [], args := [] }

/-- 'clockworklaw12.DeterminismExprs': WHATEVER THE INPUT: true; the input reads as it did. -/
def determinismExprsSpec : ChangeSpec := { name := "determinismExprs", fn := fun _ => fun
  | [d] => { results := [.lit (.bool true)], args := [d] }
  | _ => none }
def determinismExprsRow : OpenClaim := { program := "ytgjnddjpinhkgaa", sum := "e5b86884b7d785f8ea78d9b730b651ba71f8a255b5e7d8f18fabade1148444bc", func := "clockwork/clockworklaw12.DeterminismExprs", spec := "determinismExprs", unfollowed := true, recurses := true, loops := true, apart := false }
def DeterminismExprsSaid : Prop := determinismExprsRow.holds Try.pinned (OpenSpec.ofChange determinismExprsSpec)

/-- ITS FALSE NEIGHBOUR: 'it returns false'. Refute it at one input. -/
def determinismExprsWrong : ChangeSpec := { name := "determinismExprs", fn := fun _ => fun
  | [d] => { results := [.lit (.bool false)], args := [d] }
  | _ => none }
def DeterminismExprsWrongFalsely : Prop := determinismExprsRow.holds Try.pinned (OpenSpec.ofChange determinismExprsWrong)

/-- 'clockworklaw12.DeterminismParts': WHATEVER THE INPUT: true; the input reads as it did. -/
def determinismPartsSpec : ChangeSpec := { name := "determinismParts", fn := fun _ => fun
  | [d] => { results := [.lit (.bool true)], args := [d] }
  | _ => none }
def determinismPartsRow : OpenClaim := { program := "ytgjnddjpinhkgaa", sum := "e5b86884b7d785f8ea78d9b730b651ba71f8a255b5e7d8f18fabade1148444bc", func := "clockwork/clockworklaw12.DeterminismParts", spec := "determinismParts", unfollowed := true, recurses := true, loops := true, apart := false }
def DeterminismPartsSaid : Prop := determinismPartsRow.holds Try.pinned (OpenSpec.ofChange determinismPartsSpec)

/-- ITS FALSE NEIGHBOUR: 'it returns false'. Refute it at one input. -/
def determinismPartsWrong : ChangeSpec := { name := "determinismParts", fn := fun _ => fun
  | [d] => { results := [.lit (.bool false)], args := [d] }
  | _ => none }
def DeterminismPartsWrongFalsely : Prop := determinismPartsRow.holds Try.pinned (OpenSpec.ofChange determinismPartsWrong)

/- THE SECOND FORM. 'bulk': how many values and letters a reading holds, each counted each time it is reached (what is shared counts as often as it is met; a slice's spare places count too). A statement '..UptoSaid' is the law's where the arguments, and the package variables that the reading takes, are together of bulk at most 1048576: NARROWER than '..Said'. Prove '..Said' where nothing that the law and all that it calls make is longer than what came in: it says more and counts as full. Else prove '..UptoSaid'. A law counts once. -/
mutual
def uptoBulk {H : Type} : DataW H → Nat
  | .lit (.string bytes) => bytes.length + 1
  | .lit _ => 1
  | .nil => 1
  | .ptr d => uptoBulk d + 1
  | .slice elems spare => uptoBulkAll elems + uptoBulkAll spare + 1
  | .agg parts => uptoBulkAll parts + 1
  | .iface _ d => uptoBulk d + 1
  | .map entries => uptoBulkEntries entries + 1
  | .held _ => 1
def uptoBulkAll {H : Type} : List (DataW H) → Nat
  | [] => 0
  | d :: r => uptoBulk d + uptoBulkAll r
def uptoBulkEntries {H : Type} : List (Lit × DataW H) → Nat
  | [] => 0
  | x :: r => uptoBulkEntry x + uptoBulkEntries r
def uptoBulkEntry {H : Type} : Lit × DataW H → Nat
  | (.string bytes, d) => bytes.length + uptoBulk d + 1
  | (_, d) => uptoBulk d + 1
 end
def uptoSmall : (H : Type) → List (DataW H) → Bool := fun _ ds => decide (uptoBulkAll ds ≤ 1048576)
def OpenSpec.upto (s : _root_.Go.ChangeSpec) : _root_.Go.OpenSpec := { _root_.Go.OpenSpec.ofChange s with cond := some uptoSmall }

/-- 'clockworklaw12.DeterminismExprs', WHERE WHAT IT READS IS OF BULK AT MOST 1048576: true; the input reads as it did. -/
def determinismExprsUptoRow : OpenClaim := { program := "ytgjnddjpinhkgaa", sum := "e5b86884b7d785f8ea78d9b730b651ba71f8a255b5e7d8f18fabade1148444bc", func := "clockwork/clockworklaw12.DeterminismExprs", spec := "determinismExprs", unfollowed := true, recurses := true, loops := true, apart := false, narrowed := true }
def DeterminismExprsUptoSaid : Prop := determinismExprsUptoRow.holds Try.pinned (OpenSpec.upto determinismExprsSpec)

/-- 'clockworklaw12.DeterminismParts', WHERE WHAT IT READS IS OF BULK AT MOST 1048576: true; the input reads as it did. -/
def determinismPartsUptoRow : OpenClaim := { program := "ytgjnddjpinhkgaa", sum := "e5b86884b7d785f8ea78d9b730b651ba71f8a255b5e7d8f18fabade1148444bc", func := "clockwork/clockworklaw12.DeterminismParts", spec := "determinismParts", unfollowed := true, recurses := true, loops := true, apart := false, narrowed := true }
def DeterminismPartsUptoSaid : Prop := determinismPartsUptoRow.holds Try.pinned (OpenSpec.upto determinismPartsSpec)

end Rows
end Go.Proofs.Ytgjnddjpinhkgaa
