/-
  NARROWER THAN 'FOR EVERY INPUT', by the rows' own cells (each row's printed sentence says how): AstChecksExprs: loops · AstValidates: loops · AstWalks: loops · AstEquals: loops · AstRenamed: loops · AstRenames: loops · AstBounds: loops.
  DERIVED. THE GIVEN ROWS OF THIS SEAT. 8 by the template 'for every input the law returns true; each argument reads behind the call as it read before'; 0 by the template 'total and deterministic' (their statements: YtffamknoamknpaaTotals.lean).
  GIVEN WITH THE SEED: the statements are not yours to turn. If you find one false, say at which input.
  Laid BY PROGRAM, IN A SANDBOX (cutbox-rows.mjs): the forced cells as the released guide's own fill.sh prints them over the translation 4da2e84e31600766… (all of the seat's roots in one cut). By AI agents, Wed Nov 11 2026. No macro, syntax, notation, axiom, sorry.
-/
import Derived.Test.YtffamknoamknpaaChecked
import GoSem.Claim
import GoSem.ClaimJoined
import GoSem.ClaimMapViews
import Derived.JoinedTies
import Derived.KernelRfl
namespace Go.Proofs.Ytffamknoamknpaa
/- THE CELL 'sum', in the pinned program and in every row, IS THE sha256 OF THE DUMP (.gsa) THAT YtffamknoamknpaaProg.lean LOADS. Nothing in Lean hashes anything: it is a label: what it is worth is what the hold of that sum in a sandbox is worth. -/
noncomputable def Try.pinned : Pinned := { name := "ytffamknoamknpaa", sum := "4da2e84e31600766cd94014ab17f31cf4a7a6b58998677290979350f2ad02e3f", checked := Try.checked }
namespace Rows
def none {H : Type} : Left H := { results := [], args := [] }

/-- 'clockworklaw08.AstArity': WHATEVER THE INPUT: true; the input reads as it did. -/
def astAritySpec : ChangeSpec := { name := "astArity", fn := fun _ => fun
  | [d] => { results := [.lit (.bool true)], args := [d] }
  | _ => none }
def astArityRow : OpenClaim := { program := "ytffamknoamknpaa", sum := "4da2e84e31600766cd94014ab17f31cf4a7a6b58998677290979350f2ad02e3f", func := "clockwork/clockworklaw08.AstArity", spec := "astArity", unfollowed := true, recurses := true, apart := false }
def AstAritySaid : Prop := astArityRow.holds Try.pinned (OpenSpec.ofChange astAritySpec)

/-- ITS FALSE NEIGHBOUR: 'it returns false'. Refute it at one input. -/
def astArityWrong : ChangeSpec := { name := "astArity", fn := fun _ => fun
  | [d] => { results := [.lit (.bool false)], args := [d] }
  | _ => none }
def AstArityWrongFalsely : Prop := astArityRow.holds Try.pinned (OpenSpec.ofChange astArityWrong)

/-- 'clockworklaw08.AstChecksExprs': WHATEVER THE INPUT: true; the input reads as it did. -/
def astChecksExprsSpec : ChangeSpec := { name := "astChecksExprs", fn := fun _ => fun
  | [d] => { results := [.lit (.bool true)], args := [d] }
  | _ => none }
def astChecksExprsRow : OpenClaim := { program := "ytffamknoamknpaa", sum := "4da2e84e31600766cd94014ab17f31cf4a7a6b58998677290979350f2ad02e3f", func := "clockwork/clockworklaw08.AstChecksExprs", spec := "astChecksExprs", unfollowed := true, recurses := true, loops := true, apart := false }
def AstChecksExprsSaid : Prop := astChecksExprsRow.holds Try.pinned (OpenSpec.ofChange astChecksExprsSpec)

/-- ITS FALSE NEIGHBOUR: 'it returns false'. Refute it at one input. -/
def astChecksExprsWrong : ChangeSpec := { name := "astChecksExprs", fn := fun _ => fun
  | [d] => { results := [.lit (.bool false)], args := [d] }
  | _ => none }
def AstChecksExprsWrongFalsely : Prop := astChecksExprsRow.holds Try.pinned (OpenSpec.ofChange astChecksExprsWrong)

/-- 'clockworklaw08.AstValidates': WHATEVER THE INPUT: true; the input reads as it did. -/
def astValidatesSpec : ChangeSpec := { name := "astValidates", fn := fun _ => fun
  | [d] => { results := [.lit (.bool true)], args := [d] }
  | _ => none }
def astValidatesRow : OpenClaim := { program := "ytffamknoamknpaa", sum := "4da2e84e31600766cd94014ab17f31cf4a7a6b58998677290979350f2ad02e3f", func := "clockwork/clockworklaw08.AstValidates", spec := "astValidates", unfollowed := true, recurses := true, loops := true, apart := false }
def AstValidatesSaid : Prop := astValidatesRow.holds Try.pinned (OpenSpec.ofChange astValidatesSpec)

/-- ITS FALSE NEIGHBOUR: 'it returns false'. Refute it at one input. -/
def astValidatesWrong : ChangeSpec := { name := "astValidates", fn := fun _ => fun
  | [d] => { results := [.lit (.bool false)], args := [d] }
  | _ => none }
def AstValidatesWrongFalsely : Prop := astValidatesRow.holds Try.pinned (OpenSpec.ofChange astValidatesWrong)

/-- 'clockworklaw08.AstWalks': WHATEVER THE INPUT: true; the input reads as it did. -/
def astWalksSpec : ChangeSpec := { name := "astWalks", fn := fun _ => fun
  | [d] => { results := [.lit (.bool true)], args := [d] }
  | _ => none }
def astWalksRow : OpenClaim := { program := "ytffamknoamknpaa", sum := "4da2e84e31600766cd94014ab17f31cf4a7a6b58998677290979350f2ad02e3f", func := "clockwork/clockworklaw08.AstWalks", spec := "astWalks", unfollowed := true, recurses := true, loops := true, apart := false }
def AstWalksSaid : Prop := astWalksRow.holds Try.pinned (OpenSpec.ofChange astWalksSpec)

/-- ITS FALSE NEIGHBOUR: 'it returns false'. Refute it at one input. -/
def astWalksWrong : ChangeSpec := { name := "astWalks", fn := fun _ => fun
  | [d] => { results := [.lit (.bool false)], args := [d] }
  | _ => none }
def AstWalksWrongFalsely : Prop := astWalksRow.holds Try.pinned (OpenSpec.ofChange astWalksWrong)

/-- 'clockworklaw08.AstEquals': WHATEVER THE INPUT: true; the input reads as it did. -/
def astEqualsSpec : ChangeSpec := { name := "astEquals", fn := fun _ => fun
  | [d1, d2] => { results := [.lit (.bool true)], args := [d1, d2] }
  | _ => none }
def astEqualsRow : OpenClaim := { program := "ytffamknoamknpaa", sum := "4da2e84e31600766cd94014ab17f31cf4a7a6b58998677290979350f2ad02e3f", func := "clockwork/clockworklaw08.AstEquals", spec := "astEquals", unfollowed := true, recurses := true, loops := true, apart := false }
def AstEqualsSaid : Prop := astEqualsRow.holds Try.pinned (OpenSpec.ofChange astEqualsSpec)

/-- ITS FALSE NEIGHBOUR: 'it returns false'. Refute it at one input. -/
def astEqualsWrong : ChangeSpec := { name := "astEquals", fn := fun _ => fun
  | [d1, d2] => { results := [.lit (.bool false)], args := [d1, d2] }
  | _ => none }
def AstEqualsWrongFalsely : Prop := astEqualsRow.holds Try.pinned (OpenSpec.ofChange astEqualsWrong)

/-- 'clockworklaw08.AstRenamed': WHATEVER THE INPUT: true; the input reads as it did. -/
def astRenamedSpec : ChangeSpec := { name := "astRenamed", fn := fun _ => fun
  | [d1, d2, d3] => { results := [.lit (.bool true)], args := [d1, d2, d3] }
  | _ => none }
def astRenamedRow : OpenClaim := { program := "ytffamknoamknpaa", sum := "4da2e84e31600766cd94014ab17f31cf4a7a6b58998677290979350f2ad02e3f", func := "clockwork/clockworklaw08.AstRenamed", spec := "astRenamed", unfollowed := true, recurses := true, loops := true, apart := false }
def AstRenamedSaid : Prop := astRenamedRow.holds Try.pinned (OpenSpec.ofChange astRenamedSpec)

/-- ITS FALSE NEIGHBOUR: 'it returns false'. Refute it at one input. -/
def astRenamedWrong : ChangeSpec := { name := "astRenamed", fn := fun _ => fun
  | [d1, d2, d3] => { results := [.lit (.bool false)], args := [d1, d2, d3] }
  | _ => none }
def AstRenamedWrongFalsely : Prop := astRenamedRow.holds Try.pinned (OpenSpec.ofChange astRenamedWrong)

/-- 'clockworklaw08.AstRenames': WHATEVER THE INPUT: true; the input reads as it did. -/
def astRenamesSpec : ChangeSpec := { name := "astRenames", fn := fun _ => fun
  | [d1, d2, d3] => { results := [.lit (.bool true)], args := [d1, d2, d3] }
  | _ => none }
def astRenamesRow : OpenClaim := { program := "ytffamknoamknpaa", sum := "4da2e84e31600766cd94014ab17f31cf4a7a6b58998677290979350f2ad02e3f", func := "clockwork/clockworklaw08.AstRenames", spec := "astRenames", unfollowed := true, recurses := true, loops := true, apart := false }
def AstRenamesSaid : Prop := astRenamesRow.holds Try.pinned (OpenSpec.ofChange astRenamesSpec)

/-- ITS FALSE NEIGHBOUR: 'it returns false'. Refute it at one input. -/
def astRenamesWrong : ChangeSpec := { name := "astRenames", fn := fun _ => fun
  | [d1, d2, d3] => { results := [.lit (.bool false)], args := [d1, d2, d3] }
  | _ => none }
def AstRenamesWrongFalsely : Prop := astRenamesRow.holds Try.pinned (OpenSpec.ofChange astRenamesWrong)

/-- 'clockworklaw08.AstBounds': WHATEVER THE INPUT: true; the input reads as it did. -/
def astBoundsSpec : ChangeSpec := { name := "astBounds", fn := fun _ => fun
  | [d] => { results := [.lit (.bool true)], args := [d] }
  | _ => none }
def astBoundsRow : OpenClaim := { program := "ytffamknoamknpaa", sum := "4da2e84e31600766cd94014ab17f31cf4a7a6b58998677290979350f2ad02e3f", func := "clockwork/clockworklaw08.AstBounds", spec := "astBounds", unfollowed := true, recurses := true, loops := true, apart := false }
def AstBoundsSaid : Prop := astBoundsRow.holds Try.pinned (OpenSpec.ofChange astBoundsSpec)

/-- ITS FALSE NEIGHBOUR: 'it returns false'. Refute it at one input. -/
def astBoundsWrong : ChangeSpec := { name := "astBounds", fn := fun _ => fun
  | [d] => { results := [.lit (.bool false)], args := [d] }
  | _ => none }
def AstBoundsWrongFalsely : Prop := astBoundsRow.holds Try.pinned (OpenSpec.ofChange astBoundsWrong)

/- THE SECOND FORM. 'bulk': how many values and letters a reading holds, each counted each time it is reached (what is shared counts as often as it is met; a slice's spare places count too). A statement '..UptoSaid' is the law's where the arguments, and the package variables that the reading takes, are together of bulk at most 1048576: NARROWER than '..Said'. Prove '..Said' where nothing that the law and all that it calls make is longer than what came in: it says more and counts as full. Else prove '..UptoSaid'. A law counts once. -/
mutual
def uptoBulk {H : Type} : DataW H → Nat
  | .lit (.string bytes) => bytes.length + 1
  | .lit _ => 1
  | .nil => 1
  | .ptr d => uptoBulk d + 1
  | .slice elems spare => uptoBulkAll elems + uptoBulkAll spare + 1
  | .agg parts => uptoBulkAll parts + 1
  | .iface _ d => uptoBulk d + 1
  | .map entries => uptoBulkEntries entries + 1
  | .held _ => 1
def uptoBulkAll {H : Type} : List (DataW H) → Nat
  | [] => 0
  | d :: r => uptoBulk d + uptoBulkAll r
def uptoBulkEntries {H : Type} : List (Lit × DataW H) → Nat
  | [] => 0
  | x :: r => uptoBulkEntry x + uptoBulkEntries r
def uptoBulkEntry {H : Type} : Lit × DataW H → Nat
  | (.string bytes, d) => bytes.length + uptoBulk d + 1
  | (_, d) => uptoBulk d + 1
 end
def uptoSmall : (H : Type) → List (DataW H) → Bool := fun _ ds => decide (uptoBulkAll ds ≤ 1048576)
def OpenSpec.upto (s : _root_.Go.ChangeSpec) : _root_.Go.OpenSpec := { _root_.Go.OpenSpec.ofChange s with cond := some uptoSmall }

/-- 'clockworklaw08.AstArity', WHERE WHAT IT READS IS OF BULK AT MOST 1048576: true; the input reads as it did. -/
def astArityUptoRow : OpenClaim := { program := "ytffamknoamknpaa", sum := "4da2e84e31600766cd94014ab17f31cf4a7a6b58998677290979350f2ad02e3f", func := "clockwork/clockworklaw08.AstArity", spec := "astArity", unfollowed := true, recurses := true, apart := false, narrowed := true }
def AstArityUptoSaid : Prop := astArityUptoRow.holds Try.pinned (OpenSpec.upto astAritySpec)

/-- 'clockworklaw08.AstChecksExprs', WHERE WHAT IT READS IS OF BULK AT MOST 1048576: true; the input reads as it did. -/
def astChecksExprsUptoRow : OpenClaim := { program := "ytffamknoamknpaa", sum := "4da2e84e31600766cd94014ab17f31cf4a7a6b58998677290979350f2ad02e3f", func := "clockwork/clockworklaw08.AstChecksExprs", spec := "astChecksExprs", unfollowed := true, recurses := true, loops := true, apart := false, narrowed := true }
def AstChecksExprsUptoSaid : Prop := astChecksExprsUptoRow.holds Try.pinned (OpenSpec.upto astChecksExprsSpec)

/-- 'clockworklaw08.AstValidates', WHERE WHAT IT READS IS OF BULK AT MOST 1048576: true; the input reads as it did. -/
def astValidatesUptoRow : OpenClaim := { program := "ytffamknoamknpaa", sum := "4da2e84e31600766cd94014ab17f31cf4a7a6b58998677290979350f2ad02e3f", func := "clockwork/clockworklaw08.AstValidates", spec := "astValidates", unfollowed := true, recurses := true, loops := true, apart := false, narrowed := true }
def AstValidatesUptoSaid : Prop := astValidatesUptoRow.holds Try.pinned (OpenSpec.upto astValidatesSpec)

/-- 'clockworklaw08.AstWalks', WHERE WHAT IT READS IS OF BULK AT MOST 1048576: true; the input reads as it did. -/
def astWalksUptoRow : OpenClaim := { program := "ytffamknoamknpaa", sum := "4da2e84e31600766cd94014ab17f31cf4a7a6b58998677290979350f2ad02e3f", func := "clockwork/clockworklaw08.AstWalks", spec := "astWalks", unfollowed := true, recurses := true, loops := true, apart := false, narrowed := true }
def AstWalksUptoSaid : Prop := astWalksUptoRow.holds Try.pinned (OpenSpec.upto astWalksSpec)

/-- 'clockworklaw08.AstEquals', WHERE WHAT IT READS IS OF BULK AT MOST 1048576: true; the input reads as it did. -/
def astEqualsUptoRow : OpenClaim := { program := "ytffamknoamknpaa", sum := "4da2e84e31600766cd94014ab17f31cf4a7a6b58998677290979350f2ad02e3f", func := "clockwork/clockworklaw08.AstEquals", spec := "astEquals", unfollowed := true, recurses := true, loops := true, apart := false, narrowed := true }
def AstEqualsUptoSaid : Prop := astEqualsUptoRow.holds Try.pinned (OpenSpec.upto astEqualsSpec)

/-- 'clockworklaw08.AstRenamed', WHERE WHAT IT READS IS OF BULK AT MOST 1048576: true; the input reads as it did. -/
def astRenamedUptoRow : OpenClaim := { program := "ytffamknoamknpaa", sum := "4da2e84e31600766cd94014ab17f31cf4a7a6b58998677290979350f2ad02e3f", func := "clockwork/clockworklaw08.AstRenamed", spec := "astRenamed", unfollowed := true, recurses := true, loops := true, apart := false, narrowed := true }
def AstRenamedUptoSaid : Prop := astRenamedUptoRow.holds Try.pinned (OpenSpec.upto astRenamedSpec)

/-- 'clockworklaw08.AstRenames', WHERE WHAT IT READS IS OF BULK AT MOST 1048576: true; the input reads as it did. -/
def astRenamesUptoRow : OpenClaim := { program := "ytffamknoamknpaa", sum := "4da2e84e31600766cd94014ab17f31cf4a7a6b58998677290979350f2ad02e3f", func := "clockwork/clockworklaw08.AstRenames", spec := "astRenames", unfollowed := true, recurses := true, loops := true, apart := false, narrowed := true }
def AstRenamesUptoSaid : Prop := astRenamesUptoRow.holds Try.pinned (OpenSpec.upto astRenamesSpec)

/-- 'clockworklaw08.AstBounds', WHERE WHAT IT READS IS OF BULK AT MOST 1048576: true; the input reads as it did. -/
def astBoundsUptoRow : OpenClaim := { program := "ytffamknoamknpaa", sum := "4da2e84e31600766cd94014ab17f31cf4a7a6b58998677290979350f2ad02e3f", func := "clockwork/clockworklaw08.AstBounds", spec := "astBounds", unfollowed := true, recurses := true, loops := true, apart := false, narrowed := true }
def AstBoundsUptoSaid : Prop := astBoundsUptoRow.holds Try.pinned (OpenSpec.upto astBoundsSpec)

end Rows
end Go.Proofs.Ytffamknoamknpaa
