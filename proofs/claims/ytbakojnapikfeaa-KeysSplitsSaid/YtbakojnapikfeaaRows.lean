/-
  No cell of these rows narrows 'for every input' (looked for: loops, veiled, ifaces, maps, wideKeys, modest, calm, conditions, laid).
  DERIVED. THE GIVEN ROWS OF THIS SEAT. 7 by the template 'for every input the law returns true; each argument reads behind the call as it read before'; 0 by the template 'total and deterministic' (their statements: YtbakojnapikfeaaTotals.lean).
  GIVEN WITH THE SEED: the statements are not yours to turn. If you find one false, say at which input.
  Laid BY PROGRAM, IN A SANDBOX (cutbox-rows.mjs): the forced cells as the released guide's own fill.sh prints them over the translation 1080c000bc79885f… (all of the seat's roots in one cut). By AI agents, Wed Nov 11 2026. No macro, syntax, notation, axiom, sorry.
-/
import Derived.Test.YtbakojnapikfeaaChecked
import GoSem.Claim
import GoSem.ClaimJoined
import GoSem.ClaimMapViews
import Derived.JoinedTies
import Derived.KernelRfl
namespace Go.Proofs.Ytbakojnapikfeaa
/- THE CELL 'sum', in the pinned program and in every row, IS THE sha256 OF THE DUMP (.gsa) THAT YtbakojnapikfeaaProg.lean LOADS. Nothing in Lean hashes anything: it is a label: what it is worth is what the hold of that sum in a sandbox is worth. -/
noncomputable def Try.pinned : Pinned := { name := "ytbakojnapikfeaa", sum := "1080c000bc79885f1a40e41705659f5271537a305d24bb38958850fa82e324f0", checked := Try.checked }
namespace Rows
def none {H : Type} : Left H := { results := [], args := [] }

/-- 'clockworklaw04.KeysSplitCovers': WHATEVER THE INPUT: true; the input reads as it did. -/
def keysSplitCoversSpec : ChangeSpec := { name := "keysSplitCovers", fn := fun _ => fun
  | [d1, d2, d3] => { results := [.lit (.bool true)], args := [d1, d2, d3] }
  | _ => none }
def keysSplitCoversRow : OpenClaim := { program := "ytbakojnapikfeaa", sum := "1080c000bc79885f1a40e41705659f5271537a305d24bb38958850fa82e324f0", func := "clockwork/clockworklaw04.KeysSplitCovers", spec := "keysSplitCovers", inPlace := ["internal/bytealg.IndexByteString"], unfollowed := true, recurses := true, apart := false }
def KeysSplitCoversSaid : Prop := keysSplitCoversRow.holds Try.pinned (OpenSpec.ofChange keysSplitCoversSpec)

/-- ITS FALSE NEIGHBOUR: 'it returns false'. Refute it at one input. -/
def keysSplitCoversWrong : ChangeSpec := { name := "keysSplitCovers", fn := fun _ => fun
  | [d1, d2, d3] => { results := [.lit (.bool false)], args := [d1, d2, d3] }
  | _ => none }
def KeysSplitCoversWrongFalsely : Prop := keysSplitCoversRow.holds Try.pinned (OpenSpec.ofChange keysSplitCoversWrong)

/-- 'clockworklaw04.KeysValid': WHATEVER THE INPUT: true; the input reads as it did. -/
def keysValidSpec : ChangeSpec := { name := "keysValid", fn := fun _ => fun
  | [d1, d2] => { results := [.lit (.bool true)], args := [d1, d2] }
  | _ => none }
def keysValidRow : OpenClaim := { program := "ytbakojnapikfeaa", sum := "1080c000bc79885f1a40e41705659f5271537a305d24bb38958850fa82e324f0", func := "clockwork/clockworklaw04.KeysValid", spec := "keysValid", inPlace := ["internal/bytealg.IndexByteString"], unfollowed := true, recurses := true, apart := false }
def KeysValidSaid : Prop := keysValidRow.holds Try.pinned (OpenSpec.ofChange keysValidSpec)

/-- ITS FALSE NEIGHBOUR: 'it returns false'. Refute it at one input. -/
def keysValidWrong : ChangeSpec := { name := "keysValid", fn := fun _ => fun
  | [d1, d2] => { results := [.lit (.bool false)], args := [d1, d2] }
  | _ => none }
def KeysValidWrongFalsely : Prop := keysValidRow.holds Try.pinned (OpenSpec.ofChange keysValidWrong)

/-- 'clockworklaw04.KeysCovers': WHATEVER THE INPUT: true; the input reads as it did. -/
def keysCoversSpec : ChangeSpec := { name := "keysCovers", fn := fun _ => fun
  | [d1, d2, d3] => { results := [.lit (.bool true)], args := [d1, d2, d3] }
  | _ => none }
def keysCoversRow : OpenClaim := { program := "ytbakojnapikfeaa", sum := "1080c000bc79885f1a40e41705659f5271537a305d24bb38958850fa82e324f0", func := "clockwork/clockworklaw04.KeysCovers", spec := "keysCovers", inPlace := ["internal/bytealg.IndexByteString"], unfollowed := true, recurses := true, apart := false }
def KeysCoversSaid : Prop := keysCoversRow.holds Try.pinned (OpenSpec.ofChange keysCoversSpec)

/-- ITS FALSE NEIGHBOUR: 'it returns false'. Refute it at one input. -/
def keysCoversWrong : ChangeSpec := { name := "keysCovers", fn := fun _ => fun
  | [d1, d2, d3] => { results := [.lit (.bool false)], args := [d1, d2, d3] }
  | _ => none }
def KeysCoversWrongFalsely : Prop := keysCoversRow.holds Try.pinned (OpenSpec.ofChange keysCoversWrong)

/-- 'clockworklaw04.KeysIntersects': WHATEVER THE INPUT: true; the input reads as it did. -/
def keysIntersectsSpec : ChangeSpec := { name := "keysIntersects", fn := fun _ => fun
  | [d1, d2, d3] => { results := [.lit (.bool true)], args := [d1, d2, d3] }
  | _ => none }
def keysIntersectsRow : OpenClaim := { program := "ytbakojnapikfeaa", sum := "1080c000bc79885f1a40e41705659f5271537a305d24bb38958850fa82e324f0", func := "clockwork/clockworklaw04.KeysIntersects", spec := "keysIntersects", inPlace := ["internal/bytealg.IndexByteString"], unfollowed := true, recurses := true, apart := false }
def KeysIntersectsSaid : Prop := keysIntersectsRow.holds Try.pinned (OpenSpec.ofChange keysIntersectsSpec)

/-- ITS FALSE NEIGHBOUR: 'it returns false'. Refute it at one input. -/
def keysIntersectsWrong : ChangeSpec := { name := "keysIntersects", fn := fun _ => fun
  | [d1, d2, d3] => { results := [.lit (.bool false)], args := [d1, d2, d3] }
  | _ => none }
def KeysIntersectsWrongFalsely : Prop := keysIntersectsRow.holds Try.pinned (OpenSpec.ofChange keysIntersectsWrong)

/-- 'clockworklaw04.KeysSplits': WHATEVER THE INPUT: true; the input reads as it did. -/
def keysSplitsSpec : ChangeSpec := { name := "keysSplits", fn := fun _ => fun
  | [d1, d2] => { results := [.lit (.bool true)], args := [d1, d2] }
  | _ => none }
def keysSplitsRow : OpenClaim := { program := "ytbakojnapikfeaa", sum := "1080c000bc79885f1a40e41705659f5271537a305d24bb38958850fa82e324f0", func := "clockwork/clockworklaw04.KeysSplits", spec := "keysSplits", inPlace := ["internal/bytealg.IndexByteString"], unfollowed := true, recurses := true, apart := false }
def KeysSplitsSaid : Prop := keysSplitsRow.holds Try.pinned (OpenSpec.ofChange keysSplitsSpec)

/-- ITS FALSE NEIGHBOUR: 'it returns false'. Refute it at one input. -/
def keysSplitsWrong : ChangeSpec := { name := "keysSplits", fn := fun _ => fun
  | [d1, d2] => { results := [.lit (.bool false)], args := [d1, d2] }
  | _ => none }
def KeysSplitsWrongFalsely : Prop := keysSplitsRow.holds Try.pinned (OpenSpec.ofChange keysSplitsWrong)

/-- 'clockworklaw04.KeysPrefixes': WHATEVER THE INPUT: true; the input reads as it did. -/
def keysPrefixesSpec : ChangeSpec := { name := "keysPrefixes", fn := fun _ => fun
  | [d1, d2] => { results := [.lit (.bool true)], args := [d1, d2] }
  | _ => none }
def keysPrefixesRow : OpenClaim := { program := "ytbakojnapikfeaa", sum := "1080c000bc79885f1a40e41705659f5271537a305d24bb38958850fa82e324f0", func := "clockwork/clockworklaw04.KeysPrefixes", spec := "keysPrefixes", inPlace := ["internal/bytealg.IndexByteString"], unfollowed := true, recurses := true, apart := false }
def KeysPrefixesSaid : Prop := keysPrefixesRow.holds Try.pinned (OpenSpec.ofChange keysPrefixesSpec)

/-- ITS FALSE NEIGHBOUR: 'it returns false'. Refute it at one input. -/
def keysPrefixesWrong : ChangeSpec := { name := "keysPrefixes", fn := fun _ => fun
  | [d1, d2] => { results := [.lit (.bool false)], args := [d1, d2] }
  | _ => none }
def KeysPrefixesWrongFalsely : Prop := keysPrefixesRow.holds Try.pinned (OpenSpec.ofChange keysPrefixesWrong)

/-- 'clockworklaw04.KeysSame': WHATEVER THE INPUT: true; the input reads as it did. -/
def keysSameSpec : ChangeSpec := { name := "keysSame", fn := fun _ => fun
  | [d1, d2] => { results := [.lit (.bool true)], args := [d1, d2] }
  | _ => none }
def keysSameRow : OpenClaim := { program := "ytbakojnapikfeaa", sum := "1080c000bc79885f1a40e41705659f5271537a305d24bb38958850fa82e324f0", func := "clockwork/clockworklaw04.KeysSame", spec := "keysSame", inPlace := ["internal/bytealg.IndexByteString"], unfollowed := true, recurses := true, apart := false }
def KeysSameSaid : Prop := keysSameRow.holds Try.pinned (OpenSpec.ofChange keysSameSpec)

/-- ITS FALSE NEIGHBOUR: 'it returns false'. Refute it at one input. -/
def keysSameWrong : ChangeSpec := { name := "keysSame", fn := fun _ => fun
  | [d1, d2] => { results := [.lit (.bool false)], args := [d1, d2] }
  | _ => none }
def KeysSameWrongFalsely : Prop := keysSameRow.holds Try.pinned (OpenSpec.ofChange keysSameWrong)

/- THE SECOND FORM. 'bulk': how many values and letters a reading holds, each counted each time it is reached (what is shared counts as often as it is met; a slice's spare places count too). A statement '..UptoSaid' is the law's where the arguments, and the package variables that the reading takes, are together of bulk at most 1048576: NARROWER than '..Said'. Prove '..Said' where nothing that the law and all that it calls make is longer than what came in: it says more and counts as full. Else prove '..UptoSaid'. A law counts once. -/
mutual
def uptoBulk {H : Type} : DataW H → Nat
  | .lit (.string bytes) => bytes.length + 1
  | .lit _ => 1
  | .nil => 1
  | .ptr d => uptoBulk d + 1
  | .slice elems spare => uptoBulkAll elems + uptoBulkAll spare + 1
  | .agg parts => uptoBulkAll parts + 1
  | .iface _ d => uptoBulk d + 1
  | .map entries => uptoBulkEntries entries + 1
  | .held _ => 1
def uptoBulkAll {H : Type} : List (DataW H) → Nat
  | [] => 0
  | d :: r => uptoBulk d + uptoBulkAll r
def uptoBulkEntries {H : Type} : List (Lit × DataW H) → Nat
  | [] => 0
  | x :: r => uptoBulkEntry x + uptoBulkEntries r
def uptoBulkEntry {H : Type} : Lit × DataW H → Nat
  | (.string bytes, d) => bytes.length + uptoBulk d + 1
  | (_, d) => uptoBulk d + 1
 end
def uptoSmall : (H : Type) → List (DataW H) → Bool := fun _ ds => decide (uptoBulkAll ds ≤ 1048576)
def OpenSpec.upto (s : _root_.Go.ChangeSpec) : _root_.Go.OpenSpec := { _root_.Go.OpenSpec.ofChange s with cond := some uptoSmall }

/-- 'clockworklaw04.KeysSplitCovers', WHERE WHAT IT READS IS OF BULK AT MOST 1048576: true; the input reads as it did. -/
def keysSplitCoversUptoRow : OpenClaim := { program := "ytbakojnapikfeaa", sum := "1080c000bc79885f1a40e41705659f5271537a305d24bb38958850fa82e324f0", func := "clockwork/clockworklaw04.KeysSplitCovers", spec := "keysSplitCovers", inPlace := ["internal/bytealg.IndexByteString"], unfollowed := true, recurses := true, apart := false, narrowed := true }
def KeysSplitCoversUptoSaid : Prop := keysSplitCoversUptoRow.holds Try.pinned (OpenSpec.upto keysSplitCoversSpec)

/-- 'clockworklaw04.KeysValid', WHERE WHAT IT READS IS OF BULK AT MOST 1048576: true; the input reads as it did. -/
def keysValidUptoRow : OpenClaim := { program := "ytbakojnapikfeaa", sum := "1080c000bc79885f1a40e41705659f5271537a305d24bb38958850fa82e324f0", func := "clockwork/clockworklaw04.KeysValid", spec := "keysValid", inPlace := ["internal/bytealg.IndexByteString"], unfollowed := true, recurses := true, apart := false, narrowed := true }
def KeysValidUptoSaid : Prop := keysValidUptoRow.holds Try.pinned (OpenSpec.upto keysValidSpec)

/-- 'clockworklaw04.KeysCovers', WHERE WHAT IT READS IS OF BULK AT MOST 1048576: true; the input reads as it did. -/
def keysCoversUptoRow : OpenClaim := { program := "ytbakojnapikfeaa", sum := "1080c000bc79885f1a40e41705659f5271537a305d24bb38958850fa82e324f0", func := "clockwork/clockworklaw04.KeysCovers", spec := "keysCovers", inPlace := ["internal/bytealg.IndexByteString"], unfollowed := true, recurses := true, apart := false, narrowed := true }
def KeysCoversUptoSaid : Prop := keysCoversUptoRow.holds Try.pinned (OpenSpec.upto keysCoversSpec)

/-- 'clockworklaw04.KeysIntersects', WHERE WHAT IT READS IS OF BULK AT MOST 1048576: true; the input reads as it did. -/
def keysIntersectsUptoRow : OpenClaim := { program := "ytbakojnapikfeaa", sum := "1080c000bc79885f1a40e41705659f5271537a305d24bb38958850fa82e324f0", func := "clockwork/clockworklaw04.KeysIntersects", spec := "keysIntersects", inPlace := ["internal/bytealg.IndexByteString"], unfollowed := true, recurses := true, apart := false, narrowed := true }
def KeysIntersectsUptoSaid : Prop := keysIntersectsUptoRow.holds Try.pinned (OpenSpec.upto keysIntersectsSpec)

/-- 'clockworklaw04.KeysSplits', WHERE WHAT IT READS IS OF BULK AT MOST 1048576: true; the input reads as it did. -/
def keysSplitsUptoRow : OpenClaim := { program := "ytbakojnapikfeaa", sum := "1080c000bc79885f1a40e41705659f5271537a305d24bb38958850fa82e324f0", func := "clockwork/clockworklaw04.KeysSplits", spec := "keysSplits", inPlace := ["internal/bytealg.IndexByteString"], unfollowed := true, recurses := true, apart := false, narrowed := true }
def KeysSplitsUptoSaid : Prop := keysSplitsUptoRow.holds Try.pinned (OpenSpec.upto keysSplitsSpec)

/-- 'clockworklaw04.KeysPrefixes', WHERE WHAT IT READS IS OF BULK AT MOST 1048576: true; the input reads as it did. -/
def keysPrefixesUptoRow : OpenClaim := { program := "ytbakojnapikfeaa", sum := "1080c000bc79885f1a40e41705659f5271537a305d24bb38958850fa82e324f0", func := "clockwork/clockworklaw04.KeysPrefixes", spec := "keysPrefixes", inPlace := ["internal/bytealg.IndexByteString"], unfollowed := true, recurses := true, apart := false, narrowed := true }
def KeysPrefixesUptoSaid : Prop := keysPrefixesUptoRow.holds Try.pinned (OpenSpec.upto keysPrefixesSpec)

/-- 'clockworklaw04.KeysSame', WHERE WHAT IT READS IS OF BULK AT MOST 1048576: true; the input reads as it did. -/
def keysSameUptoRow : OpenClaim := { program := "ytbakojnapikfeaa", sum := "1080c000bc79885f1a40e41705659f5271537a305d24bb38958850fa82e324f0", func := "clockwork/clockworklaw04.KeysSame", spec := "keysSame", inPlace := ["internal/bytealg.IndexByteString"], unfollowed := true, recurses := true, apart := false, narrowed := true }
def KeysSameUptoSaid : Prop := keysSameUptoRow.holds Try.pinned (OpenSpec.upto keysSameSpec)

end Rows
end Go.Proofs.Ytbakojnapikfeaa
