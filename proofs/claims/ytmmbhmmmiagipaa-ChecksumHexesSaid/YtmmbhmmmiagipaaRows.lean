/-
  No cell of these rows narrows 'for every input' (looked for: loops, veiled, ifaces, maps, wideKeys, modest, calm, conditions, laid).
  DERIVED. THE GIVEN ROWS OF THIS SEAT. 6 by the template 'for every input the law returns true; each argument reads behind the call as it read before'; 0 by the template 'total and deterministic' (their statements: YtmmbhmmmiagipaaTotals.lean).
  GIVEN WITH THE SEED: the statements are not yours to turn. If you find one false, say at which input.
  Laid BY PROGRAM, IN A SANDBOX (cutbox-rows.mjs): the forced cells as the released guide's own fill.sh prints them over the translation 5d1f16f31505d520… (all of the seat's roots in one cut). By AI agents, Wed Nov 11 2026. No macro, syntax, notation, axiom, sorry.
-/
import Derived.Test.YtmmbhmmmiagipaaChecked
import GoSem.Claim
import GoSem.ClaimJoined
import GoSem.ClaimMapViews
import Derived.JoinedTies
import Derived.KernelRfl
namespace Go.Proofs.Ytmmbhmmmiagipaa
/- THE CELL 'sum', in the pinned program and in every row, IS THE sha256 OF THE DUMP (.gsa) THAT YtmmbhmmmiagipaaProg.lean LOADS. Nothing in Lean hashes anything: it is a label: what it is worth is what the hold of that sum in a sandbox is worth. -/
noncomputable def Try.pinned : Pinned := { name := "ytmmbhmmmiagipaa", sum := "5d1f16f31505d520a61c00ce27c7813464c83173ace92b64c0a689c7dbd7cc98", checked := Try.checked }
namespace Rows
def none {H : Type} : Left H := { results := [], args := [] }

/-- 'clockworklaw03.ChecksumOpens': WHATEVER THE INPUT: true; the input reads as it did. -/
def checksumOpensSpec : ChangeSpec := { name := "checksumOpens", fn := fun _ => fun
  | [d1, d2, d3] => { results := [.lit (.bool true)], args := [d1, d2, d3] }
  | _ => none }
def checksumOpensRow : OpenClaim := { program := "ytmmbhmmmiagipaa", sum := "5d1f16f31505d520a61c00ce27c7813464c83173ace92b64c0a689c7dbd7cc98", func := "clockwork/clockworklaw03.ChecksumOpens", spec := "checksumOpens", apart := false }
def ChecksumOpensSaid : Prop := checksumOpensRow.holds Try.pinned (OpenSpec.ofChange checksumOpensSpec)

/-- ITS FALSE NEIGHBOUR: 'it returns false'. Refute it at one input. -/
def checksumOpensWrong : ChangeSpec := { name := "checksumOpens", fn := fun _ => fun
  | [d1, d2, d3] => { results := [.lit (.bool false)], args := [d1, d2, d3] }
  | _ => none }
def ChecksumOpensWrongFalsely : Prop := checksumOpensRow.holds Try.pinned (OpenSpec.ofChange checksumOpensWrong)

/-- 'clockworklaw03.ChecksumHashes': WHATEVER THE INPUT: true; the input reads as it did. -/
def checksumHashesSpec : ChangeSpec := { name := "checksumHashes", fn := fun _ => fun
  | [d1, d2, d3] => { results := [.lit (.bool true)], args := [d1, d2, d3] }
  | _ => none }
def checksumHashesRow : OpenClaim := { program := "ytmmbhmmmiagipaa", sum := "5d1f16f31505d520a61c00ce27c7813464c83173ace92b64c0a689c7dbd7cc98", func := "clockwork/clockworklaw03.ChecksumHashes", spec := "checksumHashes", apart := false }
def ChecksumHashesSaid : Prop := checksumHashesRow.holds Try.pinned (OpenSpec.ofChange checksumHashesSpec)

/-- ITS FALSE NEIGHBOUR: 'it returns false'. Refute it at one input. -/
def checksumHashesWrong : ChangeSpec := { name := "checksumHashes", fn := fun _ => fun
  | [d1, d2, d3] => { results := [.lit (.bool false)], args := [d1, d2, d3] }
  | _ => none }
def ChecksumHashesWrongFalsely : Prop := checksumHashesRow.holds Try.pinned (OpenSpec.ofChange checksumHashesWrong)

/-- 'clockworklaw03.ChecksumSums': WHATEVER THE INPUT: true; the input reads as it did. -/
def checksumSumsSpec : ChangeSpec := { name := "checksumSums", fn := fun _ => fun
  | [d1, d2] => { results := [.lit (.bool true)], args := [d1, d2] }
  | _ => none }
def checksumSumsRow : OpenClaim := { program := "ytmmbhmmmiagipaa", sum := "5d1f16f31505d520a61c00ce27c7813464c83173ace92b64c0a689c7dbd7cc98", func := "clockwork/clockworklaw03.ChecksumSums", spec := "checksumSums", apart := false }
def ChecksumSumsSaid : Prop := checksumSumsRow.holds Try.pinned (OpenSpec.ofChange checksumSumsSpec)

/-- ITS FALSE NEIGHBOUR: 'it returns false'. Refute it at one input. -/
def checksumSumsWrong : ChangeSpec := { name := "checksumSums", fn := fun _ => fun
  | [d1, d2] => { results := [.lit (.bool false)], args := [d1, d2] }
  | _ => none }
def ChecksumSumsWrongFalsely : Prop := checksumSumsRow.holds Try.pinned (OpenSpec.ofChange checksumSumsWrong)

/-- 'clockworklaw03.ChecksumHexes': WHATEVER THE INPUT: true; the input reads as it did. -/
def checksumHexesSpec : ChangeSpec := { name := "checksumHexes", fn := fun _ => fun
  | [d1, d2] => { results := [.lit (.bool true)], args := [d1, d2] }
  | _ => none }
def checksumHexesRow : OpenClaim := { program := "ytmmbhmmmiagipaa", sum := "5d1f16f31505d520a61c00ce27c7813464c83173ace92b64c0a689c7dbd7cc98", func := "clockwork/clockworklaw03.ChecksumHexes", spec := "checksumHexes", inPlace := ["internal/bytealg.IndexByteString"], apart := false }
def ChecksumHexesSaid : Prop := checksumHexesRow.holds Try.pinned (OpenSpec.ofChange checksumHexesSpec)

/-- ITS FALSE NEIGHBOUR: 'it returns false'. Refute it at one input. -/
def checksumHexesWrong : ChangeSpec := { name := "checksumHexes", fn := fun _ => fun
  | [d1, d2] => { results := [.lit (.bool false)], args := [d1, d2] }
  | _ => none }
def ChecksumHexesWrongFalsely : Prop := checksumHexesRow.holds Try.pinned (OpenSpec.ofChange checksumHexesWrong)

/-- 'clockworklaw03.ChecksumConcatenates': WHATEVER THE INPUT: true; the input reads as it did. -/
def checksumConcatenatesSpec : ChangeSpec := { name := "checksumConcatenates", fn := fun _ => fun
  | [d1, d2, d3] => { results := [.lit (.bool true)], args := [d1, d2, d3] }
  | _ => none }
def checksumConcatenatesRow : OpenClaim := { program := "ytmmbhmmmiagipaa", sum := "5d1f16f31505d520a61c00ce27c7813464c83173ace92b64c0a689c7dbd7cc98", func := "clockwork/clockworklaw03.ChecksumConcatenates", spec := "checksumConcatenates", apart := false }
def ChecksumConcatenatesSaid : Prop := checksumConcatenatesRow.holds Try.pinned (OpenSpec.ofChange checksumConcatenatesSpec)

/-- ITS FALSE NEIGHBOUR: 'it returns false'. Refute it at one input. -/
def checksumConcatenatesWrong : ChangeSpec := { name := "checksumConcatenates", fn := fun _ => fun
  | [d1, d2, d3] => { results := [.lit (.bool false)], args := [d1, d2, d3] }
  | _ => none }
def ChecksumConcatenatesWrongFalsely : Prop := checksumConcatenatesRow.holds Try.pinned (OpenSpec.ofChange checksumConcatenatesWrong)

/-- 'clockworklaw03.ChecksumDiffers': WHATEVER THE INPUT: true; the input reads as it did. -/
def checksumDiffersSpec : ChangeSpec := { name := "checksumDiffers", fn := fun _ => fun
  | [d1, d2, d3] => { results := [.lit (.bool true)], args := [d1, d2, d3] }
  | _ => none }
def checksumDiffersRow : OpenClaim := { program := "ytmmbhmmmiagipaa", sum := "5d1f16f31505d520a61c00ce27c7813464c83173ace92b64c0a689c7dbd7cc98", func := "clockwork/clockworklaw03.ChecksumDiffers", spec := "checksumDiffers", apart := false }
def ChecksumDiffersSaid : Prop := checksumDiffersRow.holds Try.pinned (OpenSpec.ofChange checksumDiffersSpec)

/-- ITS FALSE NEIGHBOUR: 'it returns false'. Refute it at one input. -/
def checksumDiffersWrong : ChangeSpec := { name := "checksumDiffers", fn := fun _ => fun
  | [d1, d2, d3] => { results := [.lit (.bool false)], args := [d1, d2, d3] }
  | _ => none }
def ChecksumDiffersWrongFalsely : Prop := checksumDiffersRow.holds Try.pinned (OpenSpec.ofChange checksumDiffersWrong)

/- THE SECOND FORM. 'bulk': how many values and letters a reading holds, each counted each time it is reached (what is shared counts as often as it is met; a slice's spare places count too). A statement '..UptoSaid' is the law's where the arguments, and the package variables that the reading takes, are together of bulk at most 1048576: NARROWER than '..Said'. Prove '..Said' where nothing that the law and all that it calls make is longer than what came in: it says more and counts as full. Else prove '..UptoSaid'. A law counts once. -/
mutual
def uptoBulk {H : Type} : DataW H → Nat
  | .lit (.string bytes) => bytes.length + 1
  | .lit _ => 1
  | .nil => 1
  | .ptr d => uptoBulk d + 1
  | .slice elems spare => uptoBulkAll elems + uptoBulkAll spare + 1
  | .agg parts => uptoBulkAll parts + 1
  | .iface _ d => uptoBulk d + 1
  | .map entries => uptoBulkEntries entries + 1
  | .held _ => 1
def uptoBulkAll {H : Type} : List (DataW H) → Nat
  | [] => 0
  | d :: r => uptoBulk d + uptoBulkAll r
def uptoBulkEntries {H : Type} : List (Lit × DataW H) → Nat
  | [] => 0
  | x :: r => uptoBulkEntry x + uptoBulkEntries r
def uptoBulkEntry {H : Type} : Lit × DataW H → Nat
  | (.string bytes, d) => bytes.length + uptoBulk d + 1
  | (_, d) => uptoBulk d + 1
 end
def uptoSmall : (H : Type) → List (DataW H) → Bool := fun _ ds => decide (uptoBulkAll ds ≤ 1048576)
def OpenSpec.upto (s : _root_.Go.ChangeSpec) : _root_.Go.OpenSpec := { _root_.Go.OpenSpec.ofChange s with cond := some uptoSmall }

/-- 'clockworklaw03.ChecksumOpens', WHERE WHAT IT READS IS OF BULK AT MOST 1048576: true; the input reads as it did. -/
def checksumOpensUptoRow : OpenClaim := { program := "ytmmbhmmmiagipaa", sum := "5d1f16f31505d520a61c00ce27c7813464c83173ace92b64c0a689c7dbd7cc98", func := "clockwork/clockworklaw03.ChecksumOpens", spec := "checksumOpens", apart := false, narrowed := true }
def ChecksumOpensUptoSaid : Prop := checksumOpensUptoRow.holds Try.pinned (OpenSpec.upto checksumOpensSpec)

/-- 'clockworklaw03.ChecksumHashes', WHERE WHAT IT READS IS OF BULK AT MOST 1048576: true; the input reads as it did. -/
def checksumHashesUptoRow : OpenClaim := { program := "ytmmbhmmmiagipaa", sum := "5d1f16f31505d520a61c00ce27c7813464c83173ace92b64c0a689c7dbd7cc98", func := "clockwork/clockworklaw03.ChecksumHashes", spec := "checksumHashes", apart := false, narrowed := true }
def ChecksumHashesUptoSaid : Prop := checksumHashesUptoRow.holds Try.pinned (OpenSpec.upto checksumHashesSpec)

/-- 'clockworklaw03.ChecksumSums', WHERE WHAT IT READS IS OF BULK AT MOST 1048576: true; the input reads as it did. -/
def checksumSumsUptoRow : OpenClaim := { program := "ytmmbhmmmiagipaa", sum := "5d1f16f31505d520a61c00ce27c7813464c83173ace92b64c0a689c7dbd7cc98", func := "clockwork/clockworklaw03.ChecksumSums", spec := "checksumSums", apart := false, narrowed := true }
def ChecksumSumsUptoSaid : Prop := checksumSumsUptoRow.holds Try.pinned (OpenSpec.upto checksumSumsSpec)

/-- 'clockworklaw03.ChecksumHexes', WHERE WHAT IT READS IS OF BULK AT MOST 1048576: true; the input reads as it did. -/
def checksumHexesUptoRow : OpenClaim := { program := "ytmmbhmmmiagipaa", sum := "5d1f16f31505d520a61c00ce27c7813464c83173ace92b64c0a689c7dbd7cc98", func := "clockwork/clockworklaw03.ChecksumHexes", spec := "checksumHexes", inPlace := ["internal/bytealg.IndexByteString"], apart := false, narrowed := true }
def ChecksumHexesUptoSaid : Prop := checksumHexesUptoRow.holds Try.pinned (OpenSpec.upto checksumHexesSpec)

/-- 'clockworklaw03.ChecksumConcatenates', WHERE WHAT IT READS IS OF BULK AT MOST 1048576: true; the input reads as it did. -/
def checksumConcatenatesUptoRow : OpenClaim := { program := "ytmmbhmmmiagipaa", sum := "5d1f16f31505d520a61c00ce27c7813464c83173ace92b64c0a689c7dbd7cc98", func := "clockwork/clockworklaw03.ChecksumConcatenates", spec := "checksumConcatenates", apart := false, narrowed := true }
def ChecksumConcatenatesUptoSaid : Prop := checksumConcatenatesUptoRow.holds Try.pinned (OpenSpec.upto checksumConcatenatesSpec)

/-- 'clockworklaw03.ChecksumDiffers', WHERE WHAT IT READS IS OF BULK AT MOST 1048576: true; the input reads as it did. -/
def checksumDiffersUptoRow : OpenClaim := { program := "ytmmbhmmmiagipaa", sum := "5d1f16f31505d520a61c00ce27c7813464c83173ace92b64c0a689c7dbd7cc98", func := "clockwork/clockworklaw03.ChecksumDiffers", spec := "checksumDiffers", apart := false, narrowed := true }
def ChecksumDiffersUptoSaid : Prop := checksumDiffersUptoRow.holds Try.pinned (OpenSpec.upto checksumDiffersSpec)

end Rows
end Go.Proofs.Ytmmbhmmmiagipaa
