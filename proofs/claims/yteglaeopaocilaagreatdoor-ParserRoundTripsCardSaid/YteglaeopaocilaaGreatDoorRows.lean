/-
  NARROWER THAN 'FOR EVERY INPUT', by the rows' own cells (each row's printed sentence says how): ParserRoundTrips: loops, laid · ParserExprs: laid · ParserProcs: laid · ParserPrograms: laid · ParserExprRoundTrips: loops, laid · ParserProgramRoundTrips: loops, laid · ParserTokens: laid.
  DERIVED. THE GIVEN ROWS OF THIS SEAT. 7 by the template 'for every input the law returns true; each argument reads behind the call as it read before'; 0 by the template 'total and deterministic' (their statements: YteglaeopaocilaaGreatDoorTotals.lean).
  GIVEN WITH THE SEED: the statements are not yours to turn. If you find one false, say at which input.
  Laid BY PROGRAM, IN A SANDBOX (cutbox-rows.mjs): the forced cells as the released guide's own fill.sh prints them over the translation 542f1b93f6c4c733… (all of the seat's roots in one cut). By AI agents, Wed Nov 11 2026. No macro, syntax, notation, axiom, sorry.
-/
import Derived.Test.YteglaeopaocilaaGreatDoorChecked
import GoSem.PinnedTables
import GoSem.Claim
import GoSem.ClaimJoined
import GoSem.ClaimMapViews
import Derived.JoinedTies
import Derived.KernelRfl
namespace Go.Proofs.YteglaeopaocilaaGreatDoor
/- THE CELL 'sum', in the pinned program and in every row, IS THE sha256 OF THE DUMP (.gsa) THAT YteglaeopaocilaaGreatDoorProg.lean LOADS. Nothing in Lean hashes anything: it is a label: what it is worth is what the hold of that sum in a sandbox is worth. -/
noncomputable def Tryz.pinned : Pinned := { name := "yteglaeopaocilaagreatdoor", sum := "542f1b93f6c4c733c84407d8824477704abd365d00dd4af60b55a6b14e5d2f28", checked := Tryz.checked }
namespace Rows
def none {H : Type} : Left H := { results := [], args := [] }

/- WHAT THE LISTED PACKAGE-LEVEL VARIABLES READ AS WHEN THE CALL BEGINS. Each datum BY PROGRAM (the guide's laid-datum.mjs) off the statement by which the dump's own 'gosem.cut.vars' lays the variable. In a bare row this is a premise. The card (YteglaeopaocilaaGreatDoorCards.lean) ties it to the program's text. -/
def laid_math_bits_deBruijn32tab {H : Type} : DataW H := .agg [.lit (.int .u8 0), .lit (.int .u8 1), .lit (.int .u8 28), .lit (.int .u8 2), .lit (.int .u8 29), .lit (.int .u8 14), .lit (.int .u8 24), .lit (.int .u8 3), .lit (.int .u8 30), .lit (.int .u8 22), .lit (.int .u8 20), .lit (.int .u8 15), .lit (.int .u8 25), .lit (.int .u8 17), .lit (.int .u8 4), .lit (.int .u8 8), .lit (.int .u8 31), .lit (.int .u8 27), .lit (.int .u8 13), .lit (.int .u8 23), .lit (.int .u8 21), .lit (.int .u8 19), .lit (.int .u8 16), .lit (.int .u8 7), .lit (.int .u8 26), .lit (.int .u8 12), .lit (.int .u8 18), .lit (.int .u8 6), .lit (.int .u8 11), .lit (.int .u8 5), .lit (.int .u8 10), .lit (.int .u8 9)]
def laid_math_bits_deBruijn64tab {H : Type} : DataW H := .agg [.lit (.int .u8 0), .lit (.int .u8 1), .lit (.int .u8 56), .lit (.int .u8 2), .lit (.int .u8 57), .lit (.int .u8 49), .lit (.int .u8 28), .lit (.int .u8 3), .lit (.int .u8 61), .lit (.int .u8 58), .lit (.int .u8 42), .lit (.int .u8 50), .lit (.int .u8 38), .lit (.int .u8 29), .lit (.int .u8 17), .lit (.int .u8 4), .lit (.int .u8 62), .lit (.int .u8 47), .lit (.int .u8 59), .lit (.int .u8 36), .lit (.int .u8 45), .lit (.int .u8 43), .lit (.int .u8 51), .lit (.int .u8 22), .lit (.int .u8 53), .lit (.int .u8 39), .lit (.int .u8 33), .lit (.int .u8 30), .lit (.int .u8 24), .lit (.int .u8 18), .lit (.int .u8 12), .lit (.int .u8 5), .lit (.int .u8 63), .lit (.int .u8 55), .lit (.int .u8 48), .lit (.int .u8 27), .lit (.int .u8 60), .lit (.int .u8 41), .lit (.int .u8 37), .lit (.int .u8 16), .lit (.int .u8 46), .lit (.int .u8 35), .lit (.int .u8 44), .lit (.int .u8 21), .lit (.int .u8 52), .lit (.int .u8 32), .lit (.int .u8 23), .lit (.int .u8 11), .lit (.int .u8 54), .lit (.int .u8 26), .lit (.int .u8 40), .lit (.int .u8 15), .lit (.int .u8 34), .lit (.int .u8 20), .lit (.int .u8 31), .lit (.int .u8 10), .lit (.int .u8 25), .lit (.int .u8 14), .lit (.int .u8 19), .lit (.int .u8 9), .lit (.int .u8 13), .lit (.int .u8 8), .lit (.int .u8 7), .lit (.int .u8 6)]
def laid_internal_strconv_uint64pow10 {H : Type} : DataW H := .agg [.lit (.int .u64 1), .lit (.int .u64 10), .lit (.int .u64 100), .lit (.int .u64 1000), .lit (.int .u64 10000), .lit (.int .u64 100000), .lit (.int .u64 1000000), .lit (.int .u64 10000000), .lit (.int .u64 100000000), .lit (.int .u64 1000000000), .lit (.int .u64 10000000000), .lit (.int .u64 100000000000), .lit (.int .u64 1000000000000), .lit (.int .u64 10000000000000), .lit (.int .u64 100000000000000), .lit (.int .u64 1000000000000000), .lit (.int .u64 10000000000000000), .lit (.int .u64 100000000000000000), .lit (.int .u64 1000000000000000000), .lit (.int .u64 10000000000000000000)]
def laid_unicode_utf8_acceptRanges {H : Type} : DataW H := .agg [.agg [.lit (.int .u8 128), .lit (.int .u8 191)], .agg [.lit (.int .u8 160), .lit (.int .u8 191)], .agg [.lit (.int .u8 128), .lit (.int .u8 159)], .agg [.lit (.int .u8 144), .lit (.int .u8 191)], .agg [.lit (.int .u8 128), .lit (.int .u8 143)], .agg [.lit (.int .u8 0), .lit (.int .u8 0)], .agg [.lit (.int .u8 0), .lit (.int .u8 0)], .agg [.lit (.int .u8 0), .lit (.int .u8 0)], .agg [.lit (.int .u8 0), .lit (.int .u8 0)], .agg [.lit (.int .u8 0), .lit (.int .u8 0)], .agg [.lit (.int .u8 0), .lit (.int .u8 0)], .agg [.lit (.int .u8 0), .lit (.int .u8 0)], .agg [.lit (.int .u8 0), .lit (.int .u8 0)], .agg [.lit (.int .u8 0), .lit (.int .u8 0)], .agg [.lit (.int .u8 0), .lit (.int .u8 0)], .agg [.lit (.int .u8 0), .lit (.int .u8 0)]]
def laid_clockwork_parser_operators {H : Type} : DataW H := .agg [.lit (.string []), .lit (.string []), .lit (.string []), .lit (.string []), .lit (.string [43]), .lit (.string [45]), .lit (.string [42]), .lit (.string [47]), .lit (.string [37]), .lit (.string [45]), .lit (.string [61, 61]), .lit (.string [33, 61]), .lit (.string [60]), .lit (.string [60, 61]), .lit (.string [62]), .lit (.string [62, 61]), .lit (.string [97, 110, 100]), .lit (.string [111, 114]), .lit (.string [110, 111, 116]), .lit (.string [43, 43]), .lit (.string [116, 101, 120, 116]), .lit (.string [108, 101, 110]), .lit (.string [103, 101, 116, 105, 110, 116]), .lit (.string [103, 101, 116, 115, 116, 114]), .lit (.string [104, 97, 115]), .lit (.string [110, 111, 119]), .lit (.string [114, 97, 110, 100, 111, 109]), .lit (.string [110, 111, 100, 101])]
def laid_clockwork_printer_operators {H : Type} : DataW H := .agg [.agg [.lit (.int .i64 0), .lit (.string [])], .agg [.lit (.int .i64 9), .lit (.string [])], .agg [.lit (.int .i64 9), .lit (.string [])], .agg [.lit (.int .i64 9), .lit (.string [])], .agg [.lit (.int .i64 6), .lit (.string [43])], .agg [.lit (.int .i64 6), .lit (.string [45])], .agg [.lit (.int .i64 7), .lit (.string [42])], .agg [.lit (.int .i64 7), .lit (.string [47])], .agg [.lit (.int .i64 7), .lit (.string [37])], .agg [.lit (.int .i64 8), .lit (.string [45])], .agg [.lit (.int .i64 4), .lit (.string [61, 61])], .agg [.lit (.int .i64 4), .lit (.string [33, 61])], .agg [.lit (.int .i64 4), .lit (.string [60])], .agg [.lit (.int .i64 4), .lit (.string [60, 61])], .agg [.lit (.int .i64 4), .lit (.string [62])], .agg [.lit (.int .i64 4), .lit (.string [62, 61])], .agg [.lit (.int .i64 2), .lit (.string [97, 110, 100])], .agg [.lit (.int .i64 1), .lit (.string [111, 114])], .agg [.lit (.int .i64 3), .lit (.string [110, 111, 116, 32])], .agg [.lit (.int .i64 5), .lit (.string [43, 43])], .agg [.lit (.int .i64 9), .lit (.string [116, 101, 120, 116])], .agg [.lit (.int .i64 9), .lit (.string [108, 101, 110])], .agg [.lit (.int .i64 9), .lit (.string [103, 101, 116, 105, 110, 116])], .agg [.lit (.int .i64 9), .lit (.string [103, 101, 116, 115, 116, 114])], .agg [.lit (.int .i64 9), .lit (.string [104, 97, 115])], .agg [.lit (.int .i64 9), .lit (.string [110, 111, 119])], .agg [.lit (.int .i64 9), .lit (.string [114, 97, 110, 100, 111, 109])], .agg [.lit (.int .i64 9), .lit (.string [110, 111, 100, 101])]]
def laid_clockwork_printer_typeNames {H : Type} : DataW H := .agg [.lit (.string []), .lit (.string [105, 110, 116]), .lit (.string [115, 116, 114]), .lit (.string [98, 111, 111, 108])]
/-- One of Go's own tables, pinned by name: the form's constant. -/
def laid_unicode_utf8_first : DataW Unit := Go.Pinned.utf8First

/-- 'clockworklaw10.ParserRoundTrips': WHATEVER THE INPUT: true; the input reads as it did. -/
def parserRoundTripsSpec : ChangeSpec := { name := "parserRoundTrips", fn := fun _ => fun
  | [d] => { results := [.lit (.bool true)], args := [d] }
  | _ => none }
def parserRoundTripsRow : OpenClaim := { program := "yteglaeopaocilaagreatdoor", sum := "542f1b93f6c4c733c84407d8824477704abd365d00dd4af60b55a6b14e5d2f28", func := "clockwork/clockworklaw10.ParserRoundTrips", spec := "parserRoundTrips", inPlace := ["internal/bytealg.IndexByteString", "internal/bytealg.IndexString", "internal/bytealg.CountString", "internal/abi.NoEscape", "internal/bytealg.MakeNoZero"], unfollowed := true, recurses := true, named := ["unicode/utf8.first", "unicode/utf8.acceptRanges", "internal/bytealg.MaxLen", "clockwork/parser.operators", "clockwork/printer.typeNames", "clockwork/printer.operators", "internal/strconv.uint64pow10", "math/bits.deBruijn32tab", "math/bits.deBruijn64tab"], loops := true, apart := false, laid := [("math/bits.deBruijn32tab", laid_math_bits_deBruijn32tab), ("math/bits.deBruijn64tab", laid_math_bits_deBruijn64tab), ("internal/strconv.uint64pow10", laid_internal_strconv_uint64pow10), ("unicode/utf8.acceptRanges", laid_unicode_utf8_acceptRanges), ("clockwork/parser.operators", laid_clockwork_parser_operators), ("clockwork/printer.operators", laid_clockwork_printer_operators), ("clockwork/printer.typeNames", laid_clockwork_printer_typeNames), ("unicode/utf8.first", laid_unicode_utf8_first)] }
def ParserRoundTripsSaid : Prop := parserRoundTripsRow.holds Tryz.pinned (OpenSpec.ofChange parserRoundTripsSpec)

/-- ITS FALSE NEIGHBOUR: 'it returns false'. Refute it at one input. -/
def parserRoundTripsWrong : ChangeSpec := { name := "parserRoundTrips", fn := fun _ => fun
  | [d] => { results := [.lit (.bool false)], args := [d] }
  | _ => none }
def ParserRoundTripsWrongFalsely : Prop := parserRoundTripsRow.holds Tryz.pinned (OpenSpec.ofChange parserRoundTripsWrong)

/-- 'clockworklaw10.ParserExprs': WHATEVER THE INPUT: true; the input reads as it did. -/
def parserExprsSpec : ChangeSpec := { name := "parserExprs", fn := fun _ => fun
  | [d] => { results := [.lit (.bool true)], args := [d] }
  | _ => none }
def parserExprsRow : OpenClaim := { program := "yteglaeopaocilaagreatdoor", sum := "542f1b93f6c4c733c84407d8824477704abd365d00dd4af60b55a6b14e5d2f28", func := "clockwork/clockworklaw10.ParserExprs", spec := "parserExprs", inPlace := ["internal/bytealg.IndexByteString", "internal/bytealg.IndexString", "internal/bytealg.CountString"], unfollowed := true, recurses := true, named := ["unicode/utf8.first", "unicode/utf8.acceptRanges", "internal/bytealg.MaxLen", "clockwork/parser.operators"], apart := false, laid := [("unicode/utf8.acceptRanges", laid_unicode_utf8_acceptRanges), ("clockwork/parser.operators", laid_clockwork_parser_operators), ("unicode/utf8.first", laid_unicode_utf8_first)] }
def ParserExprsSaid : Prop := parserExprsRow.holds Tryz.pinned (OpenSpec.ofChange parserExprsSpec)

/-- ITS FALSE NEIGHBOUR: 'it returns false'. Refute it at one input. -/
def parserExprsWrong : ChangeSpec := { name := "parserExprs", fn := fun _ => fun
  | [d] => { results := [.lit (.bool false)], args := [d] }
  | _ => none }
def ParserExprsWrongFalsely : Prop := parserExprsRow.holds Tryz.pinned (OpenSpec.ofChange parserExprsWrong)

/-- 'clockworklaw10.ParserProcs': WHATEVER THE INPUT: true; the input reads as it did. -/
def parserProcsSpec : ChangeSpec := { name := "parserProcs", fn := fun _ => fun
  | [d] => { results := [.lit (.bool true)], args := [d] }
  | _ => none }
def parserProcsRow : OpenClaim := { program := "yteglaeopaocilaagreatdoor", sum := "542f1b93f6c4c733c84407d8824477704abd365d00dd4af60b55a6b14e5d2f28", func := "clockwork/clockworklaw10.ParserProcs", spec := "parserProcs", inPlace := ["internal/bytealg.IndexByteString", "internal/bytealg.IndexString", "internal/bytealg.CountString"], unfollowed := true, recurses := true, named := ["unicode/utf8.first", "unicode/utf8.acceptRanges", "internal/bytealg.MaxLen", "clockwork/parser.operators"], apart := false, laid := [("unicode/utf8.acceptRanges", laid_unicode_utf8_acceptRanges), ("clockwork/parser.operators", laid_clockwork_parser_operators), ("unicode/utf8.first", laid_unicode_utf8_first)] }
def ParserProcsSaid : Prop := parserProcsRow.holds Tryz.pinned (OpenSpec.ofChange parserProcsSpec)

/-- ITS FALSE NEIGHBOUR: 'it returns false'. Refute it at one input. -/
def parserProcsWrong : ChangeSpec := { name := "parserProcs", fn := fun _ => fun
  | [d] => { results := [.lit (.bool false)], args := [d] }
  | _ => none }
def ParserProcsWrongFalsely : Prop := parserProcsRow.holds Tryz.pinned (OpenSpec.ofChange parserProcsWrong)

/-- 'clockworklaw10.ParserPrograms': WHATEVER THE INPUT: true; the input reads as it did. -/
def parserProgramsSpec : ChangeSpec := { name := "parserPrograms", fn := fun _ => fun
  | [d] => { results := [.lit (.bool true)], args := [d] }
  | _ => none }
def parserProgramsRow : OpenClaim := { program := "yteglaeopaocilaagreatdoor", sum := "542f1b93f6c4c733c84407d8824477704abd365d00dd4af60b55a6b14e5d2f28", func := "clockwork/clockworklaw10.ParserPrograms", spec := "parserPrograms", inPlace := ["internal/bytealg.IndexByteString", "internal/bytealg.IndexString", "internal/bytealg.CountString"], unfollowed := true, recurses := true, named := ["unicode/utf8.first", "unicode/utf8.acceptRanges", "internal/bytealg.MaxLen", "clockwork/parser.operators"], apart := false, laid := [("unicode/utf8.acceptRanges", laid_unicode_utf8_acceptRanges), ("clockwork/parser.operators", laid_clockwork_parser_operators), ("unicode/utf8.first", laid_unicode_utf8_first)] }
def ParserProgramsSaid : Prop := parserProgramsRow.holds Tryz.pinned (OpenSpec.ofChange parserProgramsSpec)

/-- ITS FALSE NEIGHBOUR: 'it returns false'. Refute it at one input. -/
def parserProgramsWrong : ChangeSpec := { name := "parserPrograms", fn := fun _ => fun
  | [d] => { results := [.lit (.bool false)], args := [d] }
  | _ => none }
def ParserProgramsWrongFalsely : Prop := parserProgramsRow.holds Tryz.pinned (OpenSpec.ofChange parserProgramsWrong)

/-- 'clockworklaw10.ParserExprRoundTrips': WHATEVER THE INPUT: true; the input reads as it did. -/
def parserExprRoundTripsSpec : ChangeSpec := { name := "parserExprRoundTrips", fn := fun _ => fun
  | [d] => { results := [.lit (.bool true)], args := [d] }
  | _ => none }
def parserExprRoundTripsRow : OpenClaim := { program := "yteglaeopaocilaagreatdoor", sum := "542f1b93f6c4c733c84407d8824477704abd365d00dd4af60b55a6b14e5d2f28", func := "clockwork/clockworklaw10.ParserExprRoundTrips", spec := "parserExprRoundTrips", inPlace := ["internal/bytealg.IndexByteString", "internal/bytealg.IndexString", "internal/bytealg.CountString"], unfollowed := true, recurses := true, named := ["unicode/utf8.first", "unicode/utf8.acceptRanges", "internal/bytealg.MaxLen", "clockwork/parser.operators", "clockwork/printer.operators", "internal/strconv.uint64pow10", "math/bits.deBruijn32tab", "math/bits.deBruijn64tab"], loops := true, apart := false, laid := [("math/bits.deBruijn32tab", laid_math_bits_deBruijn32tab), ("math/bits.deBruijn64tab", laid_math_bits_deBruijn64tab), ("internal/strconv.uint64pow10", laid_internal_strconv_uint64pow10), ("unicode/utf8.acceptRanges", laid_unicode_utf8_acceptRanges), ("clockwork/parser.operators", laid_clockwork_parser_operators), ("clockwork/printer.operators", laid_clockwork_printer_operators), ("unicode/utf8.first", laid_unicode_utf8_first)] }
def ParserExprRoundTripsSaid : Prop := parserExprRoundTripsRow.holds Tryz.pinned (OpenSpec.ofChange parserExprRoundTripsSpec)

/-- ITS FALSE NEIGHBOUR: 'it returns false'. Refute it at one input. -/
def parserExprRoundTripsWrong : ChangeSpec := { name := "parserExprRoundTrips", fn := fun _ => fun
  | [d] => { results := [.lit (.bool false)], args := [d] }
  | _ => none }
def ParserExprRoundTripsWrongFalsely : Prop := parserExprRoundTripsRow.holds Tryz.pinned (OpenSpec.ofChange parserExprRoundTripsWrong)

/-- 'clockworklaw10.ParserProgramRoundTrips': WHATEVER THE INPUT: true; the input reads as it did. -/
def parserProgramRoundTripsSpec : ChangeSpec := { name := "parserProgramRoundTrips", fn := fun _ => fun
  | [d] => { results := [.lit (.bool true)], args := [d] }
  | _ => none }
def parserProgramRoundTripsRow : OpenClaim := { program := "yteglaeopaocilaagreatdoor", sum := "542f1b93f6c4c733c84407d8824477704abd365d00dd4af60b55a6b14e5d2f28", func := "clockwork/clockworklaw10.ParserProgramRoundTrips", spec := "parserProgramRoundTrips", inPlace := ["internal/bytealg.IndexByteString", "internal/bytealg.IndexString", "internal/bytealg.CountString", "internal/abi.NoEscape", "internal/bytealg.MakeNoZero"], unfollowed := true, recurses := true, named := ["unicode/utf8.first", "unicode/utf8.acceptRanges", "internal/bytealg.MaxLen", "clockwork/parser.operators", "clockwork/printer.typeNames", "clockwork/printer.operators", "internal/strconv.uint64pow10", "math/bits.deBruijn32tab", "math/bits.deBruijn64tab"], loops := true, apart := false, laid := [("math/bits.deBruijn32tab", laid_math_bits_deBruijn32tab), ("math/bits.deBruijn64tab", laid_math_bits_deBruijn64tab), ("internal/strconv.uint64pow10", laid_internal_strconv_uint64pow10), ("unicode/utf8.acceptRanges", laid_unicode_utf8_acceptRanges), ("clockwork/parser.operators", laid_clockwork_parser_operators), ("clockwork/printer.operators", laid_clockwork_printer_operators), ("clockwork/printer.typeNames", laid_clockwork_printer_typeNames), ("unicode/utf8.first", laid_unicode_utf8_first)] }
def ParserProgramRoundTripsSaid : Prop := parserProgramRoundTripsRow.holds Tryz.pinned (OpenSpec.ofChange parserProgramRoundTripsSpec)

/-- ITS FALSE NEIGHBOUR: 'it returns false'. Refute it at one input. -/
def parserProgramRoundTripsWrong : ChangeSpec := { name := "parserProgramRoundTrips", fn := fun _ => fun
  | [d] => { results := [.lit (.bool false)], args := [d] }
  | _ => none }
def ParserProgramRoundTripsWrongFalsely : Prop := parserProgramRoundTripsRow.holds Tryz.pinned (OpenSpec.ofChange parserProgramRoundTripsWrong)

/-- 'clockworklaw10.ParserTokens': WHATEVER THE INPUT: true; the input reads as it did. -/
def parserTokensSpec : ChangeSpec := { name := "parserTokens", fn := fun _ => fun
  | [d] => { results := [.lit (.bool true)], args := [d] }
  | _ => none }
def parserTokensRow : OpenClaim := { program := "yteglaeopaocilaagreatdoor", sum := "542f1b93f6c4c733c84407d8824477704abd365d00dd4af60b55a6b14e5d2f28", func := "clockwork/clockworklaw10.ParserTokens", spec := "parserTokens", inPlace := ["internal/bytealg.IndexByteString", "internal/bytealg.IndexString", "internal/bytealg.CountString", "internal/abi.NoEscape", "internal/bytealg.MakeNoZero"], unfollowed := true, recurses := true, named := ["unicode/utf8.first", "unicode/utf8.acceptRanges", "internal/bytealg.MaxLen", "clockwork/parser.operators", "internal/strconv.uint64pow10", "math/bits.deBruijn32tab", "math/bits.deBruijn64tab", "clockwork/printer.typeNames", "clockwork/printer.operators"], apart := false, laid := [("math/bits.deBruijn32tab", laid_math_bits_deBruijn32tab), ("math/bits.deBruijn64tab", laid_math_bits_deBruijn64tab), ("internal/strconv.uint64pow10", laid_internal_strconv_uint64pow10), ("unicode/utf8.acceptRanges", laid_unicode_utf8_acceptRanges), ("clockwork/parser.operators", laid_clockwork_parser_operators), ("clockwork/printer.operators", laid_clockwork_printer_operators), ("clockwork/printer.typeNames", laid_clockwork_printer_typeNames), ("unicode/utf8.first", laid_unicode_utf8_first)] }
def ParserTokensSaid : Prop := parserTokensRow.holds Tryz.pinned (OpenSpec.ofChange parserTokensSpec)

/-- ITS FALSE NEIGHBOUR: 'it returns false'. Refute it at one input. -/
def parserTokensWrong : ChangeSpec := { name := "parserTokens", fn := fun _ => fun
  | [d] => { results := [.lit (.bool false)], args := [d] }
  | _ => none }
def ParserTokensWrongFalsely : Prop := parserTokensRow.holds Tryz.pinned (OpenSpec.ofChange parserTokensWrong)

/- THE SECOND FORM. 'bulk': how many values and letters a reading holds, each counted each time it is reached (what is shared counts as often as it is met; a slice's spare places count too). A statement '..UptoSaid' is the law's where the arguments, and the package variables that the reading takes, are together of bulk at most 1048576: NARROWER than '..Said'. Prove '..Said' where nothing that the law and all that it calls make is longer than what came in: it says more and counts as full. Else prove '..UptoSaid'. A law counts once. -/
mutual
def uptoBulk {H : Type} : DataW H → Nat
  | .lit (.string bytes) => bytes.length + 1
  | .lit _ => 1
  | .nil => 1
  | .ptr d => uptoBulk d + 1
  | .slice elems spare => uptoBulkAll elems + uptoBulkAll spare + 1
  | .agg parts => uptoBulkAll parts + 1
  | .iface _ d => uptoBulk d + 1
  | .map entries => uptoBulkEntries entries + 1
  | .held _ => 1
def uptoBulkAll {H : Type} : List (DataW H) → Nat
  | [] => 0
  | d :: r => uptoBulk d + uptoBulkAll r
def uptoBulkEntries {H : Type} : List (Lit × DataW H) → Nat
  | [] => 0
  | x :: r => uptoBulkEntry x + uptoBulkEntries r
def uptoBulkEntry {H : Type} : Lit × DataW H → Nat
  | (.string bytes, d) => bytes.length + uptoBulk d + 1
  | (_, d) => uptoBulk d + 1
 end
def uptoSmall : (H : Type) → List (DataW H) → Bool := fun _ ds => decide (uptoBulkAll ds ≤ 1048576)
def OpenSpec.upto (s : _root_.Go.ChangeSpec) : _root_.Go.OpenSpec := { _root_.Go.OpenSpec.ofChange s with cond := some uptoSmall }

/-- 'clockworklaw10.ParserRoundTrips', WHERE WHAT IT READS IS OF BULK AT MOST 1048576: true; the input reads as it did. -/
def parserRoundTripsUptoRow : OpenClaim := { program := "yteglaeopaocilaagreatdoor", sum := "542f1b93f6c4c733c84407d8824477704abd365d00dd4af60b55a6b14e5d2f28", func := "clockwork/clockworklaw10.ParserRoundTrips", spec := "parserRoundTrips", inPlace := ["internal/bytealg.IndexByteString", "internal/bytealg.IndexString", "internal/bytealg.CountString", "internal/abi.NoEscape", "internal/bytealg.MakeNoZero"], unfollowed := true, recurses := true, named := ["unicode/utf8.first", "unicode/utf8.acceptRanges", "internal/bytealg.MaxLen", "clockwork/parser.operators", "clockwork/printer.typeNames", "clockwork/printer.operators", "internal/strconv.uint64pow10", "math/bits.deBruijn32tab", "math/bits.deBruijn64tab"], loops := true, apart := false, laid := [("math/bits.deBruijn32tab", laid_math_bits_deBruijn32tab), ("math/bits.deBruijn64tab", laid_math_bits_deBruijn64tab), ("internal/strconv.uint64pow10", laid_internal_strconv_uint64pow10), ("unicode/utf8.acceptRanges", laid_unicode_utf8_acceptRanges), ("clockwork/parser.operators", laid_clockwork_parser_operators), ("clockwork/printer.operators", laid_clockwork_printer_operators), ("clockwork/printer.typeNames", laid_clockwork_printer_typeNames), ("unicode/utf8.first", laid_unicode_utf8_first)], narrowed := true }
def ParserRoundTripsUptoSaid : Prop := parserRoundTripsUptoRow.holds Tryz.pinned (OpenSpec.upto parserRoundTripsSpec)

/-- 'clockworklaw10.ParserExprs', WHERE WHAT IT READS IS OF BULK AT MOST 1048576: true; the input reads as it did. -/
def parserExprsUptoRow : OpenClaim := { program := "yteglaeopaocilaagreatdoor", sum := "542f1b93f6c4c733c84407d8824477704abd365d00dd4af60b55a6b14e5d2f28", func := "clockwork/clockworklaw10.ParserExprs", spec := "parserExprs", inPlace := ["internal/bytealg.IndexByteString", "internal/bytealg.IndexString", "internal/bytealg.CountString"], unfollowed := true, recurses := true, named := ["unicode/utf8.first", "unicode/utf8.acceptRanges", "internal/bytealg.MaxLen", "clockwork/parser.operators"], apart := false, laid := [("unicode/utf8.acceptRanges", laid_unicode_utf8_acceptRanges), ("clockwork/parser.operators", laid_clockwork_parser_operators), ("unicode/utf8.first", laid_unicode_utf8_first)], narrowed := true }
def ParserExprsUptoSaid : Prop := parserExprsUptoRow.holds Tryz.pinned (OpenSpec.upto parserExprsSpec)

/-- 'clockworklaw10.ParserProcs', WHERE WHAT IT READS IS OF BULK AT MOST 1048576: true; the input reads as it did. -/
def parserProcsUptoRow : OpenClaim := { program := "yteglaeopaocilaagreatdoor", sum := "542f1b93f6c4c733c84407d8824477704abd365d00dd4af60b55a6b14e5d2f28", func := "clockwork/clockworklaw10.ParserProcs", spec := "parserProcs", inPlace := ["internal/bytealg.IndexByteString", "internal/bytealg.IndexString", "internal/bytealg.CountString"], unfollowed := true, recurses := true, named := ["unicode/utf8.first", "unicode/utf8.acceptRanges", "internal/bytealg.MaxLen", "clockwork/parser.operators"], apart := false, laid := [("unicode/utf8.acceptRanges", laid_unicode_utf8_acceptRanges), ("clockwork/parser.operators", laid_clockwork_parser_operators), ("unicode/utf8.first", laid_unicode_utf8_first)], narrowed := true }
def ParserProcsUptoSaid : Prop := parserProcsUptoRow.holds Tryz.pinned (OpenSpec.upto parserProcsSpec)

/-- 'clockworklaw10.ParserPrograms', WHERE WHAT IT READS IS OF BULK AT MOST 1048576: true; the input reads as it did. -/
def parserProgramsUptoRow : OpenClaim := { program := "yteglaeopaocilaagreatdoor", sum := "542f1b93f6c4c733c84407d8824477704abd365d00dd4af60b55a6b14e5d2f28", func := "clockwork/clockworklaw10.ParserPrograms", spec := "parserPrograms", inPlace := ["internal/bytealg.IndexByteString", "internal/bytealg.IndexString", "internal/bytealg.CountString"], unfollowed := true, recurses := true, named := ["unicode/utf8.first", "unicode/utf8.acceptRanges", "internal/bytealg.MaxLen", "clockwork/parser.operators"], apart := false, laid := [("unicode/utf8.acceptRanges", laid_unicode_utf8_acceptRanges), ("clockwork/parser.operators", laid_clockwork_parser_operators), ("unicode/utf8.first", laid_unicode_utf8_first)], narrowed := true }
def ParserProgramsUptoSaid : Prop := parserProgramsUptoRow.holds Tryz.pinned (OpenSpec.upto parserProgramsSpec)

/-- 'clockworklaw10.ParserExprRoundTrips', WHERE WHAT IT READS IS OF BULK AT MOST 1048576: true; the input reads as it did. -/
def parserExprRoundTripsUptoRow : OpenClaim := { program := "yteglaeopaocilaagreatdoor", sum := "542f1b93f6c4c733c84407d8824477704abd365d00dd4af60b55a6b14e5d2f28", func := "clockwork/clockworklaw10.ParserExprRoundTrips", spec := "parserExprRoundTrips", inPlace := ["internal/bytealg.IndexByteString", "internal/bytealg.IndexString", "internal/bytealg.CountString"], unfollowed := true, recurses := true, named := ["unicode/utf8.first", "unicode/utf8.acceptRanges", "internal/bytealg.MaxLen", "clockwork/parser.operators", "clockwork/printer.operators", "internal/strconv.uint64pow10", "math/bits.deBruijn32tab", "math/bits.deBruijn64tab"], loops := true, apart := false, laid := [("math/bits.deBruijn32tab", laid_math_bits_deBruijn32tab), ("math/bits.deBruijn64tab", laid_math_bits_deBruijn64tab), ("internal/strconv.uint64pow10", laid_internal_strconv_uint64pow10), ("unicode/utf8.acceptRanges", laid_unicode_utf8_acceptRanges), ("clockwork/parser.operators", laid_clockwork_parser_operators), ("clockwork/printer.operators", laid_clockwork_printer_operators), ("unicode/utf8.first", laid_unicode_utf8_first)], narrowed := true }
def ParserExprRoundTripsUptoSaid : Prop := parserExprRoundTripsUptoRow.holds Tryz.pinned (OpenSpec.upto parserExprRoundTripsSpec)

/-- 'clockworklaw10.ParserProgramRoundTrips', WHERE WHAT IT READS IS OF BULK AT MOST 1048576: true; the input reads as it did. -/
def parserProgramRoundTripsUptoRow : OpenClaim := { program := "yteglaeopaocilaagreatdoor", sum := "542f1b93f6c4c733c84407d8824477704abd365d00dd4af60b55a6b14e5d2f28", func := "clockwork/clockworklaw10.ParserProgramRoundTrips", spec := "parserProgramRoundTrips", inPlace := ["internal/bytealg.IndexByteString", "internal/bytealg.IndexString", "internal/bytealg.CountString", "internal/abi.NoEscape", "internal/bytealg.MakeNoZero"], unfollowed := true, recurses := true, named := ["unicode/utf8.first", "unicode/utf8.acceptRanges", "internal/bytealg.MaxLen", "clockwork/parser.operators", "clockwork/printer.typeNames", "clockwork/printer.operators", "internal/strconv.uint64pow10", "math/bits.deBruijn32tab", "math/bits.deBruijn64tab"], loops := true, apart := false, laid := [("math/bits.deBruijn32tab", laid_math_bits_deBruijn32tab), ("math/bits.deBruijn64tab", laid_math_bits_deBruijn64tab), ("internal/strconv.uint64pow10", laid_internal_strconv_uint64pow10), ("unicode/utf8.acceptRanges", laid_unicode_utf8_acceptRanges), ("clockwork/parser.operators", laid_clockwork_parser_operators), ("clockwork/printer.operators", laid_clockwork_printer_operators), ("clockwork/printer.typeNames", laid_clockwork_printer_typeNames), ("unicode/utf8.first", laid_unicode_utf8_first)], narrowed := true }
def ParserProgramRoundTripsUptoSaid : Prop := parserProgramRoundTripsUptoRow.holds Tryz.pinned (OpenSpec.upto parserProgramRoundTripsSpec)

/-- 'clockworklaw10.ParserTokens', WHERE WHAT IT READS IS OF BULK AT MOST 1048576: true; the input reads as it did. -/
def parserTokensUptoRow : OpenClaim := { program := "yteglaeopaocilaagreatdoor", sum := "542f1b93f6c4c733c84407d8824477704abd365d00dd4af60b55a6b14e5d2f28", func := "clockwork/clockworklaw10.ParserTokens", spec := "parserTokens", inPlace := ["internal/bytealg.IndexByteString", "internal/bytealg.IndexString", "internal/bytealg.CountString", "internal/abi.NoEscape", "internal/bytealg.MakeNoZero"], unfollowed := true, recurses := true, named := ["unicode/utf8.first", "unicode/utf8.acceptRanges", "internal/bytealg.MaxLen", "clockwork/parser.operators", "internal/strconv.uint64pow10", "math/bits.deBruijn32tab", "math/bits.deBruijn64tab", "clockwork/printer.typeNames", "clockwork/printer.operators"], apart := false, laid := [("math/bits.deBruijn32tab", laid_math_bits_deBruijn32tab), ("math/bits.deBruijn64tab", laid_math_bits_deBruijn64tab), ("internal/strconv.uint64pow10", laid_internal_strconv_uint64pow10), ("unicode/utf8.acceptRanges", laid_unicode_utf8_acceptRanges), ("clockwork/parser.operators", laid_clockwork_parser_operators), ("clockwork/printer.operators", laid_clockwork_printer_operators), ("clockwork/printer.typeNames", laid_clockwork_printer_typeNames), ("unicode/utf8.first", laid_unicode_utf8_first)], narrowed := true }
def ParserTokensUptoSaid : Prop := parserTokensUptoRow.holds Tryz.pinned (OpenSpec.upto parserTokensSpec)

end Rows
end Go.Proofs.YteglaeopaocilaaGreatDoor
