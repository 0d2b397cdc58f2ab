/-
  Plain mathematics of layer 7, without the program: joined tokens are read back; the tokens of a text; two texts with a line feed between them.
-/
import Derived.Test.YtkjefigebdbkaaaDoorTLFacts
import Derived.Lib.ItoaLen
namespace Go.Proofs.YtkjefigebdbkaaaDoor.L
open Go.Lib (itoa decDigits)

/-! ### skp -/

/-! ### joined tokens -/

/-! ### the tokens of a text -/

/-- what is known of the tokens of a text -/
structure Good (N : Nat) (l : Str) (ts : List Tok) : Prop where
  val : ts.all valid = true
  held : ∀ t ∈ ts, -9223372036854775808 ≤ t.n ∧ t.n ≤ 9223372036854775807
  low : ∀ t ∈ ts, 1 + (N : Int) - nf l ≤ t.line ∧ t.line ≤ 1 + (N : Int)
  up : ts.Pairwise fun t u => t.line ≤ u.line
  len : (jn ts).length ≤ 2 * l.length
  cnt : ts.length ≤ l.length
/-! ### two texts with a line feed between them -/

end Go.Proofs.YtkjefigebdbkaaaDoor.L
