/-
  Plain mathematics of layer 7, without the program: words, literals, marks and tokens of a text; texts joined of tokens.
-/
import Derived.Test.YtkjefigebdbkaaaDoorTPlain
namespace Go.Proofs.YtkjefigebdbkaaaDoor.L
open Go.Lib (itoa decDigits)

abbrev Str := List UInt8
def letter (c : UInt8) : Bool := decide (97 ≤ c.toNat) && decide (c.toNat ≤ 122)
def digit (c : UInt8) : Bool := decide (48 ≤ c.toNat) && decide (c.toNat ≤ 57)
def part (c : UInt8) : Bool := letter c || digit c || decide (c.toNat = 95)
def prt (c : UInt8) : Bool := decide (32 ≤ c.toNat) && decide (c.toNat ≤ 126)
def keywords : List Str := [[112, 114, 111, 99], [108, 101, 116], [112, 117, 116], [100, 101, 108, 101, 116, 101], [105, 102], [101, 108, 115, 101], [102, 111, 114], [116, 111], [109, 97, 120], [101, 109, 105, 116], [97, 98, 111, 114, 116], [110, 111, 116], [97, 110, 100], [111, 114], [105, 110, 116], [115, 116, 114], [98, 111, 111, 108], [116, 101, 120, 116], [108, 101, 110], [103, 101, 116, 105, 110, 116], [103, 101, 116, 115, 116, 114], [104, 97, 115], [110, 111, 119], [114, 97, 110, 100, 111, 109], [110, 111, 100, 101]]
def marks : List Str := [[61, 61], [33, 61], [60, 61], [62, 61], [43, 43], [40], [41], [123], [125], [44], [59], [58], [61], [60], [62], [43], [45], [42], [47], [37]]
def isKw (s : Str) : Bool := decide (s ∈ keywords)
def isMark (s : Str) : Bool := decide (s ∈ marks)
def headL (s : Str) : Bool := match s with | [] => false | c :: _ => letter c
def isName (s : Str) : Bool := decide (s.length ≤ 16) && headL s && s.all part && !isKw s
/-- the contents of a literal, written out -/
def esc : Str → Str
  | [] => []
  | c :: r => if c.toNat = 34 ∨ c.toNat = 92 then 92 :: c :: esc r else c :: esc r
def quo (s : Str) : Str := 34 :: (esc s ++ [34])
/-- what Quote returns -/
def qt (s : Str) : Str × Int := if 64 < s.length then ([], 2) else if s.all prt then (quo s, 0) else ([], 1)
structure Tok where
  k : Int
  t : Str
  n : Int
  line : Int
  deriving DecidableEq
/-- what is left behind blanks and comments; true: inside of a comment -/
def skp : Bool → Str → Str
  | _, [] => []
  | false, c :: r => if c.toNat = 35 then skp true r else if c.toNat = 32 ∨ c.toNat = 9 ∨ c.toNat = 10 then skp false r else c :: r
  | true, c :: r => if c.toNat = 10 then skp false r else skp true r
/-- the number of line feeds -/
def nf (l : Str) : Nat := l.countP fun c => decide (c.toNat = 10)
/-! ### lengths -/

/-! ### tkz, step by step -/

end Go.Proofs.YtkjefigebdbkaaaDoor.L
