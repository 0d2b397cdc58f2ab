/-
  Plain mathematics of layer 1, without the program: the value and the error of an exact result, the quotient and the remainder that are rounded toward negative infinity, and the decimal notation of integers.
-/
import Derived.Lib.ItoaNum
namespace Go.Proofs.YtnelpgeiioflmaaGreatDoor

/-! ### quotient and remainder -/

/-! ### products -/

/-! ### decimal notation -/

def isDig (c : UInt8) : Bool := 48 ≤ c && c ≤ 57
def whole (l : List UInt8) : Bool := l.all isDig && (l == [48] || (l != [] && l.head? != some 48))
def val (l : List UInt8) : Nat := l.foldl (fun v c => v * 10 + (c.toNat - 48)) 0

open Go.Lib (decDigits itoa)

def minus (l : List UInt8) : Bool := l.head? == some 45
def body (l : List UInt8) : List UInt8 := if minus l then l.tail else l
def good (l : List UInt8) : Bool := whole (body l) && !(minus l && body l == [48])
def num (l : List UInt8) : Int := if minus l then -(val (body l) : Int) else val (body l)
end Go.Proofs.YtnelpgeiioflmaaGreatDoor
