/-
  Plain mathematics of layer 1, without the program: the value and the error of an exact result, the quotient and the remainder that are rounded toward negative infinity, and the decimal notation of integers.
-/
import Derived.Lib.ItoaNum
namespace Go.Proofs.YtkjefigebdbkaaaGreatDoor

/-! ### quotient and remainder -/

/-! ### products -/

/-! ### decimal notation -/

def val (l : List UInt8) : Nat := l.foldl (fun v c => v * 10 + (c.toNat - 48)) 0

open Go.Lib (decDigits itoa)

def minus (l : List UInt8) : Bool := l.head? == some 45
def body (l : List UInt8) : List UInt8 := if minus l then l.tail else l
def num (l : List UInt8) : Int := if minus l then -(val (body l) : Int) else val (body l)
end Go.Proofs.YtkjefigebdbkaaaGreatDoor
