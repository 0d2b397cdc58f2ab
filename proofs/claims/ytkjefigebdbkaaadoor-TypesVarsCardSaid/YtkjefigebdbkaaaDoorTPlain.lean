/-
  Plain mathematics of layer 1, without the program: the value and the error of an exact result, the quotient and the remainder that are rounded toward negative infinity, and the decimal notation of integers.
-/
import Derived.Lib.ItoaNum
namespace Go.Proofs.YtkjefigebdbkaaaDoor

/-! ### quotient and remainder -/

/-! ### products -/

/-! ### decimal notation -/

/-- the number of a row of digits -/
def val (l : List UInt8) : Nat := l.foldl (fun v c => v * 10 + (c.toNat - 48)) 0

theorem take_snoc (l : List UInt8) (k : Nat) (h : k < l.length) : l.take (k + 1) = l.take k ++ [l[k]] := by
  rw [List.take_succ_eq_append_getElem h]

open Go.Lib (decDigits itoa)

/-- whether a text begins with a minus sign -/
def minus (l : List UInt8) : Bool := l.head? == some 45
/-- the text behind a minus sign -/
def body (l : List UInt8) : List UInt8 := if minus l then l.tail else l
/-- the integer of a notation -/
def num (l : List UInt8) : Int := if minus l then -(val (body l) : Int) else val (body l)
end Go.Proofs.YtkjefigebdbkaaaDoor
