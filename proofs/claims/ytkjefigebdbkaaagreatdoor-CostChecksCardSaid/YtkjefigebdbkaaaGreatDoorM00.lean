/-
  What the functions on texts return, of the program and of the reference: contracts, one a function.
  What Format returns, of the program and of the reference: the decimal numeral, for every 64-bit integer.
-/
import Derived.Test.YtkjefigebdbkaaaGreatDoorRows
import Derived.Test.YtkjefigebdbkaaaGreatDoorSPlain
import Derived.WalkKit
import Derived.WalkLawsBesides
import Derived.WalkSpells
import Derived.Lib.Hide
import Derived.Test.YtkjefigebdbkaaaGreatDoorSShelf
import Derived.LoopTactic
import Derived.Lib.Strings
import Derived.Lib.IndexBytes
import Derived.Deep.LoopGhost
import Derived.Below
import Derived.Sort.Grow
import Derived.Laws.IdiomStrings
import Derived.Lib.SmallJoins
namespace Go.Proofs.YtkjefigebdbkaaaGreatDoor
open Go.RowKit

theorem ret_bool {a b : Bool} (h : a = b) : Ending.returned (.bool a) = Ending.returned (.bool b) := by rw [h]
theorem size_len (s : ByteArray) : s.size = s.data.toList.length := by simp
end Go.Proofs.YtkjefigebdbkaaaGreatDoor
namespace Go.Proofs.YtkjefigebdbkaaaGreatDoor
open Go.RowKit

theorem bytes_eq {a b : ByteArray} (h : a.data.toList = b.data.toList) : a = b := WideShapes.bytes_inj h
end Go.Proofs.YtkjefigebdbkaaaGreatDoor
