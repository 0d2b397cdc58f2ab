/-
  What the functions on texts return, of the program and of the reference: contracts, one a function.
  What Format returns, of the program and of the reference: the decimal numeral, for every 64-bit integer.
-/
import Derived.Test.YtkjefigebdbkaaaDoorRows
import Derived.Test.YtkjefigebdbkaaaDoorTPlain
import Derived.WalkKit
import Derived.WalkLawsBesides
import Derived.WalkSpells
import Derived.Lib.Hide
import Derived.Test.YtkjefigebdbkaaaDoorTShelf
import Derived.LoopTactic
import Derived.Lib.Strings
import Derived.Lib.IndexBytes
import Derived.Deep.LoopGhost
import Derived.Below
import Derived.Sort.Grow
import Derived.Laws.IdiomStrings
import Derived.Lib.SmallJoins
namespace Go.Proofs.YtkjefigebdbkaaaDoor
open Go.RowKit

theorem ret_bool {a b : Bool} (h : a = b) : Ending.returned (.bool a) = Ending.returned (.bool b) := by rw [h]
theorem size_len (s : ByteArray) : s.size = s.data.toList.length := by simp
theorem cons_get (l : List UInt8) (h : 0 < l.length) : l = l[0] :: l.tail := by
  match l, h with
  | c :: r, _ => rfl
theorem list_cons {s : ByteArray} (h : 0 < s.size) : s.data.toList = s[0] :: s.data.toList.tail :=
  cons_get s.data.toList (by rw [← size_len]; exact h)
end Go.Proofs.YtkjefigebdbkaaaDoor
namespace Go.Proofs.YtkjefigebdbkaaaDoor
open Go.RowKit

theorem ret_string {a b : ByteArray} (h : a = b) : Ending.returned (.string a) = Ending.returned (.string b) := by rw [h]
theorem bytes_eq {a b : ByteArray} (h : a.data.toList = b.data.toList) : a = b := WideShapes.bytes_inj h
end Go.Proofs.YtkjefigebdbkaaaDoor
