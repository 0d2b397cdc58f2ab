/-
  What the reference of layer 8 returns: Arity, Absent, Plain, node: contracts, one a function.
-/
import Derived.Test.YtbmdadhbkdkgmaaDoorGA
namespace Go.Proofs.YtbmdadhbkdkgmaaDoor.A
open Go.RowKit
open L (Str isName prt prt_iff prt_not upto upto_all upto_not size_len below_2 below_box below_drew ret_bool ret_int eql_eq bytes_eq)

theorem grownW {f : FuncId} {args : Array Value} {v : Value} {W : World} (h : ∀ w, Calls Tryd.prog f args w fun e w' => e = .returned v ∧ Below w.heap.size w w') (d : Nat) (os : Array Obj) :
    Calls Tryd.prog f args (Sort.grow (redrawn W d) os) fun e w'' => e = .returned v ∧ ∃ p : Regrown, w'' = Sort.grow (redrawn W p.d) p.os := Calls.regrown_of (h _)
theorem grownS {f : FuncId} {args : Array Value} {v : Value} {W : World} (h : ∀ w, Calls Tryd.prog f args w fun e w' => e = .returned v ∧ w' = w) (d : Nat) (os : Array Obj) :
    Calls Tryd.prog f args (Sort.grow (redrawn W d) os) fun e w'' => e = .returned v ∧ ∃ p : Regrown, w'' = Sort.grow (redrawn W p.d) p.os :=
  Calls.regrown_of ((h _).mono fun _ _ ⟨a, b⟩ => ⟨a, by rw [b]; exact Below.refl _ _⟩)
theorem empty_of {s : ByteArray} : s.toList.isEmpty = decide (s.size = 0) := by
  rw [Lib.toList_data, Bool.eq_iff_iff, List.isEmpty_iff, decide_eq_true_iff, size_len, List.length_eq_zero_iff]
theorem nil_of {s : ByteArray} : (s.toList == []) = decide (s.size = 0) := by
  rw [← empty_of]; cases s.toList <;> rfl
end Go.Proofs.YtbmdadhbkdkgmaaDoor.A
