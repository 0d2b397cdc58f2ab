/-
  What the reference of layer 8 returns: node: its contract.
-/
import Derived.Test.YtbmdadhbkdkgmaaDoorARefsA
namespace Go.Proofs.YtbmdadhbkdkgmaaDoor.A
open Go.RowKit
open L (Str isName prt size_len below_2 below_box ret_bool ret_int)

theorem n_arg {e : Ex} {d : Nat} (h : arity e.op < 0 ∨ (e.op ≠ 1 ∧ e.n ≠ 0) ∨ (e.op ≠ 2 ∧ e.op ≠ 3 ∧ e.s.size ≠ 0)) : nodeE e d = 1 := by unfold nodeE; rw [if_pos h]
theorem n_name {e : Ex} {d : Nat} (h : ¬ (arity e.op < 0 ∨ (e.op ≠ 1 ∧ e.n ≠ 0) ∨ (e.op ≠ 2 ∧ e.op ≠ 3 ∧ e.s.size ≠ 0))) (h2 : e.op = 3 ∧ nam e.s = false) : nodeE e d = 7 := by unfold nodeE; rw [if_neg h, if_pos h2]
theorem n_arg2 {e : Ex} {d : Nat} (h : ¬ (arity e.op < 0 ∨ (e.op ≠ 1 ∧ e.n ≠ 0) ∨ (e.op ≠ 2 ∧ e.op ≠ 3 ∧ e.s.size ≠ 0))) (h2 : ¬ (e.op = 3 ∧ nam e.s = false)) (h3 : e.n < 0 ∨ (e.op = 2 ∧ plain e.s = false) ∨ (e.args.length : Int) ≠ arity e.op) : nodeE e d = 1 := by unfold nodeE; rw [if_neg h, if_neg h2, if_pos h3]
theorem n_deep {e : Ex} {d : Nat} (h : ¬ (arity e.op < 0 ∨ (e.op ≠ 1 ∧ e.n ≠ 0) ∨ (e.op ≠ 2 ∧ e.op ≠ 3 ∧ e.s.size ≠ 0))) (h2 : ¬ (e.op = 3 ∧ nam e.s = false)) (h3 : ¬ (e.n < 0 ∨ (e.op = 2 ∧ plain e.s = false) ∨ (e.args.length : Int) ≠ arity e.op)) (h4 : 12 < d) : nodeE e d = 2 := by unfold nodeE; rw [if_neg h, if_neg h2, if_neg h3, if_pos h4]
theorem n_ok {e : Ex} {d : Nat} (h : ¬ (arity e.op < 0 ∨ (e.op ≠ 1 ∧ e.n ≠ 0) ∨ (e.op ≠ 2 ∧ e.op ≠ 3 ∧ e.s.size ≠ 0))) (h2 : ¬ (e.op = 3 ∧ nam e.s = false)) (h3 : ¬ (e.n < 0 ∨ (e.op = 2 ∧ plain e.s = false) ∨ (e.args.length : Int) ≠ arity e.op)) (h4 : ¬ 12 < d) : nodeE e d = 0 := by unfold nodeE; rw [if_neg h, if_neg h2, if_neg h3, if_neg h4]
end Go.Proofs.YtbmdadhbkdkgmaaDoor.A
