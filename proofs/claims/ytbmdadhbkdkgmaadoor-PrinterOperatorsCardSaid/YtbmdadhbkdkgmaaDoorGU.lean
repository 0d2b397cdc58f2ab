/-
  What the reference of layer 8 returns: uses, swap: contracts.
  What the reference of layer 8 returns: Occurs: a contract.
-/
import Derived.Test.YtbmdadhbkdkgmaaDoorGW
import Derived.Test.YtbmdadhbkdkgmaaDoorGC
namespace Go.Proofs.YtbmdadhbkdkgmaaDoor.A
open Go.RowKit
open L (Str isName prt size_len below_2 below_box ret_bool ret_int eql_eq bytes_eq)

theorem results_tmp6 {fn : Func} {t1 t2 t3 t4 t5 t6 : Tmp} (h : fn.results = #[.tmp t1, .tmp t2, .tmp t3, .tmp t4, .tmp t5, .tmp t6]) (tmps : Array Value) (P : Program) (w : World) :
    (results fn tmps).run P w = .ok (.tuple #[tmps.getD t1 undef, tmps.getD t2 undef, tmps.getD t3 undef, tmps.getD t4 undef, tmps.getD t5 undef, tmps.getD t6 undef]) w := by
  simp [results, h]
/-- which fields a statement uses, as six Booleans -/
def usesV (o : Int) : Value := .tuple #[.bool (uN o), .bool (uM o), .bool (uA o), .bool (uB o), .bool (uD o), .bool (uE o)]
end Go.Proofs.YtbmdadhbkdkgmaaDoor.A
namespace Go.Proofs.YtbmdadhbkdkgmaaDoor.A
open Go.RowKit
open L (Str isName prt size_len below_2 below_box ret_bool ret_int eql_eq bytes_eq)

theorem eql_yes {a b : ByteArray} (h : a = b) : (a.toList == b.toList) = true := by rw [eql_eq]; exact decide_eq_true (by rw [h])
theorem eql_no {a b : ByteArray} (h : ¬ a = b) : (a.toList == b.toList) = false := by rw [eql_eq]; exact decide_eq_false (fun h2 => h (bytes_eq h2))
theorem occurs_par {p : Pr} {x : ByteArray} {k : Nat} (h : k < p.params.length) (hx : p.params[k].name = x) : occurs p x = true := by
  unfold occurs
  rw [List.any_eq_true.2 ⟨p.params[k], List.getElem_mem h, decide_eq_true hx⟩, Bool.true_or]
theorem occurs_walk {p : Pr} {x : ByteArray} {k : Nat} (h : k < (walk p).length) (hx : V.says x (walk p)[k] = true) : occurs p x = true := by
  unfold occurs
  rw [List.any_eq_true.2 ⟨(walk p)[k], List.getElem_mem h, hx⟩, Bool.or_true]
theorem occurs_no {p : Pr} {x : ByteArray} (h1 : ∀ j (h : j < p.params.length), ¬ p.params[j].name = x) (h2 : ∀ j (h : j < (walk p).length), V.says x (walk p)[j] = false) : occurs p x = false := by
  unfold occurs
  have e1 : p.params.any (fun q => decide (q.name = x)) = false := by
    rw [List.any_eq_false]
    intro q hq
    obtain ⟨j, hj, rfl⟩ := List.getElem_of_mem hq
    rw [decide_eq_true_eq]
    exact h1 j hj
  have e2 : (walk p).any (V.says x) = false := by
    rw [List.any_eq_false]
    intro q hq
    obtain ⟨j, hj, rfl⟩ := List.getElem_of_mem hq
    rw [h2 j hj]
    decide
  rw [e1, e2]; rfl
end Go.Proofs.YtbmdadhbkdkgmaaDoor.A
