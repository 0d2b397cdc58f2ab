/-
  Two expressions by value as an argument of the rows of layer 9.
-/
import Derived.Test.YtbmdadhbkdkgmaaDoorABase
namespace Go.Proofs.YtbmdadhbkdkgmaaDoor.P
open Go.ChangeShapes Go.WideShapes Go.ChangeAt Go.WideMaps Go.WideElems Go.RowKit Go.Joins
open L (size_len)
open A

theorem cellsPair : Tryd.prog.cellsOf 29 = 8 := by kernel_rfl
section
variable {H : Type} {enc : TypeId × Value → H} {w : World} {base b0 : Nat} {spare : Nat → Bool} {held : Bool}
theorem eight {α : Type} {cs : List α} (h : cs.length = 8) : ∃ a b c d e f g i, cs = [a, b, c, d, e, f, g, i] := by
  match cs, h with
  | [a, b, c, d, e, f, g, i], _ => exact ⟨a, b, c, d, e, f, g, i, rfl⟩
set_option maxRecDepth 100000 in
/-- a pair of expressions as an argument -/
theorem open_pair {v : Value} {d : DataW H} {p : List MemPlace} (hv : Value.okWide Tryd.prog w .any b0 29 v) (h : DataW.Trod enc Tryd.prog w base spare held 29 v d p) :
    ∃ (e1 : Ex) (a1 : Option Addr) (c1 : Nat) (e2 : Ex) (a2 : Option Addr) (c2 : Nat), v = .agg #[.int .i64 e1.op, .int .i64 e1.n, .string e1.s, .slice a1 e1.args.length c1, .int .i64 e2.op, .int .i64 e2.n, .string e2.s, .slice a2 e2.args.length c2] ∧
      A.Kids w a1 e1.args ∧ A.Kids w a2 e2.args ∧ (RB (d.weights Tryd.prog 29) → okE e1 ∧ okE e2) := by
  obtain ⟨cs, rfl, hsz⟩ : ∃ cs, v = .agg cs ∧ cs.size = Tryd.prog.cellsOf 29 := by
    simp only [Value.okWide, Tryd.underlying29] at hv
    obtain ⟨cs, h1, h2, _⟩ := hv
    exact ⟨cs, h1, h2⟩
  obtain ⟨fuel, hf⟩ := h
  have hc : (Value.agg cs).cells.toList = cs.toList := by simp [Value.cells]
  rw [hc] at hf
  obtain ⟨xs, m, _, hx, hl, hlen, hel⟩ := DataW.trod_array Tryd.underlying29 hf
  rw [cellsPair] at hl
  obtain ⟨q0, q1, q2, q3, q4, q5, q6, q7, hcs⟩ := eight hl
  obtain ⟨x0, x1, rfl⟩ := two (α := DataW H × List MemPlace) hlen
  have f0 := hel 0 (by decide)
  have f1 := hel 1 (by decide)
  rw [cellsEx, hcs] at f0 f1
  obtain ⟨e1, a1, c1, g0, k1, r1⟩ := ex_reads m _ _ f0
  obtain ⟨e2, a2, c2, g1, k2, r2⟩ := ex_reads m _ _ f1
  simp at g0 g1
  obtain ⟨rfl, rfl, rfl, rfl⟩ := g0
  obtain ⟨rfl, rfl, rfl, rfl⟩ := g1
  refine ⟨e1, a1, c1, e2, a2, c2, ?_, k1, k2, fun hw => ?_⟩
  · congr 1
    exact Array.toList_inj.1 (by rw [hcs])
  · obtain ⟨rfl, _⟩ := Prod.mk.inj hx
    simp only [DataW.weights, Tryd.underlying29, List.map_cons, List.map_nil, DataW.weightsAll, List.append_nil] at hw
    exact ⟨r1 hw.left, r2 hw.right⟩
end
end Go.Proofs.YtbmdadhbkdkgmaaDoor.P
