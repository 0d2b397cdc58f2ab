/-
  What the listed tables give the walks of layer 9, and worlds that meet the conditions: used by each law's proof.
-/
import Derived.Test.YtbmdadhbkdkgmaaDoorRows
import Derived.Test.YtbmdadhbkdkgmaaDoorTie
import Derived.Test.YtbmdadhbkdkgmaaDoorCards
import Derived.WalkKit
import Derived.ProofKit
import Derived.LaidMore
import Derived.OpenShut
import Derived.Stop.Joined
import Derived.Stop.LaidErr
import Derived.Lib.LaidTab
import Derived.Lib.LaidU8
import Derived.Lib.ItoaNum
import Derived.SevenTiedAt
import Derived.Lay
import Derived.Test.YtbmdadhbkdkgmaaDoorQA
namespace Go.Proofs.YtbmdadhbkdkgmaaDoor
open Go.ChangeShapes Go.WideShapes Go.ChangeAt Go.WideMaps Go.WideElems Go.RowKit

theorem own : ownKnob Tryd.prog.godebug = none := by kernel_rfl
theorem gPow10 : Tryd.prog.globalNamed "internal/strconv.uint64pow10" = some 3 := by kernel_rfl
theorem tPow10 : (Tryd.prog.globals[3]?).map (·.type) = some 122 := by kernel_rfl
theorem cPow : Tryd.prog.cellsOf 122 = 20 := by kernel_rfl
theorem cU64 : Tryd.prog.cellsOf 116 = 1 := by kernel_rfl
theorem gOps : Tryd.prog.globalNamed "clockwork/printer.operators" = some 0 := by kernel_rfl
theorem tOps : (Tryd.prog.globals[0]?).map (·.type) = some 84 := by kernel_rfl
theorem gNms : Tryd.prog.globalNamed "clockwork/printer.typeNames" = some 1 := by kernel_rfl
theorem tNms : (Tryd.prog.globals[1]?).map (·.type) = some 87 := by kernel_rfl
theorem cOp : Tryd.prog.cellsOf 83 = 2 := by kernel_rfl
theorem cInt : Tryd.prog.cellsOf 3 = 1 := by kernel_rfl
theorem cStr : Tryd.prog.cellsOf 9 = 1 := by kernel_rfl
def laid5 : List (String × DataW Unit) := [("math/bits.deBruijn32tab", Rows.laid_math_bits_deBruijn32tab), ("math/bits.deBruijn64tab", Rows.laid_math_bits_deBruijn64tab), ("internal/strconv.uint64pow10", Rows.laid_internal_strconv_uint64pow10), ("clockwork/printer.operators", Rows.laid_clockwork_printer_operators), ("clockwork/printer.typeNames", Rows.laid_clockwork_printer_typeNames)]
theorem met5 (os : Os) (args : Array Value) : laidMetH Tryd.prog laid5 ((World.laidAll Tryd.prog os laid5).forCall (fun _ _ => 0) ⟨#[], args, []⟩).memory := by
  rw [MakeChecks.laidMetH_plain _ _ _ (by kernel_rfl)]
  exact laidMet_laidAll _ (by kernel_rfl) (by kernel_rfl)
theorem shape5 (os : Os) : (World.laidAll Tryd.prog os laid5).Shaped Tryd.prog := World.shaped_of_ZipB (by kernel_rfl) (by kernel_rfl)
/-- the operators as the text lays them -/
def opsData : List (DataW Unit) := (List.range 28).map fun (n : Nat) => .agg [.lit (.int .i64 (if n = 0 then 0 else ((P.lv (n : Int) : Nat) : Int))), .lit (.string (if n = 0 then [] else P.opx n))]
theorem ops_laid : (Rows.laid_clockwork_printer_operators : DataW Unit) = .agg opsData := by kernel_rfl
def nmsData : List (DataW Unit) := (List.range 4).map fun (n : Nat) => .lit (.string (if n = 0 then [] else P.tyW (n : Int)))
theorem nms_laid : (Rows.laid_clockwork_printer_typeNames : DataW Unit) = .agg nmsData := by kernel_rfl
theorem ops_of {W : World} (h : Lib.VarReads Tryd.prog W "clockwork/printer.operators" Rows.laid_clockwork_printer_operators) (n : Nat) (h1 : 1 ≤ n) (h2 : n ≤ 27) :
    W.cell? ⟨0, n * 2, none⟩ = some (.int .i64 ((P.lv (n : Int) : Nat) : Int)) ∧ W.cell? ⟨0, n * 2 + 1, none⟩ = some (.string (P.ba (P.opx n))) := by
  rw [ops_laid] at h
  obtain ⟨g, t, cs, fuel, p, hg, hty, hvar, hd⟩ := h
  obtain rfl := Option.some.inj (gOps.symm.trans hg)
  obtain rfl := Option.some.inj (tOps.symm.trans hty)
  obtain ⟨fuel', d, q, hdi, he⟩ := Lib.array_elem Tryd.underlying84 hd n (by omega)
  unfold opsData at hdi
  simp only [List.getElem?_map, List.getElem?_range (show n < 28 by omega), Option.map_some, Option.some.injEq, if_neg (show ¬ n = 0 by omega)] at hdi
  subst hdi
  rw [cOp] at he
  obtain ⟨xs, m, hm, hx, hl, hlen, hf⟩ := DataW.trod_struct Tryd.underlying83 he
  match xs, hlen, hx, hf with
  | [x0, x1], _, hx, hf =>
    have f0 := hf 0 _ rfl
    have f1 := hf 1 _ rfl
    obtain ⟨o, e0, e0', _⟩ := DataW.trod_int Tryd.underlying3 f0
    obtain ⟨s, e1, e1', _⟩ := DataW.trod_string Tryd.underlying9 f1
    subst e0' e1'
    simp at hx
    obtain ⟨⟨rfl, hs⟩, _⟩ := hx
    simp [cInt, cStr] at e0 e1
    have c0 := congrArg (·[0]?) e0
    have c1 := congrArg (·[0]?) e1
    simp [List.getElem?_drop] at c0 c1
    constructor
    · rw [World.var?_cell gOps hvar (n * 2), ← Array.getElem?_toList]
      simpa using c0
    · rw [World.var?_cell gOps hvar (n * 2 + 1), ← Array.getElem?_toList]
      have : s = P.ba (P.opx n) := P.oba_eq hs.symm
      rw [← this]
      simpa using c1
theorem nms_of {W : World} (h : Lib.VarReads Tryd.prog W "clockwork/printer.typeNames" Rows.laid_clockwork_printer_typeNames) (n : Nat) (h1 : 1 ≤ n) (h2 : n ≤ 3) :
    W.cell? ⟨1, n, none⟩ = some (.string (P.ba (P.tyW (n : Int)))) := by
  rw [nms_laid] at h
  obtain ⟨g, t, cs, fuel, p, hg, hty, hvar, hd⟩ := h
  obtain rfl := Option.some.inj (gNms.symm.trans hg)
  obtain rfl := Option.some.inj (tNms.symm.trans hty)
  obtain ⟨fuel', d, q, hdi, he⟩ := Lib.array_elem Tryd.underlying87 hd n (by omega)
  unfold nmsData at hdi
  simp only [List.getElem?_map, List.getElem?_range (show n < 4 by omega), Option.map_some, Option.some.injEq, if_neg (show ¬ n = 0 by omega)] at hdi
  subst hdi
  rw [cStr] at he
  obtain ⟨s, e1, e1', _⟩ := DataW.trod_string Tryd.underlying9 he
  simp at e1'
  have c1 := congrArg (·[0]?) e1
  simp [List.getElem?_drop] at c1
  rw [World.var?_cell gNms hvar n, ← Array.getElem?_toList]
  have : s = P.ba (P.tyW (n : Int)) := P.oba_eq e1'.1.symm
  rw [← this]
  simpa using c1
/-- What the walks ask of the tables, as the condition lays them. -/
theorem tab_of_laid {W : World} (h : laidMetH Tryd.prog laid5 W) : P.Tab W := by
  rw [MakeChecks.laidMetH_plain _ _ _ (by kernel_rfl)] at h
  have hr := fun {n : String} {d : DataW Unit} (hm : (n, d) ∈ laid5) => Lib.laidMet.reads h hm
  have ho := hr (n := "clockwork/printer.operators") (d := Rows.laid_clockwork_printer_operators) (by simp [laid5])
  have hn := hr (n := "clockwork/printer.typeNames") (d := Rows.laid_clockwork_printer_typeNames) (by simp [laid5])
  have h2 : laidMet Tryd.prog [("internal/strconv.uint64pow10", Rows.laid_internal_strconv_uint64pow10), ("clockwork/printer.operators", Rows.laid_clockwork_printer_operators), ("clockwork/printer.typeNames", Rows.laid_clockwork_printer_typeNames)] W := laidMet.tail (laidMet.tail h)
  have e : (Rows.laid_internal_strconv_uint64pow10 : DataW Unit) = Lib.tabData .u64 Lib.pow10Tab := by rfl
  rw [e] at h2
  exact ⟨fun n h1 h2 => (ops_of ho n h1 h2).1, fun n h1 h2 => (ops_of ho n h1 h2).2, fun n h1 h2 => nms_of hn n h1 h2, Lib.tabIs_of_head gPow10 tPow10 Tryd.underlying122 Tryd.underlying116 cU64 cPow h2⟩
end Go.Proofs.YtbmdadhbkdkgmaaDoor
