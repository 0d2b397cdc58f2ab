/-
  What the listed table gives the walks of layer 11, worlds that meet the condition, and lists of variables and of arguments as arguments: used by each law's proof.
-/
import Derived.Test.YtkjefigebdbkaaaDoorRows
import Derived.Test.YtkjefigebdbkaaaDoorTie
import Derived.Test.YtkjefigebdbkaaaDoorCards
import Derived.WalkKit
import Derived.ProofKit
import Derived.LaidMore
import Derived.OpenShut
import Derived.Stop.Joined
import Derived.Stop.LaidErr
import Derived.Lib.LaidTab
import Derived.Lib.LaidU8
import Derived.SevenTiedAt
import Derived.Lay
import Derived.Test.YtkjefigebdbkaaaDoorTABase
import Derived.Test.YtkjefigebdbkaaaDoorN18
namespace Go.Proofs.YtkjefigebdbkaaaDoor
open Go.ChangeShapes Go.WideShapes Go.ChangeAt Go.WideMaps Go.WideElems Go.RowKit

theorem own : ownKnob Tryd.prog.godebug = none := by kernel_rfl
theorem gOps : Tryd.prog.globalNamed "clockwork/types.operators" = some 0 := by kernel_rfl
theorem tOps : (Tryd.prog.globals[0]?).map (·.type) = some 128 := by kernel_rfl
theorem cOp : Tryd.prog.cellsOf 127 = 2 := by kernel_rfl
theorem cSet : Tryd.prog.cellsOf 125 = 1 := by kernel_rfl
theorem cInt : Tryd.prog.cellsOf 3 = 1 := by kernel_rfl
def laid1 : List (String × DataW Unit) := [("clockwork/types.operators", Rows.laid_clockwork_types_operators)]
theorem met1 (os : Os) (args : Array Value) : laidMetH Tryd.prog laid1 ((World.laidAll Tryd.prog os laid1).forCall (fun _ _ => 0) ⟨#[], args, []⟩).memory := by
  rw [MakeChecks.laidMetH_plain _ _ _ (by kernel_rfl)]
  exact laidMet_laidAll _ (by kernel_rfl) (by kernel_rfl)
theorem shape1 (os : Os) : (World.laidAll Tryd.prog os laid1).Shaped Tryd.prog := World.shaped_of_ZipB (by kernel_rfl) (by kernel_rfl)
/-- the operators as the text lays them -/
def opsData : List (DataW Unit) := (List.range 28).map fun (n : Nat) => .agg [.lit (.int .i64 (Y.inE (n : Int))), .lit (.int .i64 (Y.outE (n : Int)))]
theorem ops_laid : (Rows.laid_clockwork_types_operators : DataW Unit) = .agg opsData := by kernel_rfl
theorem ops_of {W : World} (h : Lib.VarReads Tryd.prog W "clockwork/types.operators" Rows.laid_clockwork_types_operators) (n : Nat) (h2 : n ≤ 27) :
    W.cell? ⟨0, n * 2, none⟩ = some (.int .i64 (Y.inE (n : Int))) ∧ W.cell? ⟨0, n * 2 + 1, none⟩ = some (.int .i64 (Y.outE (n : Int))) := by
  rw [ops_laid] at h
  obtain ⟨g, t, cs, fuel, p, hg, hty, hvar, hd⟩ := h
  obtain rfl := Option.some.inj (gOps.symm.trans hg)
  obtain rfl := Option.some.inj (tOps.symm.trans hty)
  obtain ⟨fuel', d, q, hdi, he⟩ := Lib.array_elem Tryd.underlying128 hd n (by omega)
  unfold opsData at hdi
  simp only [List.getElem?_map, List.getElem?_range (show n < 28 by omega), Option.map_some, Option.some.injEq] at hdi
  subst hdi
  rw [cOp] at he
  obtain ⟨xs, m, hm, hx, hl, hlen, hf⟩ := DataW.trod_struct Tryd.underlying127 he
  match xs, hlen, hx, hf with
  | [x0, x1], _, hx, hf =>
    have f0 := hf 0 _ rfl
    have f1 := hf 1 _ rfl
    obtain ⟨o, e0, e0', _⟩ := DataW.trod_int Tryd.underlying125 f0
    obtain ⟨s, e1, e1', _⟩ := DataW.trod_int Tryd.underlying3 f1
    subst e0' e1'
    simp at hx
    obtain ⟨⟨rfl, rfl⟩, _⟩ := hx
    simp [cInt, cSet] at e0 e1
    have c0 := congrArg (·[0]?) e0
    have c1 := congrArg (·[0]?) e1
    simp [List.getElem?_drop] at c0 c1
    constructor
    · rw [World.var?_cell gOps hvar (n * 2), ← Array.getElem?_toList]
      simpa using c0
    · rw [World.var?_cell gOps hvar (n * 2 + 1), ← Array.getElem?_toList]
      simpa using c1
/-- What the walks ask of the table, as the condition lays it. -/
theorem tab_of_1 {W : World} (h : laidMetH Tryd.prog laid1 W) : Y.Tb W := by
  rw [MakeChecks.laidMetH_plain _ _ _ (by kernel_rfl)] at h
  have ho := Lib.laidMet.reads h (show ("clockwork/types.operators", Rows.laid_clockwork_types_operators) ∈ laid1 by simp [laid1])
  exact ⟨fun n hn => (ops_of ho n hn).1, fun n hn => (ops_of ho n hn).2⟩
end Go.Proofs.YtkjefigebdbkaaaDoor
namespace Go.Proofs.YtkjefigebdbkaaaDoor.Y
open Go.ChangeShapes Go.WideShapes Go.ChangeAt Go.WideMaps Go.WideElems Go.RowKit Go.Joins
open L (size_len)
open A (Pm PmsAt RB RB.left RB.right RB.head RB.tail reach47 two bounds_i64 cellsPm bytesPm fieldsPm spot_none cellsStr cellsInt)
section
variable {H : Type} {enc : TypeId × Value → H} {w : World} {base b0 : Nat} {spare : Nat → Bool} {held : Bool}
end
end Go.Proofs.YtkjefigebdbkaaaDoor.Y
