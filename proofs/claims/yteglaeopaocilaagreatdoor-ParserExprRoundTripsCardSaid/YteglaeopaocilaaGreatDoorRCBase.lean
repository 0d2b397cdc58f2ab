/-
  What the listed tables give the walks of layer 10, and worlds that meet the conditions (a pinned table among them): used by each law's proof. Three lists of tables.
-/
import Derived.Test.YteglaeopaocilaaGreatDoorRows
import Derived.Test.YteglaeopaocilaaGreatDoorTie
import Derived.Test.YteglaeopaocilaaGreatDoorCards
import Derived.WalkKit
import Derived.ProofKit
import Derived.LaidMore
import Derived.OpenShut
import Derived.Stop.Joined
import Derived.Stop.LaidErr
import Derived.Lib.LaidTab
import Derived.Lib.LaidU8
import Derived.Lib.ItoaNum
import Derived.SevenTiedAt
import Derived.Lay
import Derived.Test.YteglaeopaocilaaGreatDoorM18
import Derived.Test.YteglaeopaocilaaGreatDoorM21
namespace Go.Proofs.YteglaeopaocilaaGreatDoor
open Go.ChangeShapes Go.WideShapes Go.ChangeAt Go.WideMaps Go.WideElems Go.RowKit

theorem own : ownKnob Tryz.prog.godebug = none := by kernel_rfl
theorem gPow10 : Tryz.prog.globalNamed "internal/strconv.uint64pow10" = some 6 := by kernel_rfl
theorem tPow10 : (Tryz.prog.globals[6]?).map (·.type) = some 243 := by kernel_rfl
theorem cPow : Tryz.prog.cellsOf 243 = 20 := by kernel_rfl
theorem cU64 : Tryz.prog.cellsOf 222 = 1 := by kernel_rfl
theorem gOps : Tryz.prog.globalNamed "clockwork/printer.operators" = some 0 := by kernel_rfl
theorem tOps : (Tryz.prog.globals[0]?).map (·.type) = some 147 := by kernel_rfl
theorem gNms : Tryz.prog.globalNamed "clockwork/printer.typeNames" = some 1 := by kernel_rfl
theorem tNms : (Tryz.prog.globals[1]?).map (·.type) = some 150 := by kernel_rfl
theorem cOp : Tryz.prog.cellsOf 146 = 2 := by kernel_rfl
theorem cInt : Tryz.prog.cellsOf 3 = 1 := by kernel_rfl
theorem cStr : Tryz.prog.cellsOf 9 = 1 := by kernel_rfl
def laid8 : List (String × DataW Unit) := [("math/bits.deBruijn32tab", Rows.laid_math_bits_deBruijn32tab), ("math/bits.deBruijn64tab", Rows.laid_math_bits_deBruijn64tab), ("internal/strconv.uint64pow10", Rows.laid_internal_strconv_uint64pow10), ("unicode/utf8.acceptRanges", Rows.laid_unicode_utf8_acceptRanges), ("clockwork/parser.operators", Rows.laid_clockwork_parser_operators), ("clockwork/printer.operators", Rows.laid_clockwork_printer_operators), ("clockwork/printer.typeNames", Rows.laid_clockwork_printer_typeNames), ("unicode/utf8.first", Rows.laid_unicode_utf8_first)]
theorem met8 (os : Os) (args : Array Value) : laidMetH Tryz.prog laid8 ((World.laidAll Tryz.prog os laid8).forCall (fun _ _ => 0) ⟨#[], args, []⟩).memory := by
  rw [MakeChecks.laidMetH_plain _ _ _ (by kernel_rfl)]
  exact laidMet_laidAll _ (by kernel_rfl) (by kernel_rfl)
theorem shape8 (os : Os) : (World.laidAll Tryz.prog os laid8).Shaped Tryz.prog := World.shaped_of_ZipB (by kernel_rfl) (by kernel_rfl)
def laid7 : List (String × DataW Unit) := [("math/bits.deBruijn32tab", Rows.laid_math_bits_deBruijn32tab), ("math/bits.deBruijn64tab", Rows.laid_math_bits_deBruijn64tab), ("internal/strconv.uint64pow10", Rows.laid_internal_strconv_uint64pow10), ("unicode/utf8.acceptRanges", Rows.laid_unicode_utf8_acceptRanges), ("clockwork/parser.operators", Rows.laid_clockwork_parser_operators), ("clockwork/printer.operators", Rows.laid_clockwork_printer_operators), ("unicode/utf8.first", Rows.laid_unicode_utf8_first)]
theorem met7 (os : Os) (args : Array Value) : laidMetH Tryz.prog laid7 ((World.laidAll Tryz.prog os laid7).forCall (fun _ _ => 0) ⟨#[], args, []⟩).memory := by
  rw [MakeChecks.laidMetH_plain _ _ _ (by kernel_rfl)]
  exact laidMet_laidAll _ (by kernel_rfl) (by kernel_rfl)
theorem shape7 (os : Os) : (World.laidAll Tryz.prog os laid7).Shaped Tryz.prog := World.shaped_of_ZipB (by kernel_rfl) (by kernel_rfl)
/-- the operators as the text lays them -/
def opsData : List (DataW Unit) := (List.range 28).map fun (n : Nat) => .agg [.lit (.int .i64 (if n = 0 then 0 else ((P.lv (n : Int) : Nat) : Int))), .lit (.string (if n = 0 then [] else P.opx n))]
theorem ops_laid : (Rows.laid_clockwork_printer_operators : DataW Unit) = .agg opsData := by kernel_rfl
def nmsData : List (DataW Unit) := (List.range 4).map fun (n : Nat) => .lit (.string (if n = 0 then [] else P.tyW (n : Int)))
theorem nms_laid : (Rows.laid_clockwork_printer_typeNames : DataW Unit) = .agg nmsData := by kernel_rfl
theorem ops_of {W : World} (h : Lib.VarReads Tryz.prog W "clockwork/printer.operators" Rows.laid_clockwork_printer_operators) (n : Nat) (h1 : 1 ≤ n) (h2 : n ≤ 27) :
    W.cell? ⟨0, n * 2, none⟩ = some (.int .i64 ((P.lv (n : Int) : Nat) : Int)) ∧ W.cell? ⟨0, n * 2 + 1, none⟩ = some (.string (P.ba (P.opx n))) := by
  rw [ops_laid] at h
  obtain ⟨g, t, cs, fuel, p, hg, hty, hvar, hd⟩ := h
  obtain rfl := Option.some.inj (gOps.symm.trans hg)
  obtain rfl := Option.some.inj (tOps.symm.trans hty)
  obtain ⟨fuel', d, q, hdi, he⟩ := Lib.array_elem Tryz.underlying147 hd n (by omega)
  unfold opsData at hdi
  simp only [List.getElem?_map, List.getElem?_range (show n < 28 by omega), Option.map_some, Option.some.injEq, if_neg (show ¬ n = 0 by omega)] at hdi
  subst hdi
  rw [cOp] at he
  obtain ⟨xs, m, hm, hx, hl, hlen, hf⟩ := DataW.trod_struct Tryz.underlying146 he
  match xs, hlen, hx, hf with
  | [x0, x1], _, hx, hf =>
    have f0 := hf 0 _ rfl
    have f1 := hf 1 _ rfl
    obtain ⟨o, e0, e0', _⟩ := DataW.trod_int Tryz.underlying3 f0
    obtain ⟨s, e1, e1', _⟩ := DataW.trod_string Tryz.underlying9 f1
    subst e0' e1'
    simp at hx
    obtain ⟨⟨rfl, hs⟩, _⟩ := hx
    simp [cInt, cStr] at e0 e1
    have c0 := congrArg (·[0]?) e0
    have c1 := congrArg (·[0]?) e1
    simp [List.getElem?_drop] at c0 c1
    constructor
    · rw [World.var?_cell gOps hvar (n * 2), ← Array.getElem?_toList]
      simpa using c0
    · rw [World.var?_cell gOps hvar (n * 2 + 1), ← Array.getElem?_toList]
      have : s = P.ba (P.opx n) := P.oba_eq hs.symm
      rw [← this]
      simpa using c1
theorem nms_of {W : World} (h : Lib.VarReads Tryz.prog W "clockwork/printer.typeNames" Rows.laid_clockwork_printer_typeNames) (n : Nat) (h1 : 1 ≤ n) (h2 : n ≤ 3) :
    W.cell? ⟨1, n, none⟩ = some (.string (P.ba (P.tyW (n : Int)))) := by
  rw [nms_laid] at h
  obtain ⟨g, t, cs, fuel, p, hg, hty, hvar, hd⟩ := h
  obtain rfl := Option.some.inj (gNms.symm.trans hg)
  obtain rfl := Option.some.inj (tNms.symm.trans hty)
  obtain ⟨fuel', d, q, hdi, he⟩ := Lib.array_elem Tryz.underlying150 hd n (by omega)
  unfold nmsData at hdi
  simp only [List.getElem?_map, List.getElem?_range (show n < 4 by omega), Option.map_some, Option.some.injEq, if_neg (show ¬ n = 0 by omega)] at hdi
  subst hdi
  rw [cStr] at he
  obtain ⟨s, e1, e1', _⟩ := DataW.trod_string Tryz.underlying9 he
  simp at e1'
  have c1 := congrArg (·[0]?) e1
  simp [List.getElem?_drop] at c1
  rw [World.var?_cell gNms hvar n, ← Array.getElem?_toList]
  have : s = P.ba (P.tyW (n : Int)) := P.oba_eq e1'.1.symm
  rw [← this]
  simpa using c1
theorem gWds : Tryz.prog.globalNamed "clockwork/parser.operators" = some 3 := by kernel_rfl
theorem tWds : (Tryz.prog.globals[3]?).map (·.type) = some 207 := by kernel_rfl
def wdsData : List (DataW Unit) := (List.range 28).map fun (n : Nat) => .lit (.string ((P.opWs.getD n ⟨#[]⟩).data.toList))
theorem wds_laid : (Rows.laid_clockwork_parser_operators : DataW Unit) = .agg wdsData := by kernel_rfl
theorem wds_len : P.opWs.length = 28 := by kernel_rfl
theorem wds_of {W : World} (h : Lib.VarReads Tryz.prog W "clockwork/parser.operators" Rows.laid_clockwork_parser_operators) : P.OTab W := by
  intro n hn
  have hn2 : n < 28 := by rw [← wds_len]; exact hn
  rw [wds_laid] at h
  obtain ⟨g, t, cs, fuel, p, hg, hty, hvar, hd⟩ := h
  obtain rfl := Option.some.inj (gWds.symm.trans hg)
  obtain rfl := Option.some.inj (tWds.symm.trans hty)
  obtain ⟨fuel', d, q, hdi, he⟩ := Lib.array_elem Tryz.underlying207 hd n (by omega)
  unfold wdsData at hdi
  simp only [List.getElem?_map, List.getElem?_range hn2, Option.map_some, Option.some.injEq] at hdi
  subst hdi
  rw [cStr] at he
  obtain ⟨s, e1, e1', _⟩ := DataW.trod_string Tryz.underlying9 he
  simp at e1'
  have c1 := congrArg (·[0]?) e1
  simp [List.getElem?_drop] at c1
  rw [World.var?_cell gWds hvar n, ← Array.getElem?_toList]
  have hs : s = P.opWs[n] := by
    refine L.bytes_eq ?_
    rw [← e1'.1, List.getElem?_eq_getElem hn]
    rfl
  refine Eq.trans ?_ (congrArg (fun x => some (Value.string x)) hs)
  simpa using c1
theorem pow_eq : (Rows.laid_internal_strconv_uint64pow10 : DataW Unit) = Lib.tabData .u64 Lib.pow10Tab := by rfl
/-- What the walks ask of the tables, as the condition lays them. -/
theorem tab_of_7 {W : World} (h : laidMetH Tryz.prog laid7 W) : P.Tab W ∧ P.OTab W := by
  rw [MakeChecks.laidMetH_plain _ _ _ (by kernel_rfl)] at h
  have hr := fun {n : String} {d : DataW Unit} (hm : (n, d) ∈ laid7) => Lib.laidMet.reads h hm
  have ho := hr (n := "clockwork/printer.operators") (d := Rows.laid_clockwork_printer_operators) (by simp [laid7])
  have hw := hr (n := "clockwork/parser.operators") (d := Rows.laid_clockwork_parser_operators) (by simp [laid7])
  have h2 : laidMet Tryz.prog ((("internal/strconv.uint64pow10", Rows.laid_internal_strconv_uint64pow10) :: laid7.drop 3)) W := laidMet.tail (laidMet.tail h)
  rw [pow_eq] at h2
  exact ⟨⟨fun n h1 h2 => (ops_of ho n h1 h2).1, fun n h1 h2 => (ops_of ho n h1 h2).2, Lib.tabIs_of_head gPow10 tPow10 Tryz.underlying243 Tryz.underlying222 cU64 cPow h2⟩, wds_of hw⟩
theorem tab_of_8 {W : World} (h : laidMetH Tryz.prog laid8 W) : P.TabT W ∧ P.OTab W := by
  rw [MakeChecks.laidMetH_plain _ _ _ (by kernel_rfl)] at h
  have hr := fun {n : String} {d : DataW Unit} (hm : (n, d) ∈ laid8) => Lib.laidMet.reads h hm
  have ho := hr (n := "clockwork/printer.operators") (d := Rows.laid_clockwork_printer_operators) (by simp [laid8])
  have hn := hr (n := "clockwork/printer.typeNames") (d := Rows.laid_clockwork_printer_typeNames) (by simp [laid8])
  have hw := hr (n := "clockwork/parser.operators") (d := Rows.laid_clockwork_parser_operators) (by simp [laid8])
  have h2 : laidMet Tryz.prog ((("internal/strconv.uint64pow10", Rows.laid_internal_strconv_uint64pow10) :: laid8.drop 3)) W := laidMet.tail (laidMet.tail h)
  rw [pow_eq] at h2
  exact ⟨⟨⟨fun n h1 h2 => (ops_of ho n h1 h2).1, fun n h1 h2 => (ops_of ho n h1 h2).2, Lib.tabIs_of_head gPow10 tPow10 Tryz.underlying243 Tryz.underlying222 cU64 cPow h2⟩, fun n h1 h2 => nms_of hn n h1 h2⟩, wds_of hw⟩
end Go.Proofs.YteglaeopaocilaaGreatDoor
