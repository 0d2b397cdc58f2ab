/-
  What the listed table gives the walks of layer 11, worlds that meet the condition, and lists of variables and of arguments as arguments: used by each law's proof.
-/
import Derived.Test.YtlebflphgeolfaaDoorRows
import Derived.Test.YtlebflphgeolfaaDoorTie
import Derived.Test.YtlebflphgeolfaaDoorCards
import Derived.WalkKit
import Derived.ProofKit
import Derived.LaidMore
import Derived.OpenShut
import Derived.Stop.Joined
import Derived.Stop.LaidErr
import Derived.Lib.LaidTab
import Derived.Lib.LaidU8
import Derived.SevenTiedAt
import Derived.Lay
import Derived.Test.YtlebflphgeolfaaDoorQABase
import Derived.Test.YtlebflphgeolfaaDoorM14
namespace Go.Proofs.YtlebflphgeolfaaDoor
open Go.ChangeShapes Go.WideShapes Go.ChangeAt Go.WideMaps Go.WideElems Go.RowKit

theorem own : ownKnob Tryd.prog.godebug = none := by kernel_rfl
theorem gOps : Tryd.prog.globalNamed "clockwork/types.operators" = some 0 := by kernel_rfl
theorem tOps : (Tryd.prog.globals[0]?).map (·.type) = some 98 := by kernel_rfl
theorem cOp : Tryd.prog.cellsOf 97 = 2 := by kernel_rfl
theorem cSet : Tryd.prog.cellsOf 95 = 1 := by kernel_rfl
theorem cInt : Tryd.prog.cellsOf 3 = 1 := by kernel_rfl
def laid1 : List (String × DataW Unit) := [("clockwork/types.operators", Rows.laid_clockwork_types_operators)]
theorem met1 (os : Os) (args : Array Value) : laidMetH Tryd.prog laid1 ((World.laidAll Tryd.prog os laid1).forCall (fun _ _ => 0) ⟨#[], args, []⟩).memory := by
  rw [MakeChecks.laidMetH_plain _ _ _ (by kernel_rfl)]
  exact laidMet_laidAll _ (by kernel_rfl) (by kernel_rfl)
theorem shape1 (os : Os) : (World.laidAll Tryd.prog os laid1).Shaped Tryd.prog := World.shaped_of_ZipB (by kernel_rfl) (by kernel_rfl)
/-- the operators as the text lays them -/
def opsData : List (DataW Unit) := (List.range 28).map fun (n : Nat) => .agg [.lit (.int .i64 (Y.inE (n : Int))), .lit (.int .i64 (Y.outE (n : Int)))]
theorem ops_laid : (Rows.laid_clockwork_types_operators : DataW Unit) = .agg opsData := by kernel_rfl
theorem ops_of {W : World} (h : Lib.VarReads Tryd.prog W "clockwork/types.operators" Rows.laid_clockwork_types_operators) (n : Nat) (h2 : n ≤ 27) :
    W.cell? ⟨0, n * 2, none⟩ = some (.int .i64 (Y.inE (n : Int))) ∧ W.cell? ⟨0, n * 2 + 1, none⟩ = some (.int .i64 (Y.outE (n : Int))) := by
  rw [ops_laid] at h
  obtain ⟨g, t, cs, fuel, p, hg, hty, hvar, hd⟩ := h
  obtain rfl := Option.some.inj (gOps.symm.trans hg)
  obtain rfl := Option.some.inj (tOps.symm.trans hty)
  obtain ⟨fuel', d, q, hdi, he⟩ := Lib.array_elem Tryd.underlying98 hd n (by omega)
  unfold opsData at hdi
  simp only [List.getElem?_map, List.getElem?_range (show n < 28 by omega), Option.map_some, Option.some.injEq] at hdi
  subst hdi
  rw [cOp] at he
  obtain ⟨xs, m, hm, hx, hl, hlen, hf⟩ := DataW.trod_struct Tryd.underlying97 he
  match xs, hlen, hx, hf with
  | [x0, x1], _, hx, hf =>
    have f0 := hf 0 _ rfl
    have f1 := hf 1 _ rfl
    obtain ⟨o, e0, e0', _⟩ := DataW.trod_int Tryd.underlying95 f0
    obtain ⟨s, e1, e1', _⟩ := DataW.trod_int Tryd.underlying3 f1
    subst e0' e1'
    simp at hx
    obtain ⟨⟨rfl, rfl⟩, _⟩ := hx
    simp [cInt, cSet] at e0 e1
    have c0 := congrArg (·[0]?) e0
    have c1 := congrArg (·[0]?) e1
    simp [List.getElem?_drop] at c0 c1
    constructor
    · rw [World.var?_cell gOps hvar (n * 2), ← Array.getElem?_toList]
      simpa using c0
    · rw [World.var?_cell gOps hvar (n * 2 + 1), ← Array.getElem?_toList]
      simpa using c1
/-- What the walks ask of the table, as the condition lays it. -/
theorem tab_of_1 {W : World} (h : laidMetH Tryd.prog laid1 W) : Y.Tb W := by
  rw [MakeChecks.laidMetH_plain _ _ _ (by kernel_rfl)] at h
  have ho := Lib.laidMet.reads h (show ("clockwork/types.operators", Rows.laid_clockwork_types_operators) ∈ laid1 by simp [laid1])
  exact ⟨fun n hn => (ops_of ho n hn).1, fun n hn => (ops_of ho n hn).2⟩
end Go.Proofs.YtlebflphgeolfaaDoor
namespace Go.Proofs.YtlebflphgeolfaaDoor.Y
open Go.ChangeShapes Go.WideShapes Go.ChangeAt Go.WideMaps Go.WideElems Go.RowKit Go.Joins
open L (size_len)
open A (Pm PmsAt RB RB.left RB.right RB.head RB.tail reach47 two bounds_i64 cellsPm bytesPm fieldsPm spot_none cellsStr cellsInt)
section
variable {H : Type} {enc : TypeId × Value → H} {w : World} {base b0 : Nat} {spare : Nat → Bool} {held : Bool}
def tyOk (q : Pm) : Prop := -9223372036854775808 ≤ q.ty ∧ q.ty ≤ 9223372036854775807
set_option maxRecDepth 10000 in
theorem pmt_of {n : Nat} : ∀ (elems : List (DataW H × List MemPlace)) (b i : Nat),
    (∀ j, j < elems.length → (w.cells? base ⟨b, i + j * 2, none⟩ 2).bind (DataW.trod enc Tryd.prog w base spare held n 48) = elems[j]?) →
    ∃ l : List Pm, l.length = elems.length ∧ (∀ j (h : j < l.length), w.cell? ⟨b, i + j * 2, none⟩ = some (.string l[j].name) ∧ w.cell? ⟨b, i + j * 2 + 1, none⟩ = some (.int .i64 l[j].ty)) ∧
      (∀ q ∈ l, tyOk q) ∧ (RB (DataW.weightsAll Tryd.prog 48 (elems.map (·.1))) → ∀ q ∈ l, q.name.size ≤ 1000000000000000)
  | [], _, _, _ => ⟨[], rfl, (fun j h => by cases h), (fun q h => (nomatch h)), (fun _ q h => (nomatch h))⟩
  | y :: r, b, i, h => by
    have h0 := h 0 (by simp)
    rw [List.getElem?_cons_zero, Option.bind_eq_some_iff] at h0
    obtain ⟨cs, hcs, hy⟩ := h0
    obtain ⟨_, hl2, hc⟩ := World.cells?_some hcs
    obtain ⟨xs, m, hm, hx, hl, hlen, hf⟩ := DataW.trod_struct Tryd.underlying48 hy
    obtain ⟨c0, c1, rfl⟩ := two hl2
    obtain ⟨x0, x1, rfl⟩ := two (α := DataW H × List MemPlace) (hlen.trans rfl)
    have f0 := hf 0 _ rfl
    have f1 := hf 1 _ rfl
    obtain ⟨nm, e0, e0', w0⟩ := DataW.trod_string Tryd.underlying9 f0
    obtain ⟨ty, e1, e1', w1⟩ := DataW.trod_int Tryd.underlying3 f1
    simp [cellsStr, cellsInt] at e0 e1
    subst e0 e1 e0' e1'
    rw [Nat.zero_mul, Nat.add_zero] at hc
    obtain ⟨l, hll, hat, htl, hrl⟩ := pmt_of r b (i + 2) (fun j hj => by
      have := h (j + 1) (by simpa using hj)
      rw [List.getElem?_cons_succ] at this
      rw [show i + 2 + j * 2 = i + (j + 1) * 2 by omega]
      exact this)
    refine ⟨⟨nm, ty⟩ :: l, by simp [hll], fun j hj => ?_, fun q hq => ?_, fun hw q hq => ?_⟩
    · cases j with
      | zero =>
        have k0 := hc 0 (by decide)
        have k1 := hc 1 (by decide)
        rw [add_plain] at k0 k1
        exact ⟨by simpa using k0, by simpa using k1⟩
      | succ j =>
        have := hat j (by simpa using hj)
        rw [show i + (j + 1) * 2 = i + 2 + j * 2 by omega]
        simpa using this
    · rcases List.mem_cons.1 hq with rfl | hq
      · exact bounds_i64 w1
      · exact htl q hq
    · rw [List.map_cons, DataW.weightsAll, hx] at hw
      obtain ⟨fs, h1, h2⟩ := fieldsPm
      rcases List.mem_cons.1 hq with rfl | hq
      · have hw0 := hw.left
        simp only [DataW.weights, h1, h2, DataW.weightsEach, List.map_cons, List.map_nil, List.append_nil] at hw0
        have hs := hw0.head
        have := reach47
        rw [← size_len] at hs
        show nm.size ≤ _
        omega
      · exact hrl hw.right q hq
set_option maxRecDepth 100000 in
/-- a list of variables as an argument -/
theorem open_pms {v : Value} {d : DataW H} {p : List MemPlace} (hv : Value.okWide Tryd.prog w .any b0 25 v) (h : DataW.Trod enc Tryd.prog w base spare held 25 v d p) :
    ∃ (l : List Pm) (a : Option Addr) (c : Nat), v = .slice a l.length c ∧ PmsAt w a l ∧ (∀ q ∈ l, tyOk q) ∧ l.length ≤ c ∧ (RB (d.weights Tryd.prog 25) → l.length ≤ 1000000000000000 ∧ ∀ q ∈ l, q.name.size ≤ 1000000000000000) := by
  obtain ⟨a0, len, cap, rfl⟩ := okWide_slice Tryd.underlying25 hv
  obtain ⟨fuel, hf⟩ := h
  rcases DataW.trod_slice Tryd.underlying25 hf with ⟨hcs, hx⟩ | ⟨a, len', cap', elems, rest, n, _, hcs, hx, hb, hl, hm, hlen, hel, _, _⟩
  · simp [Value.cells] at hcs
    obtain ⟨rfl, rfl, rfl⟩ := hcs
    exact ⟨[], none, 0, rfl, Or.inl rfl, (fun q h => (nomatch h)), Nat.le_refl _, fun _ => ⟨Nat.zero_le _, fun q h => (nomatch h)⟩⟩
  · simp [Value.cells] at hcs
    obtain ⟨rfl, rfl, rfl⟩ := hcs
    obtain ⟨rfl, rfl⟩ := Prod.mk.inj hx
    rw [cellsPm] at hel
    subst hlen
    by_cases h0 : elems.length = 0
    · exact ⟨[], some a, cap, by rw [h0]; rfl, Or.inl rfl, (fun q h => (nomatch h)), Nat.zero_le _, fun _ => ⟨Nat.zero_le _, fun q h => (nomatch h)⟩⟩
    · have hsp : a.spot = none := by
        have := hel 0 (by omega)
        rw [List.getElem?_eq_getElem (by omega)] at this
        exact spot_none (by decide) this
      obtain ⟨b, i, spot⟩ := a
      simp only at hsp
      subst hsp
      obtain ⟨l, hll, hat, htl, hr⟩ := pmt_of elems b i (fun j hj => by
        have := hel j hj
        rw [add_plain] at this
        exact this)
      refine ⟨l, some ⟨b, i, none⟩, cap, by rw [hll], Or.inr ⟨b, i, rfl, hat⟩, htl, by omega, fun hw => ?_⟩
      simp only [DataW.weights, Tryd.underlying25, bytesPm] at hw
      have h1 := hw.head
      have := reach47
      rw [List.length_map] at h1
      exact ⟨by rw [hll]; omega, hr hw.tail.left⟩
end
end Go.Proofs.YtlebflphgeolfaaDoor.Y
