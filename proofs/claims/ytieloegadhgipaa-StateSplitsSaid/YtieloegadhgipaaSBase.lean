/-
  Lists of pairs, ranges, strings and numbers as arguments of the rows of layer 6; what the bound on the arguments' bulk gives.
-/
import Derived.Test.YtieloegadhgipaaRows
import Derived.Test.YtieloegadhgipaaSLawsF
import Derived.WalkKit
import Derived.ProofKit
import Derived.OpenShut
import Derived.ChangeMaps5
import Derived.Lib.SmallJoins
import Derived.SliceStrings
import Derived.JoinedCond
import Derived.Carry
namespace Go.Proofs.Ytieloegadhgipaa.S
open Go.ChangeShapes Go.WideShapes Go.ChangeAt Go.WideMaps Go.WideElems Go.RowKit Go.Joins
open Go.Proofs.Ytieloegadhgipaa.V (size_len)

theorem own : ownKnob Try.prog.godebug = none := by kernel_rfl
theorem laid_out : laidOutB Try.prog = true := by kernel_rfl
theorem cellsPair : Try.prog.cellsOf 33 = 4 := by kernel_rfl
theorem cellsValue : Try.prog.cellsOf 30 = 3 := by kernel_rfl
theorem cellsRange : Try.prog.cellsOf 35 = 2 := by kernel_rfl
theorem cellsInt : Try.prog.cellsOf 3 = 1 := by kernel_rfl
theorem cellsI64 : Try.prog.cellsOf 2 = 1 := by kernel_rfl
theorem cellsStr : Try.prog.cellsOf 9 = 1 := by kernel_rfl
/-- what a pair reads as -/
def datum {H : Type} (p : P) : DataW H := .agg [.lit (.string p.key.data.toList), .agg [.lit (.int .i64 p.k), .lit (.int .i64 p.n), .lit (.string p.s.data.toList)]]
section
variable {H : Type} {enc : TypeId × Value → H} {w : World} {base b0 : Nat} {spare : Nat → Bool} {held : Bool}
theorem open_range {v : Value} {d : DataW H} {p : List MemPlace} (hv : Value.okWide Try.prog w .any b0 35 v) (h : DataW.Trod enc Try.prog w base spare held 35 v d p) :
    ∃ x y : ByteArray, v = .agg #[.string x, .string y] ∧ d = .agg [.lit (.string x.data.toList), .lit (.string y.data.toList)] ∧ p = [] ∧ x.size ≤ maxLen ∧ y.size ≤ maxLen := by
  obtain ⟨c0, c1, y0, y1, m, rfl, rfl, rfl, hy0, hy1⟩ := open_agg2 Try.underlying35 (by kernel_rfl) cellsRange hv h
  obtain ⟨a, e0, rfl, wa⟩ := DataW.trod_string Try.underlying9 hy0
  obtain ⟨b, e1, rfl, wb⟩ := DataW.trod_string Try.underlying9 hy1
  simp at e0 e1
  subst e0 e1
  exact ⟨a, b, rfl, rfl, rfl, wa, wb⟩
theorem four {cs : List Value} (h : cs.length = 4) : ∃ a b c d, cs = [a, b, c, d] := by
  match cs, h with
  | [a, b, c, d], _ => exact ⟨a, b, c, d, rfl⟩
theorem open_pair {n : Nat} {cs : List Value} {y : DataW H × List MemPlace} (h : DataW.trod enc Try.prog w base spare held n 33 cs = some y) :
    ∃ p : P, cs = p.cells ∧ y = (datum p, []) ∧ p.key.size ≤ maxLen ∧ p.s.size ≤ maxLen ∧ (Lit.int .i64 p.n).wf = true := by
  obtain ⟨y0, y1, m, rfl, hl, h0, h1⟩ := trod_struct2 Try.underlying33 h
  rw [cellsPair] at hl
  obtain ⟨c0, c1, c2, c3, rfl⟩ := four hl
  obtain ⟨xs, m2, _, rfl, hl2, hlen, hf⟩ := DataW.trod_struct Try.underlying30 h1
  match xs, hlen with
  | [x0, x1, x2], _ =>
    have f0 := hf 0 _ rfl
    have f1 := hf 1 _ rfl
    have f2 := hf 2 _ rfl
    obtain ⟨k, e0, rfl, w0⟩ := DataW.trod_string Try.underlying9 h0
    obtain ⟨a, e1, e1', w1⟩ := DataW.trod_int Try.underlying3 f0
    obtain ⟨b, e2, e2', w2⟩ := DataW.trod_int Try.underlying2 f1
    obtain ⟨s, e3, e3', w3⟩ := DataW.trod_string Try.underlying9 f2
    simp [cellsValue, cellsStr, cellsInt, cellsI64] at e0 e1 e2 e3
    subst e0 e1 e2 e3 e1' e2' e3'
    exact ⟨⟨k, a, b, s⟩, rfl, rfl, w0, w3, w2⟩
/-- the pair that a reading shows -/
def pOf (y : DataW H × List MemPlace) : P := match y.1 with
  | .agg [.lit (.string k), .agg [.lit (.int _ a), .lit (.int _ b), .lit (.string s)]] => ⟨⟨k.toArray⟩, a, b, ⟨s.toArray⟩⟩
  | _ => ⟨⟨#[]⟩, 0, 0, ⟨#[]⟩⟩
theorem pOf_mk (p : P) (l : List MemPlace) : pOf (H := H) (datum p, l) = p := rfl
theorem bulk_pair (p : P) : Rows.uptoBulk (datum (H := H) p) = p.key.size + p.s.size + 6 := by
  have e1 : p.key.data.toList.length = p.key.size := (size_len _).symm
  have e2 : p.s.data.toList.length = p.s.size := (size_len _).symm
  simp only [datum, Rows.uptoBulk, Rows.uptoBulkAll, e1, e2]
  omega
/-- the letters of a list, and forty for each pair -/
def weight (xs : List P) : Nat := (xs.map fun p => p.key.size + p.s.size + 40).sum
theorem bulk_list : ∀ xs : List P, Rows.uptoBulkAll (xs.map (datum (H := H))) ≥ xs.length ∧ weight xs ≤ 40 * Rows.uptoBulkAll (xs.map (datum (H := H))) ∧ ∀ p ∈ xs, p.key.size + p.s.size ≤ Rows.uptoBulkAll (xs.map (datum (H := H)))
  | [] => ⟨Nat.le_refl _, Nat.zero_le _, fun p hp => by cases hp⟩
  | p :: xs => by
    obtain ⟨h1, h2, h3⟩ := bulk_list xs
    unfold weight at *
    simp only [List.map_cons, Rows.uptoBulkAll, List.sum_cons, List.length_cons, bulk_pair]
    refine ⟨by omega, by omega, fun q hq => ?_⟩
    rcases List.mem_cons.1 hq with rfl | hq
    · omega
    · have := h3 q hq; omega
/-- a list of pairs as an argument -/
theorem open_pairs {v : Value} {d : DataW H} {p : List MemPlace} (hv : Value.okWide Try.prog w .any b0 22 v) (h : DataW.Trod enc Try.prog w base (fun _ => true) held 22 v d p) :
    ∃ (a : Option Addr) (xs : List P) (c : Nat), v = .slice a xs.length c ∧ Sl w a c xs ∧ Rows.uptoBulkAll (xs.map (datum (H := H))) ≤ Rows.uptoBulk d ∧ ∀ p ∈ xs, (Lit.int .i64 p.n).wf = true := by
  obtain ⟨a0, len, cap, rfl⟩ := okWide_slice Try.underlying22 hv
  obtain ⟨fuel, hf⟩ := h
  rcases DataW.trod_slice Try.underlying22 hf with ⟨hcs, hx⟩ | ⟨a, len', cap', elems, rest, n, _, hcs, hx, hb, hl, hm, hlen, hel, hsp, _⟩
  · simp [Value.cells] at hcs
    obtain ⟨rfl, rfl, rfl⟩ := hcs
    obtain ⟨rfl, rfl⟩ := Prod.mk.inj hx
    exact ⟨none, [], 0, rfl, Sl.empty w, Nat.zero_le _, fun p hp => by cases hp⟩
  · simp [Value.cells] at hcs
    obtain ⟨rfl, rfl, rfl⟩ := hcs
    obtain ⟨rfl, rfl⟩ := Prod.mk.inj hx
    obtain ⟨hrl, hr⟩ := hsp rfl
    have each : ∀ i y, (elems ++ rest)[i]? = some y → y = (datum (pOf y), []) ∧ (Lit.int .i64 (pOf y).n).wf = true ∧ ∀ r, r < 4 → w.cell? ((a.add (i * 4)).add r) = (pOf y).cells[r]? := by
      intro i y hy
      have hb' : (w.cells? base (a.add (i * 4)) 4).bind (DataW.trod enc Try.prog w base (fun _ => true) held n 33) = some y := by
        by_cases hi : i < len
        · have := hel i hi
          rw [cellsPair] at this
          rw [this, ← hy, List.getElem?_append_left (by omega)]
        · have hi' : i - len < rest.length := by
            have := (List.getElem?_eq_some_iff.1 hy).1
            simp at this
            omega
          have := hr (i - len) (by omega)
          rw [show len + (i - len) = i by omega, cellsPair] at this
          rw [this, ← hy, List.getElem?_append_right (by omega), hlen]
      rw [Option.bind_eq_some_iff] at hb'
      obtain ⟨cs', hcs, hy'⟩ := hb'
      obtain ⟨p, rfl, rfl, _, _, hw⟩ := open_pair hy'
      rw [pOf_mk]
      exact ⟨rfl, hw, (World.cells?_some hcs).2.2⟩
    have hle : (elems ++ rest).length = cap := by rw [List.length_append, hlen, hrl]; omega
    refine ⟨some a, elems.map pOf, cap, by rw [List.length_map, hlen], ⟨by rw [List.length_map]; omega, fun h => (by cases h), fun hc => ?_⟩, ?_, ?_⟩
    · have h0 : 0 < (elems ++ rest).length := by omega
      have hc0 := (each 0 _ (List.getElem?_eq_getElem h0)).2.2 0 (by decide)
      have hspot : a.spot = none := by
        have : w.cell? ((a.add (0 * 4)).add 0) = some (.string (pOf (elems ++ rest)[0]).key) := hc0
        simpa [Addr.add] using World.cell?_spot this
      obtain ⟨b, off, spot⟩ := a
      simp only at hspot
      subst hspot
      refine ⟨b, off, rfl, fun j hj => ?_⟩
      rw [List.length_map] at hj
      have hj2 : j < (elems ++ rest).length := by rw [List.length_append]; omega
      have he := (each j _ (List.getElem?_eq_getElem hj2)).2.2
      rw [List.getElem_append_left hj] at he
      rw [List.getElem_map]
      have k0 := he 0 (by decide)
      have k1 := he 1 (by decide)
      have k2 := he 2 (by decide)
      have k3 := he 3 (by decide)
      rw [add_plain, add_plain] at k0 k1 k2 k3
      exact ⟨k0, k1, k2, k3⟩
    · have e1 : elems.map (·.1) = (elems.map pOf).map (datum (H := H)) := by
        rw [List.map_map]
        refine List.map_congr_left fun y hy => ?_
        obtain ⟨i, hi⟩ := List.getElem?_of_mem hy
        have hi2 : (elems ++ rest)[i]? = some y := by
          rw [List.getElem?_append_left (List.getElem?_eq_some_iff.1 hi).1]; exact hi
        exact congrArg Prod.fst (each i y hi2).1
      rw [← e1]
      simp only [Rows.uptoBulk]
      omega
    · intro p hp
      obtain ⟨y, hy, rfl⟩ := List.mem_map.1 hp
      obtain ⟨i, hi⟩ := List.getElem?_of_mem hy
      have hi2 : (elems ++ rest)[i]? = some y := by
        rw [List.getElem?_append_left (List.getElem?_eq_some_iff.1 hi).1]; exact hi
      exact (each i y hi2).2.1
theorem int_bd {x : Int} (h : (Lit.int .i64 x).wf = true) : -9223372036854775808 ≤ x ∧ x ≤ 9223372036854775807 := bounds_i64 h
/-- a list of a small bulk -/
theorem fits_of {xs : List P} (hb : Rows.uptoBulkAll (xs.map (datum (H := H))) ≤ 1048576) (hw : ∀ p ∈ xs, (Lit.int .i64 p.n).wf = true) : Fits xs ∧ xs.length ≤ 1048576 ∧ (encs (prs xs)).length ≤ 50000000 := by
  obtain ⟨h1, h2, h3⟩ := bulk_list (H := H) xs
  have hf : Fits xs := ⟨by omega, fun p hp => by have := h3 p hp; omega, fun p hp => int_bd (hw p hp)⟩
  refine ⟨hf, by omega, ?_⟩
  have hb2 := body_le (prs xs) (fun p hp => by
    obtain ⟨k, hk, rfl⟩ := of_prs hp
    obtain ⟨g1, g2⟩ := hf.sz _ (List.getElem_mem hk)
    exact ⟨by show xs[k].key.data.toList.length ≤ _; rw [← size_len]; exact g1, by show xs[k].s.data.toList.length ≤ _; rw [← size_len]; exact g2⟩) (fun p hp => by
    obtain ⟨k, hk, rfl⟩ := of_prs hp
    exact hf.num _ (List.getElem_mem hk))
  have hw2 : ((prs xs).map fun p => p.1.length + p.2.s.length + 40).sum = weight xs := by
    unfold prs weight
    rw [List.map_map]
    congr 1
  rw [hw2] at hb2
  have hu : (Lib.uvarint (prs xs).length).length ≤ 10 := Lib.uvarint_length64 (by rw [prs_len]; omega)
  unfold encs
  rw [List.length_append]
  omega
end
end Go.Proofs.Ytieloegadhgipaa.S
