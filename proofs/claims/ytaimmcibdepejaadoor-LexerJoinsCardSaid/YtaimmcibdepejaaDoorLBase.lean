/-
  Lists of tokens as arguments of the rows of layer 7: what a reading shows, and what the reach gives.
-/
import Derived.Test.YtaimmcibdepejaaDoorRows
import Derived.Test.YtaimmcibdepejaaDoorLLawsE
import Derived.WalkKit
import Derived.ProofKit
import Derived.OpenShut
import Derived.ChangeMaps5
import Derived.Lib.SmallJoins
import Derived.SliceStrings
import Derived.JoinedCond
import Derived.Carry
import Derived.SizedLaws
namespace Go.Proofs.YtaimmcibdepejaaDoor.L
open Go.ChangeShapes Go.WideShapes Go.ChangeAt Go.WideMaps Go.WideElems Go.RowKit Go.Joins

theorem own : ownKnob Tryd.prog.godebug = none := by kernel_rfl
theorem laid_out : laidOutB Tryd.prog = true := by kernel_rfl
theorem cellsTok : Tryd.prog.cellsOf 31 = 4 := by kernel_rfl
theorem cellsInt : Tryd.prog.cellsOf 3 = 1 := by kernel_rfl
theorem cellsI64 : Tryd.prog.cellsOf 2 = 1 := by kernel_rfl
theorem cellsStr : Tryd.prog.cellsOf 9 = 1 := by kernel_rfl
/-- what a token reads as -/
def datum {H : Type} (p : T) : DataW H := .agg [.lit (.int .i64 p.k), .lit (.string p.t.data.toList), .lit (.int .i64 p.n), .lit (.int .i64 p.line)]
section
variable {H : Type} {enc : TypeId × Value → H} {w : World} {base b0 : Nat} {spare : Nat → Bool} {held : Bool}
theorem four {cs : List Value} (h : cs.length = 4) : ∃ a b c d, cs = [a, b, c, d] := by
  match cs, h with
  | [a, b, c, d], _ => exact ⟨a, b, c, d, rfl⟩
theorem open_tok {n : Nat} {cs : List Value} {y : DataW H × List MemPlace} (h : DataW.trod enc Tryd.prog w base spare held n 31 cs = some y) :
    ∃ p : T, cs = p.cells ∧ y = (datum p, []) ∧ p.t.size ≤ maxLen ∧ (Lit.int .i64 p.n).wf = true := by
  obtain ⟨xs, m2, _, rfl, hl, hlen, hf⟩ := DataW.trod_struct Tryd.underlying31 h
  rw [cellsTok] at hl
  obtain ⟨c0, c1, c2, c3, rfl⟩ := four hl
  match xs, hlen with
  | [x0, x1, x2, x3], _ =>
    have f0 := hf 0 _ rfl
    have f1 := hf 1 _ rfl
    have f2 := hf 2 _ rfl
    have f3 := hf 3 _ rfl
    obtain ⟨a, e0, e0', w0⟩ := DataW.trod_int Tryd.underlying3 f0
    obtain ⟨s, e1, e1', w1⟩ := DataW.trod_string Tryd.underlying9 f1
    obtain ⟨b, e2, e2', w2⟩ := DataW.trod_int Tryd.underlying2 f2
    obtain ⟨l, e3, e3', w3⟩ := DataW.trod_int Tryd.underlying3 f3
    simp [cellsStr, cellsInt, cellsI64] at e0 e1 e2 e3
    subst e0 e1 e2 e3 e0' e1' e2' e3'
    exact ⟨⟨a, s, b, l⟩, rfl, rfl, w1, w2⟩
/-- the token that a reading shows -/
def tOf (y : DataW H × List MemPlace) : T := match y.1 with
  | .agg [.lit (.int _ a), .lit (.string s), .lit (.int _ b), .lit (.int _ l)] => ⟨a, ⟨s.toArray⟩, b, l⟩
  | _ => zeroT
theorem tOf_mk (p : T) (l : List MemPlace) : tOf (H := H) (datum p, l) = p := rfl
set_option maxRecDepth 100000 in
/-- a list of tokens as an argument, and what its reading shows -/
theorem open_toks {v : Value} {d : DataW H} {p : List MemPlace} (hv : Value.okWide Tryd.prog w .any b0 22 v) (h : DataW.Trod enc Tryd.prog w base (fun _ => true) held 22 v d p) :
    ∃ (a : Option Addr) (xs : List T) (c : Nat), v = .slice a xs.length c ∧ Sl w a c xs ∧ (xs = [] ∨ ∃ sp, d = .slice (xs.map (datum (H := H))) sp) ∧ ∀ p ∈ xs, (Lit.int .i64 p.n).wf = true := by
  obtain ⟨a0, len, cap, rfl⟩ := okWide_slice Tryd.underlying22 hv
  obtain ⟨fuel, hf⟩ := h
  rcases DataW.trod_slice Tryd.underlying22 hf with ⟨hcs, hx⟩ | ⟨a, len', cap', elems, rest, n, _, hcs, hx, hb, hl, hm, hlen, hel, hsp, _⟩
  · simp [Value.cells] at hcs
    obtain ⟨rfl, rfl, rfl⟩ := hcs
    exact ⟨none, [], 0, rfl, Sl.empty w, Or.inl rfl, fun p hp => by cases hp⟩
  · simp [Value.cells] at hcs
    obtain ⟨rfl, rfl, rfl⟩ := hcs
    obtain ⟨rfl, rfl⟩ := Prod.mk.inj hx
    obtain ⟨hrl, hr⟩ := hsp rfl
    have each : ∀ i y, (elems ++ rest)[i]? = some y → y = (datum (tOf y), []) ∧ (Lit.int .i64 (tOf y).n).wf = true ∧ ∀ r, r < 4 → w.cell? ((a.add (i * 4)).add r) = (tOf y).cells[r]? := by
      intro i y hy
      have hb' : (w.cells? base (a.add (i * 4)) 4).bind (DataW.trod enc Tryd.prog w base (fun _ => true) held n 31) = some y := by
        by_cases hi : i < len
        · have := hel i hi
          rw [cellsTok] at this
          rw [this, ← hy, List.getElem?_append_left (by omega)]
        · have hi' : i - len < rest.length := by
            have := (List.getElem?_eq_some_iff.1 hy).1
            simp at this
            omega
          have := hr (i - len) (by omega)
          rw [show len + (i - len) = i by omega, cellsTok] at this
          rw [this, ← hy, List.getElem?_append_right (by omega), hlen]
      rw [Option.bind_eq_some_iff] at hb'
      obtain ⟨cs', hcs, hy'⟩ := hb'
      obtain ⟨p, rfl, rfl, _, hw⟩ := open_tok hy'
      rw [tOf_mk]
      exact ⟨rfl, hw, (World.cells?_some hcs).2.2⟩
    have hle : (elems ++ rest).length = cap := by rw [List.length_append, hlen, hrl]; omega
    refine ⟨some a, elems.map tOf, cap, by rw [List.length_map, hlen], ⟨by rw [List.length_map]; omega, fun h => (by cases h), fun hc => ?_⟩, Or.inr ⟨rest.map (·.1), ?_⟩, ?_⟩
    · have h0 : 0 < (elems ++ rest).length := by omega
      have hc0 := (each 0 _ (List.getElem?_eq_getElem h0)).2.2 0 (by decide)
      have hspot : a.spot = none := by
        have : w.cell? ((a.add (0 * 4)).add 0) = some (.int .i64 (tOf (elems ++ rest)[0]).k) := hc0
        simpa [Addr.add] using World.cell?_spot this
      obtain ⟨b, off, spot⟩ := a
      simp only at hspot
      subst hspot
      refine ⟨b, off, rfl, fun j hj => ?_⟩
      rw [List.length_map] at hj
      have hj2 : j < (elems ++ rest).length := by rw [List.length_append]; omega
      have he := (each j _ (List.getElem?_eq_getElem hj2)).2.2
      rw [List.getElem_append_left hj] at he
      rw [List.getElem_map]
      have k0 := he 0 (by decide)
      have k1 := he 1 (by decide)
      have k2 := he 2 (by decide)
      have k3 := he 3 (by decide)
      rw [add_plain, add_plain] at k0 k1 k2 k3
      exact ⟨k0, k1, k2, k3⟩
    · have e1 : elems.map (·.1) = (elems.map tOf).map (datum (H := H)) := by
        rw [List.map_map]
        refine List.map_congr_left fun y hy => ?_
        obtain ⟨i, hi⟩ := List.getElem?_of_mem hy
        have hi2 : (elems ++ rest)[i]? = some y := by
          rw [List.getElem?_append_left (List.getElem?_eq_some_iff.1 hi).1]; exact hi
        exact congrArg Prod.fst (each i y hi2).1
      rw [← e1]
    · intro p hp
      obtain ⟨y, hy, rfl⟩ := List.mem_map.1 hp
      obtain ⟨i, hi⟩ := List.getElem?_of_mem hy
      have hi2 : (elems ++ rest)[i]? = some y := by
        rw [List.getElem?_append_left (List.getElem?_eq_some_iff.1 hi).1]; exact hi
      exact (each i y hi2).2.1
theorem fieldsTok : ∃ fs, Tryd.prog.underlying 31 = some (.struct fs) ∧ fs.toList.map (·.type) = [3, 9, 2, 3] := ⟨_, Tryd.underlying31, rfl⟩
theorem weights_datum (p : T) : (datum (H := H) p).weights Tryd.prog 31 = [p.t.data.toList.length] := by
  obtain ⟨fs, h1, h2⟩ := fieldsTok
  simp [datum, DataW.weights, DataW.weightsEach, h1, h2]
theorem weights_list : ∀ (xs : List T) (p : T), p ∈ xs → ∀ k, k ∈ [p.t.data.toList.length] → k ∈ DataW.weightsAll Tryd.prog 31 (xs.map (datum (H := H)))
  | x :: xs, p, hp, k, hk => by
    rw [List.map_cons, DataW.weightsAll, List.mem_append]
    rcases List.mem_cons.1 hp with rfl | hp
    · left; rw [weights_datum]; exact hk
    · right; exact weights_list xs p hp k hk
theorem bytesTok : Tryd.prog.bytesOf 31 = 40 := by kernel_rfl
/-- a list that was read fits memory -/
theorem reach_of {ts : List TypeId} {ds : List (DataW H)} (hz : (DataW.weightsEach Tryd.prog ts ds).all (· ≤ reachBytes) = true) {j : Nat} {d : DataW H} {xs : List T} (ht : ts[j]? = some 22) (hd : ds[j]? = some d) (h : xs = [] ∨ ∃ sp, d = .slice (xs.map (datum (H := H))) sp) :
    xs.length ≤ 1000000000000000 ∧ ∀ j (h : j < xs.length), xs[j].t.size ≤ 9223372036854775800 := by
  have hr : reachBytes ≤ 140737488355328 := by decide
  rcases h with rfl | ⟨sp, rfl⟩
  · exact ⟨Nat.zero_le _, fun j hj => by cases hj⟩
  · have h1 := sized_slice hz ht hd Tryd.underlying22
    rw [bytesTok, List.length_map] at h1
    refine ⟨by omega, fun i hi => ?_⟩
    have hm : xs[i].t.data.toList.length ∈ (DataW.slice (xs.map (datum (H := H))) sp).weights Tryd.prog 22 := by
      simp only [DataW.weights, Tryd.underlying22]
      exact List.mem_cons_of_mem _ (List.mem_append.2 (Or.inl (weights_list xs xs[i] (List.getElem_mem hi) _ List.mem_cons_self)))
    have := List.all_eq_true.1 hz _ (DataW.weights_mem_each ht hd _ hm)
    have : xs[i].t.data.toList.length ≤ reachBytes := by simpa using this
    rw [← size_len] at this
    omega
theorem nums_of {xs : List T} (hw : ∀ p ∈ xs, (Lit.int .i64 p.n).wf = true) : ∀ j (h : j < xs.length), -9223372036854775808 ≤ xs[j].n ∧ xs[j].n ≤ 9223372036854775807 :=
  fun _ h => bounds_i64 (hw _ (List.getElem_mem h))
end
end Go.Proofs.YtaimmcibdepejaaDoor.L
