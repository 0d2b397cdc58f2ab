/-
  Lists of pairs as arguments of the rows of layer 6 that bound nothing but what memory can hold: what the reach gives.
-/
import Derived.Test.YtieloegadhgipaaSBase
import Derived.Test.YtieloegadhgipaaSZ
import Derived.SizedLaws
namespace Go.Proofs.Ytieloegadhgipaa.S
open Go.ChangeShapes Go.WideShapes Go.ChangeAt Go.WideMaps Go.WideElems Go.RowKit Go.Joins
open Go.Proofs.Ytieloegadhgipaa.V (size_len)

section
variable {H : Type} {enc : TypeId × Value → H} {w : World} {base b0 : Nat} {spare : Nat → Bool} {held : Bool}
/-- a list of pairs as an argument, and what its reading shows -/
theorem open_pairsZ {v : Value} {d : DataW H} {p : List MemPlace} (hv : Value.okWide Try.prog w .any b0 22 v) (h : DataW.Trod enc Try.prog w base (fun _ => true) held 22 v d p) :
    ∃ (a : Option Addr) (xs : List P) (c : Nat), v = .slice a xs.length c ∧ Sl w a c xs ∧ (xs = [] ∨ ∃ sp, d = .slice (xs.map (datum (H := H))) sp) := by
  obtain ⟨a0, len, cap, rfl⟩ := okWide_slice Try.underlying22 hv
  obtain ⟨fuel, hf⟩ := h
  rcases DataW.trod_slice Try.underlying22 hf with ⟨hcs, hx⟩ | ⟨a, len', cap', elems, rest, n, _, hcs, hx, hb, hl, hm, hlen, hel, hsp, _⟩
  · simp [Value.cells] at hcs
    obtain ⟨rfl, rfl, rfl⟩ := hcs
    exact ⟨none, [], 0, rfl, Sl.empty w, Or.inl rfl⟩
  · simp [Value.cells] at hcs
    obtain ⟨rfl, rfl, rfl⟩ := hcs
    obtain ⟨rfl, rfl⟩ := Prod.mk.inj hx
    obtain ⟨hrl, hr⟩ := hsp rfl
    have each : ∀ i y, (elems ++ rest)[i]? = some y → y = (datum (pOf y), []) ∧ ∀ r, r < 4 → w.cell? ((a.add (i * 4)).add r) = (pOf y).cells[r]? := by
      intro i y hy
      have hb' : (w.cells? base (a.add (i * 4)) 4).bind (DataW.trod enc Try.prog w base (fun _ => true) held n 33) = some y := by
        by_cases hi : i < len
        · have := hel i hi
          rw [cellsPair] at this
          rw [this, ← hy, List.getElem?_append_left (by omega)]
        · have hi' : i - len < rest.length := by
            have := (List.getElem?_eq_some_iff.1 hy).1
            simp at this
            omega
          have := hr (i - len) (by omega)
          rw [show len + (i - len) = i by omega, cellsPair] at this
          rw [this, ← hy, List.getElem?_append_right (by omega), hlen]
      rw [Option.bind_eq_some_iff] at hb'
      obtain ⟨cs', hcs, hy'⟩ := hb'
      obtain ⟨p, rfl, rfl, _, _, hw⟩ := open_pair hy'
      rw [pOf_mk]
      exact ⟨rfl, (World.cells?_some hcs).2.2⟩
    have hle : (elems ++ rest).length = cap := by rw [List.length_append, hlen, hrl]; omega
    refine ⟨some a, elems.map pOf, cap, by rw [List.length_map, hlen], ⟨by rw [List.length_map]; omega, fun h => (by cases h), fun hc => ?_⟩, Or.inr ⟨rest.map (·.1), ?_⟩⟩
    · have h0 : 0 < (elems ++ rest).length := by omega
      have hc0 := (each 0 _ (List.getElem?_eq_getElem h0)).2 0 (by decide)
      have hspot : a.spot = none := by
        have : w.cell? ((a.add (0 * 4)).add 0) = some (.string (pOf (elems ++ rest)[0]).key) := hc0
        simpa [Addr.add] using World.cell?_spot this
      obtain ⟨b, off, spot⟩ := a
      simp only at hspot
      subst hspot
      refine ⟨b, off, rfl, fun j hj => ?_⟩
      rw [List.length_map] at hj
      have hj2 : j < (elems ++ rest).length := by rw [List.length_append]; omega
      have he := (each j _ (List.getElem?_eq_getElem hj2)).2
      rw [List.getElem_append_left hj] at he
      rw [List.getElem_map]
      have k0 := he 0 (by decide)
      have k1 := he 1 (by decide)
      have k2 := he 2 (by decide)
      have k3 := he 3 (by decide)
      rw [add_plain, add_plain] at k0 k1 k2 k3
      exact ⟨k0, k1, k2, k3⟩
    · have e1 : elems.map (·.1) = (elems.map pOf).map (datum (H := H)) := by
        rw [List.map_map]
        refine List.map_congr_left fun y hy => ?_
        obtain ⟨i, hi⟩ := List.getElem?_of_mem hy
        have hi2 : (elems ++ rest)[i]? = some y := by
          rw [List.getElem?_append_left (List.getElem?_eq_some_iff.1 hi).1]; exact hi
        exact congrArg Prod.fst (each i y hi2).1
      rw [← e1]
theorem fieldsPair : ∃ fs, Try.prog.underlying 33 = some (.struct fs) ∧ fs.toList.map (·.type) = [9, 30] := ⟨_, Try.underlying33, rfl⟩
theorem fieldsValue : ∃ fs, Try.prog.underlying 30 = some (.struct fs) ∧ fs.toList.map (·.type) = [3, 2, 9] := ⟨_, Try.underlying30, rfl⟩
theorem weights_datum (p : P) : (datum (H := H) p).weights Try.prog 33 = [p.key.data.toList.length, p.s.data.toList.length] := by
  obtain ⟨fs, h1, h2⟩ := fieldsPair
  obtain ⟨gs, h3, h4⟩ := fieldsValue
  simp [datum, DataW.weights, DataW.weightsEach, h1, h2, h3, h4]
theorem weights_list : ∀ (xs : List P) (p : P), p ∈ xs → ∀ k, k ∈ [p.key.data.toList.length, p.s.data.toList.length] → k ∈ DataW.weightsAll Try.prog 33 (xs.map (datum (H := H)))
  | x :: xs, p, hp, k, hk => by
    rw [List.map_cons, DataW.weightsAll, List.mem_append]
    rcases List.mem_cons.1 hp with rfl | hp
    · left; rw [weights_datum]; exact hk
    · right; exact weights_list xs p hp k hk
theorem bytesPair : Try.prog.bytesOf 33 = 48 := by kernel_rfl
/-- a list that was read fits memory -/
theorem fitz_of {ts : List TypeId} {ds : List (DataW H)} (hz : (DataW.weightsEach Try.prog ts ds).all (· ≤ reachBytes) = true) {j : Nat} {d : DataW H} {xs : List P} (ht : ts[j]? = some 22) (hd : ds[j]? = some d) (h : xs = [] ∨ ∃ sp, d = .slice (xs.map (datum (H := H))) sp) : Fitz xs := by
  have hr : reachBytes ≤ 140737488355328 := by decide
  have hr2 : reachBytes = 140737488351232 := by decide
  rcases h with rfl | ⟨sp, rfl⟩
  · exact ⟨Nat.zero_le _, fun p hp => by cases hp⟩
  · have h1 := sized_slice hz ht hd Try.underlying22
    rw [bytesPair, List.length_map] at h1
    refine ⟨by omega, fun p hp => ?_⟩
    have key : ∀ k, k ∈ [p.key.data.toList.length, p.s.data.toList.length] → k ≤ reachBytes := by
      intro k hk
      have hm : k ∈ (DataW.slice (xs.map (datum (H := H))) sp).weights Try.prog 22 := by
        simp only [DataW.weights, Try.underlying22]
        exact List.mem_cons_of_mem _ (List.mem_append.2 (Or.inl (weights_list xs p hp k hk)))
      have := List.all_eq_true.1 hz _ (DataW.weights_mem_each ht hd k hm)
      simpa using this
    have k1 := key _ List.mem_cons_self
    have k2 := key _ (List.mem_cons_of_mem _ List.mem_cons_self)
    rw [← size_len] at k1 k2
    omega
end
end Go.Proofs.Ytieloegadhgipaa.S
