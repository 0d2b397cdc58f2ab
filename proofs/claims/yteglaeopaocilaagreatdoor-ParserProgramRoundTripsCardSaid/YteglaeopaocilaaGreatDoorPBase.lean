/-
  Lists of procedures as arguments of the rows of layer 9: what a reading shows, and what the reach gives.
-/
import Derived.Test.YteglaeopaocilaaGreatDoorABase
import Derived.Test.YteglaeopaocilaaGreatDoorM18
namespace Go.Proofs.YteglaeopaocilaaGreatDoor.P
open Go.ChangeShapes Go.WideShapes Go.ChangeAt Go.WideMaps Go.WideElems Go.RowKit Go.Joins
open L (size_len)
open A

theorem bytesPr : Tryz.prog.bytesOf 25 = 64 := by kernel_rfl
theorem cellsPms : Tryz.prog.cellsOf 22 = 1 := by kernel_rfl
section
variable {H : Type} {enc : TypeId × Value → H} {w : World} {base b0 : Nat} {spare : Nat → Bool} {held : Bool}
theorem three {α : Type} {cs : List α} (h : cs.length = 3) : ∃ a b c, cs = [a, b, c] := by
  match cs, h with
  | [a, b, c], _ => exact ⟨a, b, c, rfl⟩
theorem pr_reads {n : Nat} {cs : List Value} {y : DataW H × List MemPlace} (h : DataW.trod enc Tryz.prog w base spare held n 25 cs = some y) :
    ∃ (x : Pr) (a1 : Option Addr) (c1 : Nat) (a2 : Option Addr) (c2 : Nat), cs = [.string x.name, .slice a1 x.params.length c1, .slice a2 x.body.length c2] ∧ PrIn w x a1 a2 ∧ x.params.length ≤ c1 ∧ (RB (y.1.weights Tryz.prog 25) → OkP x) := by
  obtain ⟨xs, m, hm, hx, hl, hlen, hf⟩ := DataW.trod_struct Tryz.underlying25 h
  rw [cellsPr] at hl
  obtain ⟨c0, c1, c2, rfl⟩ := three hl
  match xs, hlen, hx, hf with
  | [x0, x1, x2], _, hx, hf =>
    have f0 := hf 0 _ rfl
    have f1 := hf 1 _ rfl
    have f2 := hf 2 _ rfl
    obtain ⟨nm, e0, e0', w0⟩ := DataW.trod_string Tryz.underlying9 f0
    obtain ⟨lp, a1, k1, e1, hk1, hc1, hr1⟩ := slice_pm f1
    obtain ⟨lb, a2, k2, e2, hk2, hr2⟩ := slice_st (fun i _ => st_reads i) f2
    simp [cellsStr, cellsPms, cellsSts] at e0 e1 e2
    subst e0 e1 e2 e0'
    refine ⟨⟨nm, lp, lb⟩, a1, k1, a2, k2, rfl, ⟨hk1, hk2⟩, hc1, fun hw => ?_⟩
    rw [hx] at hw
    obtain ⟨fs, h1, h2⟩ := fieldsPr
    simp only [DataW.weights, h1, h2, DataW.weightsEach, List.map_cons, List.map_nil, List.nil_append, List.append_nil, List.cons_append] at hw
    have hs := hw.head
    have hw1 := hw.tail
    obtain ⟨q1, q2⟩ := hr1 hw1.left
    obtain ⟨q3, q4⟩ := hr2 hw1.right
    have := reach47
    rw [← size_len] at hs
    exact ⟨by show nm.size ≤ _; omega, q1, q2, q3, q4⟩
theorem prs_of {n : Nat} : ∀ (elems : List (DataW H × List MemPlace)) (b i : Nat),
    (∀ j, j < elems.length → (w.cells? base ⟨b, i + j * 3, none⟩ 3).bind (DataW.trod enc Tryz.prog w base spare held n 25) = elems[j]?) →
    ∃ l : List Pr, l.length = elems.length ∧ (∀ j (h : j < l.length), PrAt w l[j] b (i + j * 3)) ∧ (RB (DataW.weightsAll Tryz.prog 25 (elems.map (·.1))) → ∀ j (h : j < l.length), OkP l[j])
  | [], _, _, _ => ⟨[], rfl, (fun j h => by cases h), (fun _ j h => by cases h)⟩
  | y :: r, b, i, h => by
    have h0 := h 0 (by simp)
    rw [List.getElem?_cons_zero, Option.bind_eq_some_iff] at h0
    obtain ⟨cs, hcs, hy⟩ := h0
    obtain ⟨x, a1, c1, a2, c2, rfl, hk, hcp, hr⟩ := pr_reads hy
    have hc := (World.cells?_some hcs).2.2
    rw [Nat.zero_mul, Nat.add_zero] at hc
    obtain ⟨l, hl, hat, hrl⟩ := prs_of r b (i + 3) (fun j hj => by
      have := h (j + 1) (by simpa using hj)
      rw [List.getElem?_cons_succ] at this
      rw [show i + 3 + j * 3 = i + (j + 1) * 3 by omega]
      exact this)
    refine ⟨x :: l, by simp [hl], fun j hj => ?_, fun hw j hj => ?_⟩
    · cases j with
      | zero =>
        have c0 := hc 0 (by decide)
        have c1' := hc 1 (by decide)
        have c2' := hc 2 (by decide)
        rw [add_plain] at c0 c1' c2'
        rw [Nat.zero_mul, Nat.add_zero]
        exact ⟨a1, c1, a2, c2, c0, c1', c2', hcp, hk⟩
      | succ j =>
        have := hat j (by simpa using hj)
        rw [show i + (j + 1) * 3 = i + 3 + j * 3 by omega]
        simpa using this
    · rw [List.map_cons, DataW.weightsAll] at hw
      cases j with
      | zero => exact hr hw.left
      | succ j =>
        have := hrl hw.right j (by simpa using hj)
        simpa using this
theorem one_le {H : Type} (d : DataW H) : 1 ≤ Rows.uptoBulk d := by
  cases d with
  | lit l => cases l <;> simp [Rows.uptoBulk]
  | nil => simp [Rows.uptoBulk]
  | ptr d => simp [Rows.uptoBulk]
  | slice elems spare => simp [Rows.uptoBulk]
  | agg parts => simp [Rows.uptoBulk]
  | iface t d => simp [Rows.uptoBulk]
  | map entries => simp [Rows.uptoBulk]
  | held h => simp [Rows.uptoBulk]
theorem length_le {H : Type} (l : List (DataW H)) : l.length ≤ Rows.uptoBulkAll l := by
  induction l with
  | nil => simp [Rows.uptoBulkAll]
  | cons x r ih => have := one_le x; simp only [Rows.uptoBulkAll, List.length_cons]; omega
set_option maxRecDepth 100000 in
/-- a list of procedures as an argument -/
theorem open_prs {v : Value} {d : DataW H} {p : List MemPlace} (hv : Value.okWide Tryz.prog w .any b0 42 v) (h : DataW.Trod enc Tryz.prog w base spare held 42 v d p) :
    ∃ (l : List Pr) (a : Option Addr) (c : Nat), v = .slice a l.length c ∧ Prs w a l ∧ l.length ≤ Rows.uptoBulk d ∧ (RB (d.weights Tryz.prog 42) → ∀ j (h : j < l.length), OkP l[j]) := by
  obtain ⟨a0, len, cap, rfl⟩ := okWide_slice Tryz.underlying42 hv
  obtain ⟨fuel, hf⟩ := h
  rcases DataW.trod_slice Tryz.underlying42 hf with ⟨hcs, hx⟩ | ⟨a, len', cap', elems, rest, n, _, hcs, hx, hb, hl, hm, hlen, hel, _, _⟩
  · simp [Value.cells] at hcs
    obtain ⟨rfl, rfl, rfl⟩ := hcs
    exact ⟨[], none, 0, rfl, Or.inl rfl, Nat.zero_le _, (fun _ j h => by cases h)⟩
  · simp [Value.cells] at hcs
    obtain ⟨rfl, rfl, rfl⟩ := hcs
    obtain ⟨rfl, rfl⟩ := Prod.mk.inj hx
    rw [cellsPr] at hel
    have hbk : elems.length ≤ Rows.uptoBulk (DataW.slice (elems.map (·.1)) (rest.map (·.1))) := by
      have := length_le (elems.map (·.1))
      rw [List.length_map] at this
      simp only [Rows.uptoBulk]
      omega
    subst hlen
    by_cases h0 : elems.length = 0
    · refine ⟨[], some a, cap, by rw [h0]; rfl, Or.inl rfl, Nat.zero_le _, (fun _ j h => by cases h)⟩
    · have hsp : a.spot = none := by
        have := hel 0 (by omega)
        rw [List.getElem?_eq_getElem (by omega)] at this
        exact spot_none (by decide) this
      obtain ⟨b, i, spot⟩ := a
      simp only at hsp
      subst hsp
      obtain ⟨l, hll, hat, hr⟩ := prs_of elems b i (fun j hj => by
        have := hel j hj
        rw [add_plain] at this
        exact this)
      refine ⟨l, some ⟨b, i, none⟩, cap, by rw [hll], Or.inr ⟨b, i, rfl, hat⟩, by rw [hll]; exact hbk, fun hw => ?_⟩
      simp only [DataW.weights, Tryz.underlying42, bytesPr] at hw
      exact hr hw.tail.left
end
end Go.Proofs.YteglaeopaocilaaGreatDoor.P
