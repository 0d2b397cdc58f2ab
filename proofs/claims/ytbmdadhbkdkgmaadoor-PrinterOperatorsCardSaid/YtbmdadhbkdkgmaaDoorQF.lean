/-
  The examples of the law package of layer 9: variable, number, apply: contracts; what the specification says of them.
  A region in whatever order, by an invariant.
  The examples of the law package of layer 9: the region that makes the second and the third expression, in whatever order.
  The examples of the law package of layer 9: the region that makes the procedure, in whatever order.
  The examples of the law package of layer 9: what examples returns.
-/
import Derived.Test.YtbmdadhbkdkgmaaDoorQE
import Derived.Deep.RegionLaw
import Derived.Deep.RegionWith
import Derived.Laws.NewBlocks
namespace Go.Proofs.YtbmdadhbkdkgmaaDoor.P
open Go.RowKit
open L (Str isName prt size_len below_2 below_box ret_bool ret_int ret_string bytes_eq append_list Own8)
open A

set_option maxRecDepth 100000 in
theorem variable_any (s : ByteArray) (w : World) : Calls Tryd.prog 27 #[.string s] w fun e w' => e = .returned (.agg #[.int .i64 3, .int .i64 0, .string s, .slice none 0 0]) ∧ Below w.heap.size w w' := by
  have hb := below_box w (.cells #[.int .i64 3, .int .i64 0, .string s, .slice none 0 0] 28)
  have HB := Lib.hid hb
  clear hb
  go_enter Tryd.func27, Tryd.ntmps27
  go_wp2_with fail
  refine bodyPost_ret (v := .agg #[.int .i64 3, .int .i64 0, .string s, .slice none 0 0]) (by simp [results, Tryd.results27, go_sem]) rfl ?_
  exact ⟨rfl, HB.out⟩
set_option maxRecDepth 100000 in
theorem number_any (n : Int) (w : World) : Calls Tryd.prog 26 #[.int .i64 n] w fun e w' => e = .returned (.agg #[.int .i64 1, .int .i64 n, .string ⟨#[]⟩, .slice none 0 0]) ∧ Below w.heap.size w w' := by
  have hb := below_box w (.cells #[.int .i64 1, .int .i64 n, .string ⟨#[]⟩, .slice none 0 0] 28)
  have HB := Lib.hid hb
  clear hb
  go_enter Tryd.func26, Tryd.ntmps26
  go_wp2_with fail
  refine bodyPost_ret (v := .agg #[.int .i64 1, .int .i64 n, .string ⟨#[]⟩, .slice none 0 0]) (by simp [results, Tryd.results26, go_sem]) rfl ?_
  exact ⟨rfl, HB.out⟩
set_option maxRecDepth 100000 in
theorem apply_any (o : Int) (a : Option Addr) (n c : Nat) (w : World) : Calls Tryd.prog 13 #[.int .i64 o, .slice a n c] w fun e w' => e = .returned (.agg #[.int .i64 o, .int .i64 0, .string ⟨#[]⟩, .slice a n c]) ∧ Below w.heap.size w w' := by
  have hb := below_box w (.cells #[.int .i64 o, .int .i64 0, .string ⟨#[]⟩, .slice a n c] 28)
  have HB := Lib.hid hb
  clear hb
  go_enter Tryd.func13, Tryd.ntmps13
  go_wp2_with fail
  refine bodyPost_ret (v := .agg #[.int .i64 o, .int .i64 0, .string ⟨#[]⟩, .slice a n c]) (by simp [results, Tryd.results13, go_sem]) rfl ?_
  exact ⟨rfl, HB.out⟩

/-- an expression's value in a world -/
def EV (w : World) (e : Ex) (v : Value) : Prop := ∃ a c, v = exV e a c ∧ A.Kids w a e.args
theorem EV.below {w w' : World} {e : Ex} {v : Value} (h : EV w e v) (hb : Below w.heap.size w w') : EV w' e v := by
  obtain ⟨a, c, h1, h2⟩ := h
  exact ⟨a, c, h1, h2.below hb⟩
end Go.Proofs.YtbmdadhbkdkgmaaDoor.P
namespace Go.Proofs.YtbmdadhbkdkgmaaDoor.P
open Go.RowKit
/-- number j has come up -/
abbrev On (l : Array Bool) (j : Nat) : Prop := l.getD j false = true
theorem on_set {l : Array Bool} {i : Nat} (hi : l.getD i true = false) (j : Nat) : On (l.setIfInBounds i true) j ↔ (j = i ∨ On l j) := by
  unfold On
  by_cases h : i = j
  · subst h
    have hlt : i < l.size := by
      rcases Nat.lt_or_ge i l.size with h' | h'
      · exact h'
      · simp [Array.getElem?_eq_none h'] at hi
    simp [hlt]
  · rw [getD_set_ne false h]
    constructor
    · exact Or.inr
    · rintro (e | e)
      · exact absurd e.symm h
      · exact e
/-- what number i waits for -/
def deps (ops : Array Oper) (i : Nat) : List Nat := match ops[i]? with
  | none => []
  | some o => (o.after.toList.filter (Region.binds .any)).map (·.on)
def backs (ops : Array Oper) : Bool := (List.range ops.size).all fun i => (deps ops i).all (decide <| · < i)
theorem deps_of {ops : Array Oper} {i : Nat} {o : Oper} (ho : ops[i]? = some o) {l : Array Bool} (h : ∀ e ∈ o.after, Region.binds .any e = true → On l e.on) : ∀ j ∈ deps ops i, On l j := by
  intro j hj
  unfold deps at hj
  rw [ho] at hj
  obtain ⟨e, he, rfl⟩ := List.mem_map.1 hj
  obtain ⟨h1, h2⟩ := List.mem_filter.1 he
  exact h e (Array.mem_def.2 h1) h2
theorem mem_deps {ops : Array Oper} {i : Nat} {o : Oper} (ho : ops[i]? = some o) {e : Edge} (he : e ∈ o.after) (hb : Region.binds .any e = true) : e.on ∈ deps ops i := by
  unfold deps
  rw [ho]
  exact List.mem_map.2 ⟨e, List.mem_filter.2 ⟨Array.mem_def.1 he, hb⟩, rfl⟩
theorem wpAny_inv {P : Program} {ops : Array Oper} {Q : Exit → Act → World → Prop} (I : Array Bool → Act → World → Prop)
    (hback : backs ops = true)
    (hstep : ∀ l a w, I l a w → ∀ i, i < ops.size → l.getD i true = false → (∀ j ∈ deps ops i, On l j) → wpOp P ops Q i (I (l.setIfInBounds i true)) a w)
    (hdone : ∀ l a w, I l a w → (∀ j, j < ops.size → On l j) → Q .normal a w) :
    ∀ (fuel : Nat) (l : Array Bool) (a : Act) (w : World), l.size = ops.size → I l a w → l.toList.count false ≤ fuel → wpAny P .any ops Q fuel l a w := by
  have hend : ∀ (l : Array Bool), l.size = ops.size → Region.ready .any ops l = [] → ∀ j, j < ops.size → On l j := by
    intro l hl hr j
    induction j using Nat.strongRecOn with
    | ind j ih =>
      intro hj
      by_cases h : l.getD j true = false
      · have : j ∈ Region.ready .any ops l := mem_ready.2 ⟨h, ops[j], Array.getElem?_eq_getElem hj, fun e he hb => by
          have hlt : e.on < j := of_decide_eq_true (List.all_eq_true.1 (List.all_eq_true.1 hback j (List.mem_range.2 hj)) e.on (mem_deps (Array.getElem?_eq_getElem hj) he hb))
          exact ih _ hlt (Nat.lt_trans hlt hj)⟩
        rw [hr] at this
        cases this
      · have hj' : j < l.size := by omega
        unfold On
        simp [hj'] at h ⊢
        exact h
  intro fuel
  induction fuel with
  | zero =>
    intro l a w hl hI hc
    have hr : Region.ready .any ops l = [] := by
      rw [List.eq_nil_iff_forall_not_mem]
      intro i hi
      have h := (mem_ready.1 hi).1
      have hm : false ∈ l.toList := by
        rcases Nat.lt_or_ge i l.size with h' | h'
        · simp [h'] at h
          rw [← h]
          simp
        · simp [Array.getElem?_eq_none h'] at h
      have := List.count_pos_iff.2 hm
      omega
    exact ⟨hr, hdone l a w hI (hend l hl hr)⟩
  | succ fuel ih =>
    intro l a w hl hI hc
    refine ⟨fun hr => hdone l a w hI (hend l hl hr), fun i hi => ?_⟩
    obtain ⟨h0, o, ho, hall⟩ := mem_ready.1 hi
    have hlt : i < l.size := by
      rcases Nat.lt_or_ge i l.size with h' | h'
      · exact h'
      · simp [Array.getElem?_eq_none h'] at h0
    refine wpOp_mono (fun a' w' h => ih _ a' w' (by simpa using hl) h ?_) (hstep l a w hI i (by omega) h0 (deps_of ho hall))
    have hv : l[i] = false := by simpa [hlt] using h0
    have hm : 0 < l.toList.count false := List.count_pos_iff.2 (by rw [← hv]; simp)
    rw [Array.toList_setIfInBounds, List.count_set (by simpa using hlt)]
    simp [hv]; rw [← Array.count_toList]
    omega
theorem wp_region_inv {P : Program} {id : Nat} {ops : Array Oper} {Q : Exit → Act → World → Prop} {a : Act} {w : World} (hm : P.follows .mixedOrders = true) (I : Array Bool → Act → World → Prop)
    (hback : backs ops = true)
    (h0 : ∀ l, (∀ j, ¬ On l j) → I l a { w with drawn := w.drawn + 1 })
    (hstep : ∀ l a w, I l a w → ∀ i, i < ops.size → l.getD i true = false → (∀ j ∈ deps ops i, On l j) → wpOp P ops Q i (I (l.setIfInBounds i true)) a w)
    (hdone : ∀ l a w, I l a w → (∀ j, j < ops.size → On l j) → Q .normal a w) : (Code.region id ops true).wp P Q a w := by
  refine wp_region_any hm (wpAny_inv I hback hstep hdone _ _ _ _ (by simp) (h0 _ (fun j h => ?_)) (by simp))
  unfold On at h
  by_cases hj : j < ops.size
  · simp [hj] at h
  · simp [Array.getElem?_eq_none (show (Array.replicate ops.size false).size ≤ j by simpa using hj)] at h
end Go.Proofs.YtbmdadhbkdkgmaaDoor.P
namespace Go.Proofs.YtbmdadhbkdkgmaaDoor.P
open Go.RowKit
open L (Str isName prt size_len below_2 below_box ret_bool ret_int ret_string bytes_eq append_list Own8)
open A
/-- block b holds these cells, and may be written -/
def Bx (w : World) (b : Nat) (cs : Array Value) (t : TypeId) : Prop := w.heap[b]? = some (.cells cs t)
namespace Bx
variable {w w' : World} {b : Nat} {cs : Array Value} {t : TypeId}
theorem new (w : World) (cs : Array Value) (t : TypeId) : Bx (w.alloc (.cells cs t)) w.heap.size cs t := by
  show (w.heap.push _)[w.heap.size]? = _
  simp
theorem lt (h : Bx w b cs t) : b < w.heap.size := (Array.getElem?_eq_some_iff.1 h).1
theorem keep (h : Bx w b cs t) (hk : w'.heap[b]? = w.heap[b]?) : Bx w' b cs t := hk.trans h
theorem below (h : Bx w b cs t) (hb : Below w.heap.size w w') : Bx w' b cs t := (hb.block b h.lt).trans h
theorem cell (h : Bx w b cs t) (i : Nat) : w.cell? ⟨b, i, none⟩ = cs[i]? := by
  have h' : w.heap[b]? = some (.cells cs t) := h
  simp [World.cell?, h']
theorem free (h : Bx w b cs t) (i : Nat) : w.frozen? ⟨b, i, none⟩ = false := by
  have h' : w.heap[b]? = some (.cells cs t) := h
  simp [World.frozen?, h']
theorem set (h : Bx w b cs t) (i : Nat) {u : Value} : Bx (w.setCell ⟨b, i, none⟩ u) b (cs.setIfInBounds i u) t := by
  have h' : w.heap[b]? = some (.cells cs t) := h
  show (w.setCell ⟨b, i, none⟩ u).heap[b]? = _
  simp [World.setCell, Array.getElem?_modify, h']
end Bx
theorem bx_ne {w : World} {g g' : Nat} {c c' : Array Value} {t t' : TypeId} (h : Bx w g c t) (h' : Bx w g' c' t') (hs : c.size ≠ c'.size) : g ≠ g' := by
  rintro rfl
  have h1 : w.heap[g]? = some (.cells c t) := h
  have h2 : w.heap[g]? = some (.cells c' t') := h'
  rw [h1] at h2
  cases h2
  exact hs rfl
/-- four cells are written -/
def set4 (w : World) (g : Nat) (a b c d : Value) : World := (((w.setCell ⟨g, 0, none⟩ a).setCell ⟨g, 1, none⟩ b).setCell ⟨g, 2, none⟩ c).setCell ⟨g, 3, none⟩ d
theorem bx_keep4 {w : World} {g g' : Nat} {cs : Array Value} {t : TypeId} {a b c d : Value} (h : Bx w g' cs t) (hne : g' ≠ g) : Bx (set4 w g a b c d) g' cs t :=
  (((h.keep (Below.heap_setCell _ _ _ _ hne)).keep (Below.heap_setCell _ _ _ _ hne)).keep (Below.heap_setCell _ _ _ _ hne)).keep (Below.heap_setCell _ _ _ _ hne)
theorem bx_set4 {w : World} {g : Nat} {x y z u : Value} {t : TypeId} {a b c d : Value} (h : Bx w g #[x, y, z, u] t) : Bx (set4 w g a b c d) g #[a, b, c, d] t := by
  have h4 := (((h.set 0 (u := a)).set 1 (u := b)).set 2 (u := c)).set 3 (u := d)
  unfold set4
  simpa using h4
theorem below_set4 {B : Nat} {w w' : World} {g : Nat} {a b c d : Value} (h : Below B w w') (hg : B ≤ g) : Below B w (set4 w' g a b c d) :=
  (((h.setCell (p := ⟨g, 0, none⟩) hg a).setCell (p := ⟨g, 1, none⟩) hg b).setCell (p := ⟨g, 2, none⟩) hg c).setCell (p := ⟨g, 3, none⟩) hg d

/-- what holds while the region runs -/
structure I3 (W : World) (l : Array Bool) (w : World) (v5 v6 v25 v26 v27 v28 v29 v30 v31 v32 v33 v34 v35 v36 v37 v38 : Value) : Prop where
  bel : Below W.heap.size W w
  f0 : On l 0 → v25 = .agg #[.int .i64 3, .int .i64 0, .string ⟨#[97]⟩, .slice none 0 0]
  f1 : On l 1 → v26 = .agg #[.int .i64 3, .int .i64 0, .string ⟨#[98]⟩, .slice none 0 0]
  f2 : On l 2 → v27 = .agg #[.int .i64 3, .int .i64 0, .string ⟨#[99]⟩, .slice none 0 0]
  f3 : On l 3 → ∃ g, v28 = .slice (some ⟨g, 0, none⟩) 2 2 ∧ Bx w g #[.int .i64 3, .int .i64 0, .string ⟨#[98]⟩, .slice none 0 0, .int .i64 3, .int .i64 0, .string ⟨#[99]⟩, .slice none 0 0] 28
  f4 : On l 4 → v29 = .agg #[.int .i64 5, .int .i64 0, .string ⟨#[]⟩, v28]
  f5 : On l 5 → ∃ g, v30 = .slice (some ⟨g, 0, none⟩) 2 2 ∧ Bx w g #[.int .i64 3, .int .i64 0, .string ⟨#[97]⟩, .slice none 0 0, .int .i64 5, .int .i64 0, .string ⟨#[]⟩, v28] 28
  f6 : On l 6 → v31 = .agg #[.int .i64 5, .int .i64 0, .string ⟨#[]⟩, v30]
  f7 : On l 7 → v32 = .agg #[.int .i64 3, .int .i64 0, .string ⟨#[97]⟩, .slice none 0 0]
  f8 : On l 8 → v33 = .agg #[.int .i64 3, .int .i64 0, .string ⟨#[98]⟩, .slice none 0 0]
  f9 : On l 9 → ∃ g, v34 = .slice (some ⟨g, 0, none⟩) 2 2 ∧ Bx w g #[.int .i64 3, .int .i64 0, .string ⟨#[97]⟩, .slice none 0 0, .int .i64 3, .int .i64 0, .string ⟨#[98]⟩, .slice none 0 0] 28
  f10 : On l 10 → v35 = .agg #[.int .i64 5, .int .i64 0, .string ⟨#[]⟩, v34]
  f11 : On l 11 → v36 = .agg #[.int .i64 3, .int .i64 0, .string ⟨#[99]⟩, .slice none 0 0]
  f12 : On l 12 → ∃ g, v37 = .slice (some ⟨g, 0, none⟩) 2 2 ∧ Bx w g #[.int .i64 5, .int .i64 0, .string ⟨#[]⟩, v34, .int .i64 3, .int .i64 0, .string ⟨#[99]⟩, .slice none 0 0] 28
  f13 : On l 13 → v38 = .agg #[.int .i64 5, .int .i64 0, .string ⟨#[]⟩, v37]
  f14 : On l 14 → ∃ g, v5 = .pointer (some ⟨g, 0, none⟩) ∧ W.heap.size ≤ g ∧ (¬ On l 16 → Bx w g #[.int .i64 0, .int .i64 0, .string ⟨#[]⟩, .slice none 0 0] 28) ∧ (On l 16 → Bx w g #[.int .i64 5, .int .i64 0, .string ⟨#[]⟩, v30] 28)
  f15 : On l 15 → ∃ g, v6 = .pointer (some ⟨g, 0, none⟩) ∧ W.heap.size ≤ g ∧ (¬ On l 17 → Bx w g #[.int .i64 0, .int .i64 0, .string ⟨#[]⟩, .slice none 0 0] 28) ∧ (On l 17 → Bx w g #[.int .i64 5, .int .i64 0, .string ⟨#[]⟩, v37] 28)
  ne : On l 14 → On l 15 → v5 ≠ v6
  d4_3 : On l 4 → On l 3
  d5_3 : On l 5 → On l 3
  d6_5 : On l 6 → On l 5
  d16_5 : On l 16 → On l 5
  d10_9 : On l 10 → On l 9
  d12_9 : On l 12 → On l 9
  d13_12 : On l 13 → On l 12
  d17_12 : On l 17 → On l 12
  d16_14 : On l 16 → On l 14
  d17_15 : On l 17 → On l 15
/-- a fact that an operation does not touch -/
theorem old_on {l : Array Bool} {i j : Nat} (h0 : l.getD i true = false) (hne : j ≠ i) {p : Prop} (f : On l j → p) : On (l.setIfInBounds i true) j → p := fun h => f (((on_set h0 j).1 h).resolve_left hne)

/-- the state while the region runs -/
def st3 (p1 pa pb pc q2 q4 q6 q7 : Nat) (v5 v6 v25 v26 v27 v28 v29 v30 v31 v32 v33 v34 v35 v36 v37 v38 : Value) : Act := { tmps := #[.bool false, .pointer (some ⟨p1, 0, none⟩), .pointer (some ⟨pa, 0, none⟩), .pointer (some ⟨pb, 0, none⟩), .pointer (some ⟨pc, 0, none⟩), v5, v6, undef, undef, undef, .agg #[.int .i64 1, .int .i64 1, .string ⟨#[]⟩, .slice none 0 0], .agg #[.int .i64 1, .int .i64 2, .string ⟨#[]⟩, .slice none 0 0], .slice (some ⟨q2, 0, none⟩) 2 2, .agg #[.int .i64 4, .int .i64 0, .string ⟨#[]⟩, .slice (some ⟨q2, 0, none⟩) 2 2], .agg #[.int .i64 3, .int .i64 0, .string ⟨#[120]⟩, .slice none 0 0], .slice (some ⟨q4, 0, none⟩) 2 2, .agg #[.int .i64 6, .int .i64 0, .string ⟨#[]⟩, .slice (some ⟨q4, 0, none⟩) 2 2], .agg #[.int .i64 1, .int .i64 3, .string ⟨#[]⟩, .slice none 0 0], .slice (some ⟨q6, 0, none⟩) 1 1, .agg #[.int .i64 9, .int .i64 0, .string ⟨#[]⟩, .slice (some ⟨q6, 0, none⟩) 1 1], .slice (some ⟨q7, 0, none⟩) 2 2, .agg #[.int .i64 5, .int .i64 0, .string ⟨#[]⟩, .slice (some ⟨q7, 0, none⟩) 2 2], .agg #[.int .i64 3, .int .i64 0, .string ⟨#[97]⟩, .slice none 0 0], .agg #[.int .i64 3, .int .i64 0, .string ⟨#[98]⟩, .slice none 0 0], .agg #[.int .i64 3, .int .i64 0, .string ⟨#[99]⟩, .slice none 0 0], v25, v26, v27, v28, v29, v30, v31, v32, v33, v34, v35, v36, v37, v38, undef, undef, undef, undef, undef, undef, undef, undef, undef, undef, undef, undef, undef, undef, undef, undef, undef, undef, undef, undef, undef, undef, undef, undef, undef, undef, undef, undef, undef, undef, undef, undef, undef], defers := [] }

theorem off_of {l : Array Bool} {i : Nat} (h : l.getD i true = false) : ¬ On l i := fun h2 => by
  unfold On at h2
  rcases Nat.lt_or_ge i l.size with h' | h'
  · simp [h'] at h h2; rw [h] at h2; cases h2
  · simp [Array.getElem?_eq_none h'] at h
theorem kids_1 {F : World} {g : Nat} {e : Ex} {a : Option Addr} {c : Nat} (h : Bx F g #[.int .i64 e.op, .int .i64 e.n, .string e.s, .slice a e.args.length c] 28) (k : A.Kids F a e.args) : A.Kids F (some ⟨g, 0, none⟩) [e] := by
  cases e
  exact Or.inr ⟨g, 0, rfl, ⟨h.cell 0, h.cell 1, h.cell 2, a, c, h.cell 3, k⟩, trivial⟩
theorem kids_2 {F : World} {g : Nat} {e f : Ex} {a b : Option Addr} {c d : Nat} (h : Bx F g #[.int .i64 e.op, .int .i64 e.n, .string e.s, .slice a e.args.length c, .int .i64 f.op, .int .i64 f.n, .string f.s, .slice b f.args.length d] 28) (k : A.Kids F a e.args) (k2 : A.Kids F b f.args) : A.Kids F (some ⟨g, 0, none⟩) [e, f] := by
  cases e; cases f
  exact Or.inr ⟨g, 0, rfl, ⟨h.cell 0, h.cell 1, h.cell 2, a, c, h.cell 3, k⟩, ⟨h.cell 4, h.cell 5, h.cell 6, b, d, h.cell 7, k2⟩, trivial⟩
def vX (s : ByteArray) : Ex := .mk 3 0 s []
def nX (n : Int) : Ex := .mk 1 n ⟨#[]⟩ []
def aX (o : Int) (l : List Ex) : Ex := .mk o 0 ⟨#[]⟩ l
theorem nil_kids (w : World) (a : Option Addr) : A.Kids w a [] := Or.inl rfl
/-- what holds when the region has run -/
theorem I3.done {W : World} {l : Array Bool} {w : World} {v5 v6 v25 v26 v27 v28 v29 v30 v31 v32 v33 v34 v35 v36 v37 v38 : Value} (F : I3 W l w v5 v6 v25 v26 v27 v28 v29 v30 v31 v32 v33 v34 v35 v36 v37 v38) (hall : ∀ j, j < 18 → On l j) :
    ∃ g28 g30 g34 g37 g5 g6, v5 = .pointer (some ⟨g5, 0, none⟩) ∧ v6 = .pointer (some ⟨g6, 0, none⟩) ∧ v25 = .agg #[.int .i64 3, .int .i64 0, .string ⟨#[97]⟩, .slice none 0 0] ∧ v26 = .agg #[.int .i64 3, .int .i64 0, .string ⟨#[98]⟩, .slice none 0 0] ∧ v27 = .agg #[.int .i64 3, .int .i64 0, .string ⟨#[99]⟩, .slice none 0 0] ∧ v28 = .slice (some ⟨g28, 0, none⟩) 2 2 ∧ v29 = .agg #[.int .i64 5, .int .i64 0, .string ⟨#[]⟩, .slice (some ⟨g28, 0, none⟩) 2 2] ∧ v30 = .slice (some ⟨g30, 0, none⟩) 2 2 ∧ v31 = .agg #[.int .i64 5, .int .i64 0, .string ⟨#[]⟩, .slice (some ⟨g30, 0, none⟩) 2 2] ∧ v32 = .agg #[.int .i64 3, .int .i64 0, .string ⟨#[97]⟩, .slice none 0 0] ∧ v33 = .agg #[.int .i64 3, .int .i64 0, .string ⟨#[98]⟩, .slice none 0 0] ∧ v34 = .slice (some ⟨g34, 0, none⟩) 2 2 ∧ v35 = .agg #[.int .i64 5, .int .i64 0, .string ⟨#[]⟩, .slice (some ⟨g34, 0, none⟩) 2 2] ∧ v36 = .agg #[.int .i64 3, .int .i64 0, .string ⟨#[99]⟩, .slice none 0 0] ∧ v37 = .slice (some ⟨g37, 0, none⟩) 2 2 ∧ v38 = .agg #[.int .i64 5, .int .i64 0, .string ⟨#[]⟩, .slice (some ⟨g37, 0, none⟩) 2 2] ∧
      Bx w g5 #[.int .i64 5, .int .i64 0, .string ⟨#[]⟩, .slice (some ⟨g30, 0, none⟩) 2 2] 28 ∧ A.Kids w (some ⟨g30, 0, none⟩) [vX ⟨#[97]⟩, aX 5 [vX ⟨#[98]⟩, vX ⟨#[99]⟩]] ∧ Bx w g6 #[.int .i64 5, .int .i64 0, .string ⟨#[]⟩, .slice (some ⟨g37, 0, none⟩) 2 2] 28 ∧ A.Kids w (some ⟨g37, 0, none⟩) [aX 5 [vX ⟨#[97]⟩, vX ⟨#[98]⟩], vX ⟨#[99]⟩] ∧ Below W.heap.size W w := by
  have H := fun j h => hall j h
  obtain ⟨g28, rfl, x28⟩ := F.f3 (H 3 (by decide))
  obtain ⟨g30, rfl, x30⟩ := F.f5 (H 5 (by decide))
  obtain ⟨g34, rfl, x34⟩ := F.f9 (H 9 (by decide))
  obtain ⟨g37, rfl, x37⟩ := F.f12 (H 12 (by decide))
  obtain ⟨g5, rfl, _, _, x5⟩ := F.f14 (H 14 (by decide))
  obtain ⟨g6, rfl, _, _, x6⟩ := F.f15 (H 15 (by decide))
  have k28 : A.Kids w (some ⟨g28, 0, none⟩) [vX ⟨#[98]⟩, vX ⟨#[99]⟩] := kids_2 x28 (nil_kids _ _) (nil_kids _ _)
  have k34 : A.Kids w (some ⟨g34, 0, none⟩) [vX ⟨#[97]⟩, vX ⟨#[98]⟩] := kids_2 x34 (nil_kids _ _) (nil_kids _ _)
  have k30 : A.Kids w (some ⟨g30, 0, none⟩) [vX ⟨#[97]⟩, aX 5 [vX ⟨#[98]⟩, vX ⟨#[99]⟩]] := kids_2 (e := vX ⟨#[97]⟩) (f := aX 5 [vX ⟨#[98]⟩, vX ⟨#[99]⟩]) x30 (nil_kids _ _) k28
  have k37 : A.Kids w (some ⟨g37, 0, none⟩) [aX 5 [vX ⟨#[97]⟩, vX ⟨#[98]⟩], vX ⟨#[99]⟩] := kids_2 (e := aX 5 [vX ⟨#[97]⟩, vX ⟨#[98]⟩]) (f := vX ⟨#[99]⟩) x37 k34 (nil_kids _ _)
  exact ⟨g28, g30, g34, g37, g5, g6, rfl, rfl, F.f0 (H 0 (by decide)), F.f1 (H 1 (by decide)), F.f2 (H 2 (by decide)), rfl, F.f4 (H 4 (by decide)), rfl, F.f6 (H 6 (by decide)), F.f7 (H 7 (by decide)), F.f8 (H 8 (by decide)), rfl, F.f10 (H 10 (by decide)), F.f11 (H 11 (by decide)), rfl, F.f13 (H 13 (by decide)), x5 (H 16 (by decide)), k30, x6 (H 17 (by decide)), k37, F.bel⟩
theorem I3.s0 {W : World} {l : Array Bool} {w : World} {v5 v6 v25 v26 v27 v28 v29 v30 v31 v32 v33 v34 v35 v36 v37 v38 : Value} (F : I3 W l w v5 v6 v25 v26 v27 v28 v29 v30 v31 v32 v33 v34 v35 v36 v37 v38) (h0 : l.getD 0 true = false)  : I3 W (l.setIfInBounds 0 true) w v5 v6 (.agg #[.int .i64 3, .int .i64 0, .string ⟨#[97]⟩, .slice none 0 0]) v26 v27 v28 v29 v30 v31 v32 v33 v34 v35 v36 v37 v38 :=
  { bel := F.bel,
        f0 := fun _ => rfl,
        f1 := old_on h0 (by decide) F.f1,
        f2 := old_on h0 (by decide) F.f2,
        f3 := old_on h0 (by decide) F.f3,
        f4 := old_on h0 (by decide) F.f4,
        f5 := old_on h0 (by decide) F.f5,
        f6 := old_on h0 (by decide) F.f6,
        f7 := old_on h0 (by decide) F.f7,
        f8 := old_on h0 (by decide) F.f8,
        f9 := old_on h0 (by decide) F.f9,
        f10 := old_on h0 (by decide) F.f10,
        f11 := old_on h0 (by decide) F.f11,
        f12 := old_on h0 (by decide) F.f12,
        f13 := old_on h0 (by decide) F.f13,
        f14 := old_on h0 (by decide) (fun h => let ⟨g, e, hz, hx, hy⟩ := F.f14 h; ⟨g, e, hz, fun n => hx (fun x => n ((on_set h0 _).2 (Or.inr x))), fun y => hy (((on_set h0 _).1 y).resolve_left (by decide))⟩),
        f15 := old_on h0 (by decide) (fun h => let ⟨g, e, hz, hx, hy⟩ := F.f15 h; ⟨g, e, hz, fun n => hx (fun x => n ((on_set h0 _).2 (Or.inr x))), fun y => hy (((on_set h0 _).1 y).resolve_left (by decide))⟩),
        ne := fun h h' => F.ne (((on_set h0 _).1 h).resolve_left (by decide)) (((on_set h0 _).1 h').resolve_left (by decide)),
        d4_3 := fun h => (on_set h0 _).2 (Or.inr (F.d4_3 (((on_set h0 _).1 h).resolve_left (by decide)))),
        d5_3 := fun h => (on_set h0 _).2 (Or.inr (F.d5_3 (((on_set h0 _).1 h).resolve_left (by decide)))),
        d6_5 := fun h => (on_set h0 _).2 (Or.inr (F.d6_5 (((on_set h0 _).1 h).resolve_left (by decide)))),
        d16_5 := fun h => (on_set h0 _).2 (Or.inr (F.d16_5 (((on_set h0 _).1 h).resolve_left (by decide)))),
        d10_9 := fun h => (on_set h0 _).2 (Or.inr (F.d10_9 (((on_set h0 _).1 h).resolve_left (by decide)))),
        d12_9 := fun h => (on_set h0 _).2 (Or.inr (F.d12_9 (((on_set h0 _).1 h).resolve_left (by decide)))),
        d13_12 := fun h => (on_set h0 _).2 (Or.inr (F.d13_12 (((on_set h0 _).1 h).resolve_left (by decide)))),
        d17_12 := fun h => (on_set h0 _).2 (Or.inr (F.d17_12 (((on_set h0 _).1 h).resolve_left (by decide)))),
        d16_14 := fun h => (on_set h0 _).2 (Or.inr (F.d16_14 (((on_set h0 _).1 h).resolve_left (by decide)))),
        d17_15 := fun h => (on_set h0 _).2 (Or.inr (F.d17_15 (((on_set h0 _).1 h).resolve_left (by decide)))) }
theorem I3.s1 {W : World} {l : Array Bool} {w : World} {v5 v6 v25 v26 v27 v28 v29 v30 v31 v32 v33 v34 v35 v36 v37 v38 : Value} (F : I3 W l w v5 v6 v25 v26 v27 v28 v29 v30 v31 v32 v33 v34 v35 v36 v37 v38) (h0 : l.getD 1 true = false)  : I3 W (l.setIfInBounds 1 true) w v5 v6 v25 (.agg #[.int .i64 3, .int .i64 0, .string ⟨#[98]⟩, .slice none 0 0]) v27 v28 v29 v30 v31 v32 v33 v34 v35 v36 v37 v38 :=
  { bel := F.bel,
        f0 := old_on h0 (by decide) F.f0,
        f1 := fun _ => rfl,
        f2 := old_on h0 (by decide) F.f2,
        f3 := old_on h0 (by decide) F.f3,
        f4 := old_on h0 (by decide) F.f4,
        f5 := old_on h0 (by decide) F.f5,
        f6 := old_on h0 (by decide) F.f6,
        f7 := old_on h0 (by decide) F.f7,
        f8 := old_on h0 (by decide) F.f8,
        f9 := old_on h0 (by decide) F.f9,
        f10 := old_on h0 (by decide) F.f10,
        f11 := old_on h0 (by decide) F.f11,
        f12 := old_on h0 (by decide) F.f12,
        f13 := old_on h0 (by decide) F.f13,
        f14 := old_on h0 (by decide) (fun h => let ⟨g, e, hz, hx, hy⟩ := F.f14 h; ⟨g, e, hz, fun n => hx (fun x => n ((on_set h0 _).2 (Or.inr x))), fun y => hy (((on_set h0 _).1 y).resolve_left (by decide))⟩),
        f15 := old_on h0 (by decide) (fun h => let ⟨g, e, hz, hx, hy⟩ := F.f15 h; ⟨g, e, hz, fun n => hx (fun x => n ((on_set h0 _).2 (Or.inr x))), fun y => hy (((on_set h0 _).1 y).resolve_left (by decide))⟩),
        ne := fun h h' => F.ne (((on_set h0 _).1 h).resolve_left (by decide)) (((on_set h0 _).1 h').resolve_left (by decide)),
        d4_3 := fun h => (on_set h0 _).2 (Or.inr (F.d4_3 (((on_set h0 _).1 h).resolve_left (by decide)))),
        d5_3 := fun h => (on_set h0 _).2 (Or.inr (F.d5_3 (((on_set h0 _).1 h).resolve_left (by decide)))),
        d6_5 := fun h => (on_set h0 _).2 (Or.inr (F.d6_5 (((on_set h0 _).1 h).resolve_left (by decide)))),
        d16_5 := fun h => (on_set h0 _).2 (Or.inr (F.d16_5 (((on_set h0 _).1 h).resolve_left (by decide)))),
        d10_9 := fun h => (on_set h0 _).2 (Or.inr (F.d10_9 (((on_set h0 _).1 h).resolve_left (by decide)))),
        d12_9 := fun h => (on_set h0 _).2 (Or.inr (F.d12_9 (((on_set h0 _).1 h).resolve_left (by decide)))),
        d13_12 := fun h => (on_set h0 _).2 (Or.inr (F.d13_12 (((on_set h0 _).1 h).resolve_left (by decide)))),
        d17_12 := fun h => (on_set h0 _).2 (Or.inr (F.d17_12 (((on_set h0 _).1 h).resolve_left (by decide)))),
        d16_14 := fun h => (on_set h0 _).2 (Or.inr (F.d16_14 (((on_set h0 _).1 h).resolve_left (by decide)))),
        d17_15 := fun h => (on_set h0 _).2 (Or.inr (F.d17_15 (((on_set h0 _).1 h).resolve_left (by decide)))) }
theorem I3.s2 {W : World} {l : Array Bool} {w : World} {v5 v6 v25 v26 v27 v28 v29 v30 v31 v32 v33 v34 v35 v36 v37 v38 : Value} (F : I3 W l w v5 v6 v25 v26 v27 v28 v29 v30 v31 v32 v33 v34 v35 v36 v37 v38) (h0 : l.getD 2 true = false)  : I3 W (l.setIfInBounds 2 true) w v5 v6 v25 v26 (.agg #[.int .i64 3, .int .i64 0, .string ⟨#[99]⟩, .slice none 0 0]) v28 v29 v30 v31 v32 v33 v34 v35 v36 v37 v38 :=
  { bel := F.bel,
        f0 := old_on h0 (by decide) F.f0,
        f1 := old_on h0 (by decide) F.f1,
        f2 := fun _ => rfl,
        f3 := old_on h0 (by decide) F.f3,
        f4 := old_on h0 (by decide) F.f4,
        f5 := old_on h0 (by decide) F.f5,
        f6 := old_on h0 (by decide) F.f6,
        f7 := old_on h0 (by decide) F.f7,
        f8 := old_on h0 (by decide) F.f8,
        f9 := old_on h0 (by decide) F.f9,
        f10 := old_on h0 (by decide) F.f10,
        f11 := old_on h0 (by decide) F.f11,
        f12 := old_on h0 (by decide) F.f12,
        f13 := old_on h0 (by decide) F.f13,
        f14 := old_on h0 (by decide) (fun h => let ⟨g, e, hz, hx, hy⟩ := F.f14 h; ⟨g, e, hz, fun n => hx (fun x => n ((on_set h0 _).2 (Or.inr x))), fun y => hy (((on_set h0 _).1 y).resolve_left (by decide))⟩),
        f15 := old_on h0 (by decide) (fun h => let ⟨g, e, hz, hx, hy⟩ := F.f15 h; ⟨g, e, hz, fun n => hx (fun x => n ((on_set h0 _).2 (Or.inr x))), fun y => hy (((on_set h0 _).1 y).resolve_left (by decide))⟩),
        ne := fun h h' => F.ne (((on_set h0 _).1 h).resolve_left (by decide)) (((on_set h0 _).1 h').resolve_left (by decide)),
        d4_3 := fun h => (on_set h0 _).2 (Or.inr (F.d4_3 (((on_set h0 _).1 h).resolve_left (by decide)))),
        d5_3 := fun h => (on_set h0 _).2 (Or.inr (F.d5_3 (((on_set h0 _).1 h).resolve_left (by decide)))),
        d6_5 := fun h => (on_set h0 _).2 (Or.inr (F.d6_5 (((on_set h0 _).1 h).resolve_left (by decide)))),
        d16_5 := fun h => (on_set h0 _).2 (Or.inr (F.d16_5 (((on_set h0 _).1 h).resolve_left (by decide)))),
        d10_9 := fun h => (on_set h0 _).2 (Or.inr (F.d10_9 (((on_set h0 _).1 h).resolve_left (by decide)))),
        d12_9 := fun h => (on_set h0 _).2 (Or.inr (F.d12_9 (((on_set h0 _).1 h).resolve_left (by decide)))),
        d13_12 := fun h => (on_set h0 _).2 (Or.inr (F.d13_12 (((on_set h0 _).1 h).resolve_left (by decide)))),
        d17_12 := fun h => (on_set h0 _).2 (Or.inr (F.d17_12 (((on_set h0 _).1 h).resolve_left (by decide)))),
        d16_14 := fun h => (on_set h0 _).2 (Or.inr (F.d16_14 (((on_set h0 _).1 h).resolve_left (by decide)))),
        d17_15 := fun h => (on_set h0 _).2 (Or.inr (F.d17_15 (((on_set h0 _).1 h).resolve_left (by decide)))) }
theorem I3.s3 {W : World} {l : Array Bool} {w : World} {v5 v6 v25 v26 v27 v28 v29 v30 v31 v32 v33 v34 v35 v36 v37 v38 : Value} (F : I3 W l w v5 v6 v25 v26 v27 v28 v29 v30 v31 v32 v33 v34 v35 v36 v37 v38) (h0 : l.getD 3 true = false)  : I3 W (l.setIfInBounds 3 true) (w.alloc (.cells #[.int .i64 3, .int .i64 0, .string ⟨#[98]⟩, .slice none 0 0, .int .i64 3, .int .i64 0, .string ⟨#[99]⟩, .slice none 0 0] 28)) v5 v6 v25 v26 v27 (.slice (some ⟨w.heap.size, 0, none⟩) 2 2) v29 v30 v31 v32 v33 v34 v35 v36 v37 v38 :=
  have hb := below_box w (.cells #[.int .i64 3, .int .i64 0, .string ⟨#[98]⟩, .slice none 0 0, .int .i64 3, .int .i64 0, .string ⟨#[99]⟩, .slice none 0 0] 28)
  { bel := F.bel.trans (hb.mono F.bel.size),
        f0 := old_on h0 (by decide) F.f0,
        f1 := old_on h0 (by decide) F.f1,
        f2 := old_on h0 (by decide) F.f2,
        f3 := fun _ => ⟨_, rfl, Bx.new _ _ _⟩,
        f4 := fun h => absurd (F.d4_3 (((on_set h0 _).1 h).resolve_left (by decide))) (off_of h0),
        f5 := fun h => absurd (F.d5_3 (((on_set h0 _).1 h).resolve_left (by decide))) (off_of h0),
        f6 := old_on h0 (by decide) F.f6,
        f7 := old_on h0 (by decide) F.f7,
        f8 := old_on h0 (by decide) F.f8,
        f9 := old_on h0 (by decide) (fun h => let ⟨g, e, hx⟩ := F.f9 h; ⟨g, e, hx.below hb⟩),
        f10 := old_on h0 (by decide) F.f10,
        f11 := old_on h0 (by decide) F.f11,
        f12 := old_on h0 (by decide) (fun h => let ⟨g, e, hx⟩ := F.f12 h; ⟨g, e, hx.below hb⟩),
        f13 := old_on h0 (by decide) F.f13,
        f14 := old_on h0 (by decide) (fun h => let ⟨g, e, hz, hx, hy⟩ := F.f14 h; ⟨g, e, hz, fun n => (hx (fun x => n ((on_set h0 _).2 (Or.inr x)))).below hb, fun y => (hy (((on_set h0 _).1 y).resolve_left (by decide))).below hb⟩),
        f15 := old_on h0 (by decide) (fun h => let ⟨g, e, hz, hx, hy⟩ := F.f15 h; ⟨g, e, hz, fun n => (hx (fun x => n ((on_set h0 _).2 (Or.inr x)))).below hb, fun y => (hy (((on_set h0 _).1 y).resolve_left (by decide))).below hb⟩),
        ne := fun h h' => F.ne (((on_set h0 _).1 h).resolve_left (by decide)) (((on_set h0 _).1 h').resolve_left (by decide)),
        d4_3 := fun _ => (on_set h0 _).2 (Or.inl rfl),
        d5_3 := fun _ => (on_set h0 _).2 (Or.inl rfl),
        d6_5 := fun h => (on_set h0 _).2 (Or.inr (F.d6_5 (((on_set h0 _).1 h).resolve_left (by decide)))),
        d16_5 := fun h => (on_set h0 _).2 (Or.inr (F.d16_5 (((on_set h0 _).1 h).resolve_left (by decide)))),
        d10_9 := fun h => (on_set h0 _).2 (Or.inr (F.d10_9 (((on_set h0 _).1 h).resolve_left (by decide)))),
        d12_9 := fun h => (on_set h0 _).2 (Or.inr (F.d12_9 (((on_set h0 _).1 h).resolve_left (by decide)))),
        d13_12 := fun h => (on_set h0 _).2 (Or.inr (F.d13_12 (((on_set h0 _).1 h).resolve_left (by decide)))),
        d17_12 := fun h => (on_set h0 _).2 (Or.inr (F.d17_12 (((on_set h0 _).1 h).resolve_left (by decide)))),
        d16_14 := fun h => (on_set h0 _).2 (Or.inr (F.d16_14 (((on_set h0 _).1 h).resolve_left (by decide)))),
        d17_15 := fun h => (on_set h0 _).2 (Or.inr (F.d17_15 (((on_set h0 _).1 h).resolve_left (by decide)))) }
theorem I3.s4 {W : World} {l : Array Bool} {w : World} {v5 v6 v25 v26 v27 v28 v29 v30 v31 v32 v33 v34 v35 v36 v37 v38 : Value} (F : I3 W l w v5 v6 v25 v26 v27 v28 v29 v30 v31 v32 v33 v34 v35 v36 v37 v38) {w2 : World} (h0 : l.getD 4 true = false) (hb : Below w.heap.size w w2) (h3 : On l 3) : I3 W (l.setIfInBounds 4 true) w2 v5 v6 v25 v26 v27 v28 (.agg #[.int .i64 5, .int .i64 0, .string ⟨#[]⟩, v28]) v30 v31 v32 v33 v34 v35 v36 v37 v38 :=
  { bel := F.bel.trans (hb.mono F.bel.size),
        f0 := old_on h0 (by decide) F.f0,
        f1 := old_on h0 (by decide) F.f1,
        f2 := old_on h0 (by decide) F.f2,
        f3 := old_on h0 (by decide) (fun h => let ⟨g, e, hx⟩ := F.f3 h; ⟨g, e, hx.below hb⟩),
        f4 := fun _ => rfl,
        f5 := old_on h0 (by decide) (fun h => let ⟨g, e, hx⟩ := F.f5 h; ⟨g, e, hx.below hb⟩),
        f6 := old_on h0 (by decide) F.f6,
        f7 := old_on h0 (by decide) F.f7,
        f8 := old_on h0 (by decide) F.f8,
        f9 := old_on h0 (by decide) (fun h => let ⟨g, e, hx⟩ := F.f9 h; ⟨g, e, hx.below hb⟩),
        f10 := old_on h0 (by decide) F.f10,
        f11 := old_on h0 (by decide) F.f11,
        f12 := old_on h0 (by decide) (fun h => let ⟨g, e, hx⟩ := F.f12 h; ⟨g, e, hx.below hb⟩),
        f13 := old_on h0 (by decide) F.f13,
        f14 := old_on h0 (by decide) (fun h => let ⟨g, e, hz, hx, hy⟩ := F.f14 h; ⟨g, e, hz, fun n => (hx (fun x => n ((on_set h0 _).2 (Or.inr x)))).below hb, fun y => (hy (((on_set h0 _).1 y).resolve_left (by decide))).below hb⟩),
        f15 := old_on h0 (by decide) (fun h => let ⟨g, e, hz, hx, hy⟩ := F.f15 h; ⟨g, e, hz, fun n => (hx (fun x => n ((on_set h0 _).2 (Or.inr x)))).below hb, fun y => (hy (((on_set h0 _).1 y).resolve_left (by decide))).below hb⟩),
        ne := fun h h' => F.ne (((on_set h0 _).1 h).resolve_left (by decide)) (((on_set h0 _).1 h').resolve_left (by decide)),
        d4_3 := fun _ => (on_set h0 _).2 (Or.inr h3),
        d5_3 := fun h => (on_set h0 _).2 (Or.inr (F.d5_3 (((on_set h0 _).1 h).resolve_left (by decide)))),
        d6_5 := fun h => (on_set h0 _).2 (Or.inr (F.d6_5 (((on_set h0 _).1 h).resolve_left (by decide)))),
        d16_5 := fun h => (on_set h0 _).2 (Or.inr (F.d16_5 (((on_set h0 _).1 h).resolve_left (by decide)))),
        d10_9 := fun h => (on_set h0 _).2 (Or.inr (F.d10_9 (((on_set h0 _).1 h).resolve_left (by decide)))),
        d12_9 := fun h => (on_set h0 _).2 (Or.inr (F.d12_9 (((on_set h0 _).1 h).resolve_left (by decide)))),
        d13_12 := fun h => (on_set h0 _).2 (Or.inr (F.d13_12 (((on_set h0 _).1 h).resolve_left (by decide)))),
        d17_12 := fun h => (on_set h0 _).2 (Or.inr (F.d17_12 (((on_set h0 _).1 h).resolve_left (by decide)))),
        d16_14 := fun h => (on_set h0 _).2 (Or.inr (F.d16_14 (((on_set h0 _).1 h).resolve_left (by decide)))),
        d17_15 := fun h => (on_set h0 _).2 (Or.inr (F.d17_15 (((on_set h0 _).1 h).resolve_left (by decide)))) }
theorem I3.s5 {W : World} {l : Array Bool} {w : World} {v5 v6 v25 v26 v27 v28 v29 v30 v31 v32 v33 v34 v35 v36 v37 v38 : Value} (F : I3 W l w v5 v6 v25 v26 v27 v28 v29 v30 v31 v32 v33 v34 v35 v36 v37 v38) (h0 : l.getD 5 true = false) (h3 : On l 3) : I3 W (l.setIfInBounds 5 true) (w.alloc (.cells #[.int .i64 3, .int .i64 0, .string ⟨#[97]⟩, .slice none 0 0, .int .i64 5, .int .i64 0, .string ⟨#[]⟩, v28] 28)) v5 v6 v25 v26 v27 v28 v29 (.slice (some ⟨w.heap.size, 0, none⟩) 2 2) v31 v32 v33 v34 v35 v36 v37 v38 :=
  have hb := below_box w (.cells #[.int .i64 3, .int .i64 0, .string ⟨#[97]⟩, .slice none 0 0, .int .i64 5, .int .i64 0, .string ⟨#[]⟩, v28] 28)
  { bel := F.bel.trans (hb.mono F.bel.size),
        f0 := old_on h0 (by decide) F.f0,
        f1 := old_on h0 (by decide) F.f1,
        f2 := old_on h0 (by decide) F.f2,
        f3 := old_on h0 (by decide) (fun h => let ⟨g, e, hx⟩ := F.f3 h; ⟨g, e, hx.below hb⟩),
        f4 := old_on h0 (by decide) F.f4,
        f5 := fun _ => ⟨_, rfl, Bx.new _ _ _⟩,
        f6 := fun h => absurd (F.d6_5 (((on_set h0 _).1 h).resolve_left (by decide))) (off_of h0),
        f7 := old_on h0 (by decide) F.f7,
        f8 := old_on h0 (by decide) F.f8,
        f9 := old_on h0 (by decide) (fun h => let ⟨g, e, hx⟩ := F.f9 h; ⟨g, e, hx.below hb⟩),
        f10 := old_on h0 (by decide) F.f10,
        f11 := old_on h0 (by decide) F.f11,
        f12 := old_on h0 (by decide) (fun h => let ⟨g, e, hx⟩ := F.f12 h; ⟨g, e, hx.below hb⟩),
        f13 := old_on h0 (by decide) F.f13,
        f14 := old_on h0 (by decide) (fun h => let ⟨g, e, hz, hx, hy⟩ := F.f14 h; ⟨g, e, hz, fun n => (hx (fun x => n ((on_set h0 _).2 (Or.inr x)))).below hb, fun y => absurd (F.d16_5 (((on_set h0 _).1 y).resolve_left (by decide))) (off_of h0)⟩),
        f15 := old_on h0 (by decide) (fun h => let ⟨g, e, hz, hx, hy⟩ := F.f15 h; ⟨g, e, hz, fun n => (hx (fun x => n ((on_set h0 _).2 (Or.inr x)))).below hb, fun y => (hy (((on_set h0 _).1 y).resolve_left (by decide))).below hb⟩),
        ne := fun h h' => F.ne (((on_set h0 _).1 h).resolve_left (by decide)) (((on_set h0 _).1 h').resolve_left (by decide)),
        d4_3 := fun h => (on_set h0 _).2 (Or.inr (F.d4_3 (((on_set h0 _).1 h).resolve_left (by decide)))),
        d5_3 := fun _ => (on_set h0 _).2 (Or.inr h3),
        d6_5 := fun _ => (on_set h0 _).2 (Or.inl rfl),
        d16_5 := fun _ => (on_set h0 _).2 (Or.inl rfl),
        d10_9 := fun h => (on_set h0 _).2 (Or.inr (F.d10_9 (((on_set h0 _).1 h).resolve_left (by decide)))),
        d12_9 := fun h => (on_set h0 _).2 (Or.inr (F.d12_9 (((on_set h0 _).1 h).resolve_left (by decide)))),
        d13_12 := fun h => (on_set h0 _).2 (Or.inr (F.d13_12 (((on_set h0 _).1 h).resolve_left (by decide)))),
        d17_12 := fun h => (on_set h0 _).2 (Or.inr (F.d17_12 (((on_set h0 _).1 h).resolve_left (by decide)))),
        d16_14 := fun h => (on_set h0 _).2 (Or.inr (F.d16_14 (((on_set h0 _).1 h).resolve_left (by decide)))),
        d17_15 := fun h => (on_set h0 _).2 (Or.inr (F.d17_15 (((on_set h0 _).1 h).resolve_left (by decide)))) }
theorem I3.s6 {W : World} {l : Array Bool} {w : World} {v5 v6 v25 v26 v27 v28 v29 v30 v31 v32 v33 v34 v35 v36 v37 v38 : Value} (F : I3 W l w v5 v6 v25 v26 v27 v28 v29 v30 v31 v32 v33 v34 v35 v36 v37 v38) {w2 : World} (h0 : l.getD 6 true = false) (hb : Below w.heap.size w w2) (h5 : On l 5) : I3 W (l.setIfInBounds 6 true) w2 v5 v6 v25 v26 v27 v28 v29 v30 (.agg #[.int .i64 5, .int .i64 0, .string ⟨#[]⟩, v30]) v32 v33 v34 v35 v36 v37 v38 :=
  { bel := F.bel.trans (hb.mono F.bel.size),
        f0 := old_on h0 (by decide) F.f0,
        f1 := old_on h0 (by decide) F.f1,
        f2 := old_on h0 (by decide) F.f2,
        f3 := old_on h0 (by decide) (fun h => let ⟨g, e, hx⟩ := F.f3 h; ⟨g, e, hx.below hb⟩),
        f4 := old_on h0 (by decide) F.f4,
        f5 := old_on h0 (by decide) (fun h => let ⟨g, e, hx⟩ := F.f5 h; ⟨g, e, hx.below hb⟩),
        f6 := fun _ => rfl,
        f7 := old_on h0 (by decide) F.f7,
        f8 := old_on h0 (by decide) F.f8,
        f9 := old_on h0 (by decide) (fun h => let ⟨g, e, hx⟩ := F.f9 h; ⟨g, e, hx.below hb⟩),
        f10 := old_on h0 (by decide) F.f10,
        f11 := old_on h0 (by decide) F.f11,
        f12 := old_on h0 (by decide) (fun h => let ⟨g, e, hx⟩ := F.f12 h; ⟨g, e, hx.below hb⟩),
        f13 := old_on h0 (by decide) F.f13,
        f14 := old_on h0 (by decide) (fun h => let ⟨g, e, hz, hx, hy⟩ := F.f14 h; ⟨g, e, hz, fun n => (hx (fun x => n ((on_set h0 _).2 (Or.inr x)))).below hb, fun y => (hy (((on_set h0 _).1 y).resolve_left (by decide))).below hb⟩),
        f15 := old_on h0 (by decide) (fun h => let ⟨g, e, hz, hx, hy⟩ := F.f15 h; ⟨g, e, hz, fun n => (hx (fun x => n ((on_set h0 _).2 (Or.inr x)))).below hb, fun y => (hy (((on_set h0 _).1 y).resolve_left (by decide))).below hb⟩),
        ne := fun h h' => F.ne (((on_set h0 _).1 h).resolve_left (by decide)) (((on_set h0 _).1 h').resolve_left (by decide)),
        d4_3 := fun h => (on_set h0 _).2 (Or.inr (F.d4_3 (((on_set h0 _).1 h).resolve_left (by decide)))),
        d5_3 := fun h => (on_set h0 _).2 (Or.inr (F.d5_3 (((on_set h0 _).1 h).resolve_left (by decide)))),
        d6_5 := fun _ => (on_set h0 _).2 (Or.inr h5),
        d16_5 := fun h => (on_set h0 _).2 (Or.inr (F.d16_5 (((on_set h0 _).1 h).resolve_left (by decide)))),
        d10_9 := fun h => (on_set h0 _).2 (Or.inr (F.d10_9 (((on_set h0 _).1 h).resolve_left (by decide)))),
        d12_9 := fun h => (on_set h0 _).2 (Or.inr (F.d12_9 (((on_set h0 _).1 h).resolve_left (by decide)))),
        d13_12 := fun h => (on_set h0 _).2 (Or.inr (F.d13_12 (((on_set h0 _).1 h).resolve_left (by decide)))),
        d17_12 := fun h => (on_set h0 _).2 (Or.inr (F.d17_12 (((on_set h0 _).1 h).resolve_left (by decide)))),
        d16_14 := fun h => (on_set h0 _).2 (Or.inr (F.d16_14 (((on_set h0 _).1 h).resolve_left (by decide)))),
        d17_15 := fun h => (on_set h0 _).2 (Or.inr (F.d17_15 (((on_set h0 _).1 h).resolve_left (by decide)))) }
theorem I3.s7 {W : World} {l : Array Bool} {w : World} {v5 v6 v25 v26 v27 v28 v29 v30 v31 v32 v33 v34 v35 v36 v37 v38 : Value} (F : I3 W l w v5 v6 v25 v26 v27 v28 v29 v30 v31 v32 v33 v34 v35 v36 v37 v38) (h0 : l.getD 7 true = false)  : I3 W (l.setIfInBounds 7 true) w v5 v6 v25 v26 v27 v28 v29 v30 v31 (.agg #[.int .i64 3, .int .i64 0, .string ⟨#[97]⟩, .slice none 0 0]) v33 v34 v35 v36 v37 v38 :=
  { bel := F.bel,
        f0 := old_on h0 (by decide) F.f0,
        f1 := old_on h0 (by decide) F.f1,
        f2 := old_on h0 (by decide) F.f2,
        f3 := old_on h0 (by decide) F.f3,
        f4 := old_on h0 (by decide) F.f4,
        f5 := old_on h0 (by decide) F.f5,
        f6 := old_on h0 (by decide) F.f6,
        f7 := fun _ => rfl,
        f8 := old_on h0 (by decide) F.f8,
        f9 := old_on h0 (by decide) F.f9,
        f10 := old_on h0 (by decide) F.f10,
        f11 := old_on h0 (by decide) F.f11,
        f12 := old_on h0 (by decide) F.f12,
        f13 := old_on h0 (by decide) F.f13,
        f14 := old_on h0 (by decide) (fun h => let ⟨g, e, hz, hx, hy⟩ := F.f14 h; ⟨g, e, hz, fun n => hx (fun x => n ((on_set h0 _).2 (Or.inr x))), fun y => hy (((on_set h0 _).1 y).resolve_left (by decide))⟩),
        f15 := old_on h0 (by decide) (fun h => let ⟨g, e, hz, hx, hy⟩ := F.f15 h; ⟨g, e, hz, fun n => hx (fun x => n ((on_set h0 _).2 (Or.inr x))), fun y => hy (((on_set h0 _).1 y).resolve_left (by decide))⟩),
        ne := fun h h' => F.ne (((on_set h0 _).1 h).resolve_left (by decide)) (((on_set h0 _).1 h').resolve_left (by decide)),
        d4_3 := fun h => (on_set h0 _).2 (Or.inr (F.d4_3 (((on_set h0 _).1 h).resolve_left (by decide)))),
        d5_3 := fun h => (on_set h0 _).2 (Or.inr (F.d5_3 (((on_set h0 _).1 h).resolve_left (by decide)))),
        d6_5 := fun h => (on_set h0 _).2 (Or.inr (F.d6_5 (((on_set h0 _).1 h).resolve_left (by decide)))),
        d16_5 := fun h => (on_set h0 _).2 (Or.inr (F.d16_5 (((on_set h0 _).1 h).resolve_left (by decide)))),
        d10_9 := fun h => (on_set h0 _).2 (Or.inr (F.d10_9 (((on_set h0 _).1 h).resolve_left (by decide)))),
        d12_9 := fun h => (on_set h0 _).2 (Or.inr (F.d12_9 (((on_set h0 _).1 h).resolve_left (by decide)))),
        d13_12 := fun h => (on_set h0 _).2 (Or.inr (F.d13_12 (((on_set h0 _).1 h).resolve_left (by decide)))),
        d17_12 := fun h => (on_set h0 _).2 (Or.inr (F.d17_12 (((on_set h0 _).1 h).resolve_left (by decide)))),
        d16_14 := fun h => (on_set h0 _).2 (Or.inr (F.d16_14 (((on_set h0 _).1 h).resolve_left (by decide)))),
        d17_15 := fun h => (on_set h0 _).2 (Or.inr (F.d17_15 (((on_set h0 _).1 h).resolve_left (by decide)))) }
theorem I3.s8 {W : World} {l : Array Bool} {w : World} {v5 v6 v25 v26 v27 v28 v29 v30 v31 v32 v33 v34 v35 v36 v37 v38 : Value} (F : I3 W l w v5 v6 v25 v26 v27 v28 v29 v30 v31 v32 v33 v34 v35 v36 v37 v38) (h0 : l.getD 8 true = false)  : I3 W (l.setIfInBounds 8 true) w v5 v6 v25 v26 v27 v28 v29 v30 v31 v32 (.agg #[.int .i64 3, .int .i64 0, .string ⟨#[98]⟩, .slice none 0 0]) v34 v35 v36 v37 v38 :=
  { bel := F.bel,
        f0 := old_on h0 (by decide) F.f0,
        f1 := old_on h0 (by decide) F.f1,
        f2 := old_on h0 (by decide) F.f2,
        f3 := old_on h0 (by decide) F.f3,
        f4 := old_on h0 (by decide) F.f4,
        f5 := old_on h0 (by decide) F.f5,
        f6 := old_on h0 (by decide) F.f6,
        f7 := old_on h0 (by decide) F.f7,
        f8 := fun _ => rfl,
        f9 := old_on h0 (by decide) F.f9,
        f10 := old_on h0 (by decide) F.f10,
        f11 := old_on h0 (by decide) F.f11,
        f12 := old_on h0 (by decide) F.f12,
        f13 := old_on h0 (by decide) F.f13,
        f14 := old_on h0 (by decide) (fun h => let ⟨g, e, hz, hx, hy⟩ := F.f14 h; ⟨g, e, hz, fun n => hx (fun x => n ((on_set h0 _).2 (Or.inr x))), fun y => hy (((on_set h0 _).1 y).resolve_left (by decide))⟩),
        f15 := old_on h0 (by decide) (fun h => let ⟨g, e, hz, hx, hy⟩ := F.f15 h; ⟨g, e, hz, fun n => hx (fun x => n ((on_set h0 _).2 (Or.inr x))), fun y => hy (((on_set h0 _).1 y).resolve_left (by decide))⟩),
        ne := fun h h' => F.ne (((on_set h0 _).1 h).resolve_left (by decide)) (((on_set h0 _).1 h').resolve_left (by decide)),
        d4_3 := fun h => (on_set h0 _).2 (Or.inr (F.d4_3 (((on_set h0 _).1 h).resolve_left (by decide)))),
        d5_3 := fun h => (on_set h0 _).2 (Or.inr (F.d5_3 (((on_set h0 _).1 h).resolve_left (by decide)))),
        d6_5 := fun h => (on_set h0 _).2 (Or.inr (F.d6_5 (((on_set h0 _).1 h).resolve_left (by decide)))),
        d16_5 := fun h => (on_set h0 _).2 (Or.inr (F.d16_5 (((on_set h0 _).1 h).resolve_left (by decide)))),
        d10_9 := fun h => (on_set h0 _).2 (Or.inr (F.d10_9 (((on_set h0 _).1 h).resolve_left (by decide)))),
        d12_9 := fun h => (on_set h0 _).2 (Or.inr (F.d12_9 (((on_set h0 _).1 h).resolve_left (by decide)))),
        d13_12 := fun h => (on_set h0 _).2 (Or.inr (F.d13_12 (((on_set h0 _).1 h).resolve_left (by decide)))),
        d17_12 := fun h => (on_set h0 _).2 (Or.inr (F.d17_12 (((on_set h0 _).1 h).resolve_left (by decide)))),
        d16_14 := fun h => (on_set h0 _).2 (Or.inr (F.d16_14 (((on_set h0 _).1 h).resolve_left (by decide)))),
        d17_15 := fun h => (on_set h0 _).2 (Or.inr (F.d17_15 (((on_set h0 _).1 h).resolve_left (by decide)))) }
theorem I3.s9 {W : World} {l : Array Bool} {w : World} {v5 v6 v25 v26 v27 v28 v29 v30 v31 v32 v33 v34 v35 v36 v37 v38 : Value} (F : I3 W l w v5 v6 v25 v26 v27 v28 v29 v30 v31 v32 v33 v34 v35 v36 v37 v38) (h0 : l.getD 9 true = false)  : I3 W (l.setIfInBounds 9 true) (w.alloc (.cells #[.int .i64 3, .int .i64 0, .string ⟨#[97]⟩, .slice none 0 0, .int .i64 3, .int .i64 0, .string ⟨#[98]⟩, .slice none 0 0] 28)) v5 v6 v25 v26 v27 v28 v29 v30 v31 v32 v33 (.slice (some ⟨w.heap.size, 0, none⟩) 2 2) v35 v36 v37 v38 :=
  have hb := below_box w (.cells #[.int .i64 3, .int .i64 0, .string ⟨#[97]⟩, .slice none 0 0, .int .i64 3, .int .i64 0, .string ⟨#[98]⟩, .slice none 0 0] 28)
  { bel := F.bel.trans (hb.mono F.bel.size),
        f0 := old_on h0 (by decide) F.f0,
        f1 := old_on h0 (by decide) F.f1,
        f2 := old_on h0 (by decide) F.f2,
        f3 := old_on h0 (by decide) (fun h => let ⟨g, e, hx⟩ := F.f3 h; ⟨g, e, hx.below hb⟩),
        f4 := old_on h0 (by decide) F.f4,
        f5 := old_on h0 (by decide) (fun h => let ⟨g, e, hx⟩ := F.f5 h; ⟨g, e, hx.below hb⟩),
        f6 := old_on h0 (by decide) F.f6,
        f7 := old_on h0 (by decide) F.f7,
        f8 := old_on h0 (by decide) F.f8,
        f9 := fun _ => ⟨_, rfl, Bx.new _ _ _⟩,
        f10 := fun h => absurd (F.d10_9 (((on_set h0 _).1 h).resolve_left (by decide))) (off_of h0),
        f11 := old_on h0 (by decide) F.f11,
        f12 := fun h => absurd (F.d12_9 (((on_set h0 _).1 h).resolve_left (by decide))) (off_of h0),
        f13 := old_on h0 (by decide) F.f13,
        f14 := old_on h0 (by decide) (fun h => let ⟨g, e, hz, hx, hy⟩ := F.f14 h; ⟨g, e, hz, fun n => (hx (fun x => n ((on_set h0 _).2 (Or.inr x)))).below hb, fun y => (hy (((on_set h0 _).1 y).resolve_left (by decide))).below hb⟩),
        f15 := old_on h0 (by decide) (fun h => let ⟨g, e, hz, hx, hy⟩ := F.f15 h; ⟨g, e, hz, fun n => (hx (fun x => n ((on_set h0 _).2 (Or.inr x)))).below hb, fun y => (hy (((on_set h0 _).1 y).resolve_left (by decide))).below hb⟩),
        ne := fun h h' => F.ne (((on_set h0 _).1 h).resolve_left (by decide)) (((on_set h0 _).1 h').resolve_left (by decide)),
        d4_3 := fun h => (on_set h0 _).2 (Or.inr (F.d4_3 (((on_set h0 _).1 h).resolve_left (by decide)))),
        d5_3 := fun h => (on_set h0 _).2 (Or.inr (F.d5_3 (((on_set h0 _).1 h).resolve_left (by decide)))),
        d6_5 := fun h => (on_set h0 _).2 (Or.inr (F.d6_5 (((on_set h0 _).1 h).resolve_left (by decide)))),
        d16_5 := fun h => (on_set h0 _).2 (Or.inr (F.d16_5 (((on_set h0 _).1 h).resolve_left (by decide)))),
        d10_9 := fun _ => (on_set h0 _).2 (Or.inl rfl),
        d12_9 := fun _ => (on_set h0 _).2 (Or.inl rfl),
        d13_12 := fun h => (on_set h0 _).2 (Or.inr (F.d13_12 (((on_set h0 _).1 h).resolve_left (by decide)))),
        d17_12 := fun h => (on_set h0 _).2 (Or.inr (F.d17_12 (((on_set h0 _).1 h).resolve_left (by decide)))),
        d16_14 := fun h => (on_set h0 _).2 (Or.inr (F.d16_14 (((on_set h0 _).1 h).resolve_left (by decide)))),
        d17_15 := fun h => (on_set h0 _).2 (Or.inr (F.d17_15 (((on_set h0 _).1 h).resolve_left (by decide)))) }
theorem I3.s10 {W : World} {l : Array Bool} {w : World} {v5 v6 v25 v26 v27 v28 v29 v30 v31 v32 v33 v34 v35 v36 v37 v38 : Value} (F : I3 W l w v5 v6 v25 v26 v27 v28 v29 v30 v31 v32 v33 v34 v35 v36 v37 v38) {w2 : World} (h0 : l.getD 10 true = false) (hb : Below w.heap.size w w2) (h9 : On l 9) : I3 W (l.setIfInBounds 10 true) w2 v5 v6 v25 v26 v27 v28 v29 v30 v31 v32 v33 v34 (.agg #[.int .i64 5, .int .i64 0, .string ⟨#[]⟩, v34]) v36 v37 v38 :=
  { bel := F.bel.trans (hb.mono F.bel.size),
        f0 := old_on h0 (by decide) F.f0,
        f1 := old_on h0 (by decide) F.f1,
        f2 := old_on h0 (by decide) F.f2,
        f3 := old_on h0 (by decide) (fun h => let ⟨g, e, hx⟩ := F.f3 h; ⟨g, e, hx.below hb⟩),
        f4 := old_on h0 (by decide) F.f4,
        f5 := old_on h0 (by decide) (fun h => let ⟨g, e, hx⟩ := F.f5 h; ⟨g, e, hx.below hb⟩),
        f6 := old_on h0 (by decide) F.f6,
        f7 := old_on h0 (by decide) F.f7,
        f8 := old_on h0 (by decide) F.f8,
        f9 := old_on h0 (by decide) (fun h => let ⟨g, e, hx⟩ := F.f9 h; ⟨g, e, hx.below hb⟩),
        f10 := fun _ => rfl,
        f11 := old_on h0 (by decide) F.f11,
        f12 := old_on h0 (by decide) (fun h => let ⟨g, e, hx⟩ := F.f12 h; ⟨g, e, hx.below hb⟩),
        f13 := old_on h0 (by decide) F.f13,
        f14 := old_on h0 (by decide) (fun h => let ⟨g, e, hz, hx, hy⟩ := F.f14 h; ⟨g, e, hz, fun n => (hx (fun x => n ((on_set h0 _).2 (Or.inr x)))).below hb, fun y => (hy (((on_set h0 _).1 y).resolve_left (by decide))).below hb⟩),
        f15 := old_on h0 (by decide) (fun h => let ⟨g, e, hz, hx, hy⟩ := F.f15 h; ⟨g, e, hz, fun n => (hx (fun x => n ((on_set h0 _).2 (Or.inr x)))).below hb, fun y => (hy (((on_set h0 _).1 y).resolve_left (by decide))).below hb⟩),
        ne := fun h h' => F.ne (((on_set h0 _).1 h).resolve_left (by decide)) (((on_set h0 _).1 h').resolve_left (by decide)),
        d4_3 := fun h => (on_set h0 _).2 (Or.inr (F.d4_3 (((on_set h0 _).1 h).resolve_left (by decide)))),
        d5_3 := fun h => (on_set h0 _).2 (Or.inr (F.d5_3 (((on_set h0 _).1 h).resolve_left (by decide)))),
        d6_5 := fun h => (on_set h0 _).2 (Or.inr (F.d6_5 (((on_set h0 _).1 h).resolve_left (by decide)))),
        d16_5 := fun h => (on_set h0 _).2 (Or.inr (F.d16_5 (((on_set h0 _).1 h).resolve_left (by decide)))),
        d10_9 := fun _ => (on_set h0 _).2 (Or.inr h9),
        d12_9 := fun h => (on_set h0 _).2 (Or.inr (F.d12_9 (((on_set h0 _).1 h).resolve_left (by decide)))),
        d13_12 := fun h => (on_set h0 _).2 (Or.inr (F.d13_12 (((on_set h0 _).1 h).resolve_left (by decide)))),
        d17_12 := fun h => (on_set h0 _).2 (Or.inr (F.d17_12 (((on_set h0 _).1 h).resolve_left (by decide)))),
        d16_14 := fun h => (on_set h0 _).2 (Or.inr (F.d16_14 (((on_set h0 _).1 h).resolve_left (by decide)))),
        d17_15 := fun h => (on_set h0 _).2 (Or.inr (F.d17_15 (((on_set h0 _).1 h).resolve_left (by decide)))) }
theorem I3.s11 {W : World} {l : Array Bool} {w : World} {v5 v6 v25 v26 v27 v28 v29 v30 v31 v32 v33 v34 v35 v36 v37 v38 : Value} (F : I3 W l w v5 v6 v25 v26 v27 v28 v29 v30 v31 v32 v33 v34 v35 v36 v37 v38) (h0 : l.getD 11 true = false)  : I3 W (l.setIfInBounds 11 true) w v5 v6 v25 v26 v27 v28 v29 v30 v31 v32 v33 v34 v35 (.agg #[.int .i64 3, .int .i64 0, .string ⟨#[99]⟩, .slice none 0 0]) v37 v38 :=
  { bel := F.bel,
        f0 := old_on h0 (by decide) F.f0,
        f1 := old_on h0 (by decide) F.f1,
        f2 := old_on h0 (by decide) F.f2,
        f3 := old_on h0 (by decide) F.f3,
        f4 := old_on h0 (by decide) F.f4,
        f5 := old_on h0 (by decide) F.f5,
        f6 := old_on h0 (by decide) F.f6,
        f7 := old_on h0 (by decide) F.f7,
        f8 := old_on h0 (by decide) F.f8,
        f9 := old_on h0 (by decide) F.f9,
        f10 := old_on h0 (by decide) F.f10,
        f11 := fun _ => rfl,
        f12 := old_on h0 (by decide) F.f12,
        f13 := old_on h0 (by decide) F.f13,
        f14 := old_on h0 (by decide) (fun h => let ⟨g, e, hz, hx, hy⟩ := F.f14 h; ⟨g, e, hz, fun n => hx (fun x => n ((on_set h0 _).2 (Or.inr x))), fun y => hy (((on_set h0 _).1 y).resolve_left (by decide))⟩),
        f15 := old_on h0 (by decide) (fun h => let ⟨g, e, hz, hx, hy⟩ := F.f15 h; ⟨g, e, hz, fun n => hx (fun x => n ((on_set h0 _).2 (Or.inr x))), fun y => hy (((on_set h0 _).1 y).resolve_left (by decide))⟩),
        ne := fun h h' => F.ne (((on_set h0 _).1 h).resolve_left (by decide)) (((on_set h0 _).1 h').resolve_left (by decide)),
        d4_3 := fun h => (on_set h0 _).2 (Or.inr (F.d4_3 (((on_set h0 _).1 h).resolve_left (by decide)))),
        d5_3 := fun h => (on_set h0 _).2 (Or.inr (F.d5_3 (((on_set h0 _).1 h).resolve_left (by decide)))),
        d6_5 := fun h => (on_set h0 _).2 (Or.inr (F.d6_5 (((on_set h0 _).1 h).resolve_left (by decide)))),
        d16_5 := fun h => (on_set h0 _).2 (Or.inr (F.d16_5 (((on_set h0 _).1 h).resolve_left (by decide)))),
        d10_9 := fun h => (on_set h0 _).2 (Or.inr (F.d10_9 (((on_set h0 _).1 h).resolve_left (by decide)))),
        d12_9 := fun h => (on_set h0 _).2 (Or.inr (F.d12_9 (((on_set h0 _).1 h).resolve_left (by decide)))),
        d13_12 := fun h => (on_set h0 _).2 (Or.inr (F.d13_12 (((on_set h0 _).1 h).resolve_left (by decide)))),
        d17_12 := fun h => (on_set h0 _).2 (Or.inr (F.d17_12 (((on_set h0 _).1 h).resolve_left (by decide)))),
        d16_14 := fun h => (on_set h0 _).2 (Or.inr (F.d16_14 (((on_set h0 _).1 h).resolve_left (by decide)))),
        d17_15 := fun h => (on_set h0 _).2 (Or.inr (F.d17_15 (((on_set h0 _).1 h).resolve_left (by decide)))) }
theorem I3.s12 {W : World} {l : Array Bool} {w : World} {v5 v6 v25 v26 v27 v28 v29 v30 v31 v32 v33 v34 v35 v36 v37 v38 : Value} (F : I3 W l w v5 v6 v25 v26 v27 v28 v29 v30 v31 v32 v33 v34 v35 v36 v37 v38) (h0 : l.getD 12 true = false) (h9 : On l 9) : I3 W (l.setIfInBounds 12 true) (w.alloc (.cells #[.int .i64 5, .int .i64 0, .string ⟨#[]⟩, v34, .int .i64 3, .int .i64 0, .string ⟨#[99]⟩, .slice none 0 0] 28)) v5 v6 v25 v26 v27 v28 v29 v30 v31 v32 v33 v34 v35 v36 (.slice (some ⟨w.heap.size, 0, none⟩) 2 2) v38 :=
  have hb := below_box w (.cells #[.int .i64 5, .int .i64 0, .string ⟨#[]⟩, v34, .int .i64 3, .int .i64 0, .string ⟨#[99]⟩, .slice none 0 0] 28)
  { bel := F.bel.trans (hb.mono F.bel.size),
        f0 := old_on h0 (by decide) F.f0,
        f1 := old_on h0 (by decide) F.f1,
        f2 := old_on h0 (by decide) F.f2,
        f3 := old_on h0 (by decide) (fun h => let ⟨g, e, hx⟩ := F.f3 h; ⟨g, e, hx.below hb⟩),
        f4 := old_on h0 (by decide) F.f4,
        f5 := old_on h0 (by decide) (fun h => let ⟨g, e, hx⟩ := F.f5 h; ⟨g, e, hx.below hb⟩),
        f6 := old_on h0 (by decide) F.f6,
        f7 := old_on h0 (by decide) F.f7,
        f8 := old_on h0 (by decide) F.f8,
        f9 := old_on h0 (by decide) (fun h => let ⟨g, e, hx⟩ := F.f9 h; ⟨g, e, hx.below hb⟩),
        f10 := old_on h0 (by decide) F.f10,
        f11 := old_on h0 (by decide) F.f11,
        f12 := fun _ => ⟨_, rfl, Bx.new _ _ _⟩,
        f13 := fun h => absurd (F.d13_12 (((on_set h0 _).1 h).resolve_left (by decide))) (off_of h0),
        f14 := old_on h0 (by decide) (fun h => let ⟨g, e, hz, hx, hy⟩ := F.f14 h; ⟨g, e, hz, fun n => (hx (fun x => n ((on_set h0 _).2 (Or.inr x)))).below hb, fun y => (hy (((on_set h0 _).1 y).resolve_left (by decide))).below hb⟩),
        f15 := old_on h0 (by decide) (fun h => let ⟨g, e, hz, hx, hy⟩ := F.f15 h; ⟨g, e, hz, fun n => (hx (fun x => n ((on_set h0 _).2 (Or.inr x)))).below hb, fun y => absurd (F.d17_12 (((on_set h0 _).1 y).resolve_left (by decide))) (off_of h0)⟩),
        ne := fun h h' => F.ne (((on_set h0 _).1 h).resolve_left (by decide)) (((on_set h0 _).1 h').resolve_left (by decide)),
        d4_3 := fun h => (on_set h0 _).2 (Or.inr (F.d4_3 (((on_set h0 _).1 h).resolve_left (by decide)))),
        d5_3 := fun h => (on_set h0 _).2 (Or.inr (F.d5_3 (((on_set h0 _).1 h).resolve_left (by decide)))),
        d6_5 := fun h => (on_set h0 _).2 (Or.inr (F.d6_5 (((on_set h0 _).1 h).resolve_left (by decide)))),
        d16_5 := fun h => (on_set h0 _).2 (Or.inr (F.d16_5 (((on_set h0 _).1 h).resolve_left (by decide)))),
        d10_9 := fun h => (on_set h0 _).2 (Or.inr (F.d10_9 (((on_set h0 _).1 h).resolve_left (by decide)))),
        d12_9 := fun _ => (on_set h0 _).2 (Or.inr h9),
        d13_12 := fun _ => (on_set h0 _).2 (Or.inl rfl),
        d17_12 := fun _ => (on_set h0 _).2 (Or.inl rfl),
        d16_14 := fun h => (on_set h0 _).2 (Or.inr (F.d16_14 (((on_set h0 _).1 h).resolve_left (by decide)))),
        d17_15 := fun h => (on_set h0 _).2 (Or.inr (F.d17_15 (((on_set h0 _).1 h).resolve_left (by decide)))) }
theorem I3.s13 {W : World} {l : Array Bool} {w : World} {v5 v6 v25 v26 v27 v28 v29 v30 v31 v32 v33 v34 v35 v36 v37 v38 : Value} (F : I3 W l w v5 v6 v25 v26 v27 v28 v29 v30 v31 v32 v33 v34 v35 v36 v37 v38) {w2 : World} (h0 : l.getD 13 true = false) (hb : Below w.heap.size w w2) (h12 : On l 12) : I3 W (l.setIfInBounds 13 true) w2 v5 v6 v25 v26 v27 v28 v29 v30 v31 v32 v33 v34 v35 v36 v37 (.agg #[.int .i64 5, .int .i64 0, .string ⟨#[]⟩, v37]) :=
  { bel := F.bel.trans (hb.mono F.bel.size),
        f0 := old_on h0 (by decide) F.f0,
        f1 := old_on h0 (by decide) F.f1,
        f2 := old_on h0 (by decide) F.f2,
        f3 := old_on h0 (by decide) (fun h => let ⟨g, e, hx⟩ := F.f3 h; ⟨g, e, hx.below hb⟩),
        f4 := old_on h0 (by decide) F.f4,
        f5 := old_on h0 (by decide) (fun h => let ⟨g, e, hx⟩ := F.f5 h; ⟨g, e, hx.below hb⟩),
        f6 := old_on h0 (by decide) F.f6,
        f7 := old_on h0 (by decide) F.f7,
        f8 := old_on h0 (by decide) F.f8,
        f9 := old_on h0 (by decide) (fun h => let ⟨g, e, hx⟩ := F.f9 h; ⟨g, e, hx.below hb⟩),
        f10 := old_on h0 (by decide) F.f10,
        f11 := old_on h0 (by decide) F.f11,
        f12 := old_on h0 (by decide) (fun h => let ⟨g, e, hx⟩ := F.f12 h; ⟨g, e, hx.below hb⟩),
        f13 := fun _ => rfl,
        f14 := old_on h0 (by decide) (fun h => let ⟨g, e, hz, hx, hy⟩ := F.f14 h; ⟨g, e, hz, fun n => (hx (fun x => n ((on_set h0 _).2 (Or.inr x)))).below hb, fun y => (hy (((on_set h0 _).1 y).resolve_left (by decide))).below hb⟩),
        f15 := old_on h0 (by decide) (fun h => let ⟨g, e, hz, hx, hy⟩ := F.f15 h; ⟨g, e, hz, fun n => (hx (fun x => n ((on_set h0 _).2 (Or.inr x)))).below hb, fun y => (hy (((on_set h0 _).1 y).resolve_left (by decide))).below hb⟩),
        ne := fun h h' => F.ne (((on_set h0 _).1 h).resolve_left (by decide)) (((on_set h0 _).1 h').resolve_left (by decide)),
        d4_3 := fun h => (on_set h0 _).2 (Or.inr (F.d4_3 (((on_set h0 _).1 h).resolve_left (by decide)))),
        d5_3 := fun h => (on_set h0 _).2 (Or.inr (F.d5_3 (((on_set h0 _).1 h).resolve_left (by decide)))),
        d6_5 := fun h => (on_set h0 _).2 (Or.inr (F.d6_5 (((on_set h0 _).1 h).resolve_left (by decide)))),
        d16_5 := fun h => (on_set h0 _).2 (Or.inr (F.d16_5 (((on_set h0 _).1 h).resolve_left (by decide)))),
        d10_9 := fun h => (on_set h0 _).2 (Or.inr (F.d10_9 (((on_set h0 _).1 h).resolve_left (by decide)))),
        d12_9 := fun h => (on_set h0 _).2 (Or.inr (F.d12_9 (((on_set h0 _).1 h).resolve_left (by decide)))),
        d13_12 := fun _ => (on_set h0 _).2 (Or.inr h12),
        d17_12 := fun h => (on_set h0 _).2 (Or.inr (F.d17_12 (((on_set h0 _).1 h).resolve_left (by decide)))),
        d16_14 := fun h => (on_set h0 _).2 (Or.inr (F.d16_14 (((on_set h0 _).1 h).resolve_left (by decide)))),
        d17_15 := fun h => (on_set h0 _).2 (Or.inr (F.d17_15 (((on_set h0 _).1 h).resolve_left (by decide)))) }
theorem I3.s14 {W : World} {l : Array Bool} {w : World} {v5 v6 v25 v26 v27 v28 v29 v30 v31 v32 v33 v34 v35 v36 v37 v38 : Value} (F : I3 W l w v5 v6 v25 v26 v27 v28 v29 v30 v31 v32 v33 v34 v35 v36 v37 v38) (h0 : l.getD 14 true = false)  : I3 W (l.setIfInBounds 14 true) (w.alloc (.cells #[.int .i64 0, .int .i64 0, .string ⟨#[]⟩, .slice none 0 0] 28)) (.pointer (some ⟨w.heap.size, 0, none⟩)) v6 v25 v26 v27 v28 v29 v30 v31 v32 v33 v34 v35 v36 v37 v38 :=
  have hb := below_box w (.cells #[.int .i64 0, .int .i64 0, .string ⟨#[]⟩, .slice none 0 0] 28)
  { bel := F.bel.trans (hb.mono F.bel.size),
        f0 := old_on h0 (by decide) F.f0,
        f1 := old_on h0 (by decide) F.f1,
        f2 := old_on h0 (by decide) F.f2,
        f3 := old_on h0 (by decide) (fun h => let ⟨g, e, hx⟩ := F.f3 h; ⟨g, e, hx.below hb⟩),
        f4 := old_on h0 (by decide) F.f4,
        f5 := old_on h0 (by decide) (fun h => let ⟨g, e, hx⟩ := F.f5 h; ⟨g, e, hx.below hb⟩),
        f6 := old_on h0 (by decide) F.f6,
        f7 := old_on h0 (by decide) F.f7,
        f8 := old_on h0 (by decide) F.f8,
        f9 := old_on h0 (by decide) (fun h => let ⟨g, e, hx⟩ := F.f9 h; ⟨g, e, hx.below hb⟩),
        f10 := old_on h0 (by decide) F.f10,
        f11 := old_on h0 (by decide) F.f11,
        f12 := old_on h0 (by decide) (fun h => let ⟨g, e, hx⟩ := F.f12 h; ⟨g, e, hx.below hb⟩),
        f13 := old_on h0 (by decide) F.f13,
        f14 := fun _ => ⟨_, rfl, F.bel.size, fun _ => Bx.new _ _ _, fun h => absurd (F.d16_14 (((on_set h0 _).1 h).resolve_left (by decide))) (off_of h0)⟩,
        f15 := old_on h0 (by decide) (fun h => let ⟨g, e, hz, hx, hy⟩ := F.f15 h; ⟨g, e, hz, fun n => (hx (fun x => n ((on_set h0 _).2 (Or.inr x)))).below hb, fun y => (hy (((on_set h0 _).1 y).resolve_left (by decide))).below hb⟩),
        ne := fun _ h' => by
          obtain ⟨g, e, _, hx, hy⟩ := F.f15 (((on_set h0 _).1 h').resolve_left (by decide))
          have hlt : g < w.heap.size := by
            by_cases h17 : On l 17
            · exact (hy h17).lt
            · exact (hx h17).lt
          rw [e]
          intro e2
          simp only [Value.pointer.injEq, Option.some.injEq, Addr.mk.injEq] at e2
          omega,
        d4_3 := fun h => (on_set h0 _).2 (Or.inr (F.d4_3 (((on_set h0 _).1 h).resolve_left (by decide)))),
        d5_3 := fun h => (on_set h0 _).2 (Or.inr (F.d5_3 (((on_set h0 _).1 h).resolve_left (by decide)))),
        d6_5 := fun h => (on_set h0 _).2 (Or.inr (F.d6_5 (((on_set h0 _).1 h).resolve_left (by decide)))),
        d16_5 := fun h => (on_set h0 _).2 (Or.inr (F.d16_5 (((on_set h0 _).1 h).resolve_left (by decide)))),
        d10_9 := fun h => (on_set h0 _).2 (Or.inr (F.d10_9 (((on_set h0 _).1 h).resolve_left (by decide)))),
        d12_9 := fun h => (on_set h0 _).2 (Or.inr (F.d12_9 (((on_set h0 _).1 h).resolve_left (by decide)))),
        d13_12 := fun h => (on_set h0 _).2 (Or.inr (F.d13_12 (((on_set h0 _).1 h).resolve_left (by decide)))),
        d17_12 := fun h => (on_set h0 _).2 (Or.inr (F.d17_12 (((on_set h0 _).1 h).resolve_left (by decide)))),
        d16_14 := fun _ => (on_set h0 _).2 (Or.inl rfl),
        d17_15 := fun h => (on_set h0 _).2 (Or.inr (F.d17_15 (((on_set h0 _).1 h).resolve_left (by decide)))) }
theorem I3.s15 {W : World} {l : Array Bool} {w : World} {v5 v6 v25 v26 v27 v28 v29 v30 v31 v32 v33 v34 v35 v36 v37 v38 : Value} (F : I3 W l w v5 v6 v25 v26 v27 v28 v29 v30 v31 v32 v33 v34 v35 v36 v37 v38) (h0 : l.getD 15 true = false)  : I3 W (l.setIfInBounds 15 true) (w.alloc (.cells #[.int .i64 0, .int .i64 0, .string ⟨#[]⟩, .slice none 0 0] 28)) v5 (.pointer (some ⟨w.heap.size, 0, none⟩)) v25 v26 v27 v28 v29 v30 v31 v32 v33 v34 v35 v36 v37 v38 :=
  have hb := below_box w (.cells #[.int .i64 0, .int .i64 0, .string ⟨#[]⟩, .slice none 0 0] 28)
  { bel := F.bel.trans (hb.mono F.bel.size),
        f0 := old_on h0 (by decide) F.f0,
        f1 := old_on h0 (by decide) F.f1,
        f2 := old_on h0 (by decide) F.f2,
        f3 := old_on h0 (by decide) (fun h => let ⟨g, e, hx⟩ := F.f3 h; ⟨g, e, hx.below hb⟩),
        f4 := old_on h0 (by decide) F.f4,
        f5 := old_on h0 (by decide) (fun h => let ⟨g, e, hx⟩ := F.f5 h; ⟨g, e, hx.below hb⟩),
        f6 := old_on h0 (by decide) F.f6,
        f7 := old_on h0 (by decide) F.f7,
        f8 := old_on h0 (by decide) F.f8,
        f9 := old_on h0 (by decide) (fun h => let ⟨g, e, hx⟩ := F.f9 h; ⟨g, e, hx.below hb⟩),
        f10 := old_on h0 (by decide) F.f10,
        f11 := old_on h0 (by decide) F.f11,
        f12 := old_on h0 (by decide) (fun h => let ⟨g, e, hx⟩ := F.f12 h; ⟨g, e, hx.below hb⟩),
        f13 := old_on h0 (by decide) F.f13,
        f15 := fun _ => ⟨_, rfl, F.bel.size, fun _ => Bx.new _ _ _, fun h => absurd (F.d17_15 (((on_set h0 _).1 h).resolve_left (by decide))) (off_of h0)⟩,
        f14 := old_on h0 (by decide) (fun h => let ⟨g, e, hz, hx, hy⟩ := F.f14 h; ⟨g, e, hz, fun n => (hx (fun x => n ((on_set h0 _).2 (Or.inr x)))).below hb, fun y => (hy (((on_set h0 _).1 y).resolve_left (by decide))).below hb⟩),
        ne := fun h' _ => by
          obtain ⟨g, e, _, hx, hy⟩ := F.f14 (((on_set h0 _).1 h').resolve_left (by decide))
          have hlt : g < w.heap.size := by
            by_cases h17 : On l 16
            · exact (hy h17).lt
            · exact (hx h17).lt
          rw [e]
          intro e2
          simp only [Value.pointer.injEq, Option.some.injEq, Addr.mk.injEq] at e2
          omega,
        d4_3 := fun h => (on_set h0 _).2 (Or.inr (F.d4_3 (((on_set h0 _).1 h).resolve_left (by decide)))),
        d5_3 := fun h => (on_set h0 _).2 (Or.inr (F.d5_3 (((on_set h0 _).1 h).resolve_left (by decide)))),
        d6_5 := fun h => (on_set h0 _).2 (Or.inr (F.d6_5 (((on_set h0 _).1 h).resolve_left (by decide)))),
        d16_5 := fun h => (on_set h0 _).2 (Or.inr (F.d16_5 (((on_set h0 _).1 h).resolve_left (by decide)))),
        d10_9 := fun h => (on_set h0 _).2 (Or.inr (F.d10_9 (((on_set h0 _).1 h).resolve_left (by decide)))),
        d12_9 := fun h => (on_set h0 _).2 (Or.inr (F.d12_9 (((on_set h0 _).1 h).resolve_left (by decide)))),
        d13_12 := fun h => (on_set h0 _).2 (Or.inr (F.d13_12 (((on_set h0 _).1 h).resolve_left (by decide)))),
        d17_12 := fun h => (on_set h0 _).2 (Or.inr (F.d17_12 (((on_set h0 _).1 h).resolve_left (by decide)))),
        d16_14 := fun h => (on_set h0 _).2 (Or.inr (F.d16_14 (((on_set h0 _).1 h).resolve_left (by decide)))),
        d17_15 := fun _ => (on_set h0 _).2 (Or.inl rfl) }
theorem I3.s16 {W : World} {l : Array Bool} {w : World} {g : Nat} {v6 v25 v26 v27 v28 v29 v30 v31 v32 v33 v34 v35 v36 v37 v38 : Value} (F : I3 W l w (.pointer (some ⟨g, 0, none⟩)) v6 v25 v26 v27 v28 v29 v30 v31 v32 v33 v34 v35 v36 v37 v38) (h0 : l.getD 16 true = false) (h5 : On l 5) (h14 : On l 14) (hz : W.heap.size ≤ g) (hg : Bx w g #[.int .i64 0, .int .i64 0, .string ⟨#[]⟩, .slice none 0 0] 28) : I3 W (l.setIfInBounds 16 true) (set4 w g (.int .i64 5) (.int .i64 0) (.string ⟨#[]⟩) v30) (.pointer (some ⟨g, 0, none⟩)) v6 v25 v26 v27 v28 v29 v30 v31 v32 v33 v34 v35 v36 v37 v38 :=
  { bel := below_set4 F.bel hz,
        f0 := old_on h0 (by decide) F.f0,
        f1 := old_on h0 (by decide) F.f1,
        f2 := old_on h0 (by decide) F.f2,
        f3 := old_on h0 (by decide) (fun h => let ⟨g2, e, hx⟩ := F.f3 h; ⟨g2, e, bx_keep4 hx (bx_ne hx hg (by show 8 ≠ 4; decide))⟩),
        f4 := old_on h0 (by decide) F.f4,
        f5 := old_on h0 (by decide) (fun h => let ⟨g2, e, hx⟩ := F.f5 h; ⟨g2, e, bx_keep4 hx (bx_ne hx hg (by show 8 ≠ 4; decide))⟩),
        f6 := old_on h0 (by decide) F.f6,
        f7 := old_on h0 (by decide) F.f7,
        f8 := old_on h0 (by decide) F.f8,
        f9 := old_on h0 (by decide) (fun h => let ⟨g2, e, hx⟩ := F.f9 h; ⟨g2, e, bx_keep4 hx (bx_ne hx hg (by show 8 ≠ 4; decide))⟩),
        f10 := old_on h0 (by decide) F.f10,
        f11 := old_on h0 (by decide) F.f11,
        f12 := old_on h0 (by decide) (fun h => let ⟨g2, e, hx⟩ := F.f12 h; ⟨g2, e, bx_keep4 hx (bx_ne hx hg (by show 8 ≠ 4; decide))⟩),
        f13 := old_on h0 (by decide) F.f13,
        f14 := fun _ => ⟨g, rfl, hz, fun n => absurd ((on_set h0 _).2 (Or.inl rfl)) n, fun _ => bx_set4 hg⟩,
        f15 := by
          intro h
          have h := ((on_set h0 _).1 h).resolve_left (by decide)
          obtain ⟨g2, e, hz2, hx, hy⟩ := F.f15 h
          have hne : g2 ≠ g := by
            rintro rfl
            exact F.ne h14 h e.symm
          exact ⟨g2, e, hz2, fun n => bx_keep4 (hx (fun x => n ((on_set h0 _).2 (Or.inr x)))) hne, fun y => bx_keep4 (hy (((on_set h0 _).1 y).resolve_left (by decide))) hne⟩,
        ne := fun h h' => F.ne (((on_set h0 _).1 h).resolve_left (by decide)) (((on_set h0 _).1 h').resolve_left (by decide)),
        d4_3 := fun h => (on_set h0 _).2 (Or.inr (F.d4_3 (((on_set h0 _).1 h).resolve_left (by decide)))),
        d5_3 := fun h => (on_set h0 _).2 (Or.inr (F.d5_3 (((on_set h0 _).1 h).resolve_left (by decide)))),
        d6_5 := fun h => (on_set h0 _).2 (Or.inr (F.d6_5 (((on_set h0 _).1 h).resolve_left (by decide)))),
        d16_5 := fun _ => (on_set h0 _).2 (Or.inr h5),
        d10_9 := fun h => (on_set h0 _).2 (Or.inr (F.d10_9 (((on_set h0 _).1 h).resolve_left (by decide)))),
        d12_9 := fun h => (on_set h0 _).2 (Or.inr (F.d12_9 (((on_set h0 _).1 h).resolve_left (by decide)))),
        d13_12 := fun h => (on_set h0 _).2 (Or.inr (F.d13_12 (((on_set h0 _).1 h).resolve_left (by decide)))),
        d17_12 := fun h => (on_set h0 _).2 (Or.inr (F.d17_12 (((on_set h0 _).1 h).resolve_left (by decide)))),
        d16_14 := fun _ => (on_set h0 _).2 (Or.inr h14),
        d17_15 := fun h => (on_set h0 _).2 (Or.inr (F.d17_15 (((on_set h0 _).1 h).resolve_left (by decide)))) }
theorem I3.s17 {W : World} {l : Array Bool} {w : World} {g : Nat} {v5 v25 v26 v27 v28 v29 v30 v31 v32 v33 v34 v35 v36 v37 v38 : Value} (F : I3 W l w v5 (.pointer (some ⟨g, 0, none⟩)) v25 v26 v27 v28 v29 v30 v31 v32 v33 v34 v35 v36 v37 v38) (h0 : l.getD 17 true = false) (h12 : On l 12) (h15 : On l 15) (hz : W.heap.size ≤ g) (hg : Bx w g #[.int .i64 0, .int .i64 0, .string ⟨#[]⟩, .slice none 0 0] 28) : I3 W (l.setIfInBounds 17 true) (set4 w g (.int .i64 5) (.int .i64 0) (.string ⟨#[]⟩) v37) v5 (.pointer (some ⟨g, 0, none⟩)) v25 v26 v27 v28 v29 v30 v31 v32 v33 v34 v35 v36 v37 v38 :=
  { bel := below_set4 F.bel hz,
        f0 := old_on h0 (by decide) F.f0,
        f1 := old_on h0 (by decide) F.f1,
        f2 := old_on h0 (by decide) F.f2,
        f3 := old_on h0 (by decide) (fun h => let ⟨g2, e, hx⟩ := F.f3 h; ⟨g2, e, bx_keep4 hx (bx_ne hx hg (by show 8 ≠ 4; decide))⟩),
        f4 := old_on h0 (by decide) F.f4,
        f5 := old_on h0 (by decide) (fun h => let ⟨g2, e, hx⟩ := F.f5 h; ⟨g2, e, bx_keep4 hx (bx_ne hx hg (by show 8 ≠ 4; decide))⟩),
        f6 := old_on h0 (by decide) F.f6,
        f7 := old_on h0 (by decide) F.f7,
        f8 := old_on h0 (by decide) F.f8,
        f9 := old_on h0 (by decide) (fun h => let ⟨g2, e, hx⟩ := F.f9 h; ⟨g2, e, bx_keep4 hx (bx_ne hx hg (by show 8 ≠ 4; decide))⟩),
        f10 := old_on h0 (by decide) F.f10,
        f11 := old_on h0 (by decide) F.f11,
        f12 := old_on h0 (by decide) (fun h => let ⟨g2, e, hx⟩ := F.f12 h; ⟨g2, e, bx_keep4 hx (bx_ne hx hg (by show 8 ≠ 4; decide))⟩),
        f13 := old_on h0 (by decide) F.f13,
        f15 := fun _ => ⟨g, rfl, hz, fun n => absurd ((on_set h0 _).2 (Or.inl rfl)) n, fun _ => bx_set4 hg⟩,
        f14 := by
          intro h
          have h := ((on_set h0 _).1 h).resolve_left (by decide)
          obtain ⟨g2, e, hz2, hx, hy⟩ := F.f14 h
          have hne : g2 ≠ g := by
            rintro rfl
            exact F.ne h h15 e
          exact ⟨g2, e, hz2, fun n => bx_keep4 (hx (fun x => n ((on_set h0 _).2 (Or.inr x)))) hne, fun y => bx_keep4 (hy (((on_set h0 _).1 y).resolve_left (by decide))) hne⟩,
        ne := fun h h' => F.ne (((on_set h0 _).1 h).resolve_left (by decide)) (((on_set h0 _).1 h').resolve_left (by decide)),
        d4_3 := fun h => (on_set h0 _).2 (Or.inr (F.d4_3 (((on_set h0 _).1 h).resolve_left (by decide)))),
        d5_3 := fun h => (on_set h0 _).2 (Or.inr (F.d5_3 (((on_set h0 _).1 h).resolve_left (by decide)))),
        d6_5 := fun h => (on_set h0 _).2 (Or.inr (F.d6_5 (((on_set h0 _).1 h).resolve_left (by decide)))),
        d16_5 := fun h => (on_set h0 _).2 (Or.inr (F.d16_5 (((on_set h0 _).1 h).resolve_left (by decide)))),
        d10_9 := fun h => (on_set h0 _).2 (Or.inr (F.d10_9 (((on_set h0 _).1 h).resolve_left (by decide)))),
        d12_9 := fun h => (on_set h0 _).2 (Or.inr (F.d12_9 (((on_set h0 _).1 h).resolve_left (by decide)))),
        d13_12 := fun h => (on_set h0 _).2 (Or.inr (F.d13_12 (((on_set h0 _).1 h).resolve_left (by decide)))),
        d17_12 := fun _ => (on_set h0 _).2 (Or.inr h12),
        d16_14 := fun h => (on_set h0 _).2 (Or.inr (F.d16_14 (((on_set h0 _).1 h).resolve_left (by decide)))),
        d17_15 := fun _ => (on_set h0 _).2 (Or.inr h15) }
end Go.Proofs.YtbmdadhbkdkgmaaDoor.P
namespace Go.Proofs.YtbmdadhbkdkgmaaDoor.P
open Go.RowKit
open L (Str isName prt size_len below_2 below_box ret_bool ret_int ret_string bytes_eq append_list Own8)
open A
/-- three cells are written -/
def set3 (w : World) (g : Nat) (a b c : Value) : World := ((w.setCell ⟨g, 0, none⟩ a).setCell ⟨g, 1, none⟩ b).setCell ⟨g, 2, none⟩ c
theorem bx_keep3 {w : World} {g g' : Nat} {cs : Array Value} {t : TypeId} {a b c : Value} (h : Bx w g' cs t) (hne : g' ≠ g) : Bx (set3 w g a b c) g' cs t :=
  ((h.keep (Below.heap_setCell _ _ _ _ hne)).keep (Below.heap_setCell _ _ _ _ hne)).keep (Below.heap_setCell _ _ _ _ hne)
theorem bx_set3 {w : World} {g : Nat} {x y z : Value} {t : TypeId} {a b c : Value} (h : Bx w g #[x, y, z] t) : Bx (set3 w g a b c) g #[a, b, c] t := by
  have h4 := ((h.set 0 (u := a)).set 1 (u := b)).set 2 (u := c)
  unfold set3
  simpa using h4
theorem below_set3 {B : Nat} {w w' : World} {g : Nat} {a b c : Value} (h : Below B w w') (hg : B ≤ g) : Below B w (set3 w' g a b c) :=
  ((h.setCell (p := ⟨g, 0, none⟩) hg a).setCell (p := ⟨g, 1, none⟩) hg b).setCell (p := ⟨g, 2, none⟩) hg c
/-- what holds while the region runs -/
structure I5 (W : World) (l : Array Bool) (w : World) (v9 v41 v42 v43 v44 v45 v46 v47 v48 v49 v50 v51 v52 v53 : Value) : Prop where
  bel : Below W.heap.size W w
  f0 : On l 0 → v41 = .agg #[.string ⟨#[107]⟩, .int .i64 2]
  f1 : On l 1 → v42 = .agg #[.string ⟨#[110]⟩, .int .i64 1]
  f2 : On l 2 → ∃ g, v43 = .slice (some ⟨g, 0, none⟩) 2 2 ∧ Bx w g #[.string ⟨#[107]⟩, .int .i64 2, .string ⟨#[110]⟩, .int .i64 1] 59
  f3 : On l 3 → v44 = .agg #[.int .i64 3, .int .i64 0, .string ⟨#[107]⟩, .slice none 0 0]
  f4 : On l 4 → v45 = .agg #[.int .i64 3, .int .i64 0, .string ⟨#[107]⟩, .slice none 0 0]
  f5 : On l 5 → ∃ g, v46 = .slice (some ⟨g, 0, none⟩) 1 1 ∧ Bx w g #[.int .i64 3, .int .i64 0, .string ⟨#[107]⟩, .slice none 0 0] 28
  f6 : On l 6 → v47 = .agg #[.int .i64 22, .int .i64 0, .string ⟨#[]⟩, v46]
  f7 : On l 7 → v48 = .agg #[.int .i64 3, .int .i64 0, .string ⟨#[110]⟩, .slice none 0 0]
  f8 : On l 8 → ∃ g, v49 = .slice (some ⟨g, 0, none⟩) 2 2 ∧ Bx w g #[.int .i64 22, .int .i64 0, .string ⟨#[]⟩, v46, .int .i64 3, .int .i64 0, .string ⟨#[110]⟩, .slice none 0 0] 28
  f9 : On l 9 → v50 = .agg #[.int .i64 4, .int .i64 0, .string ⟨#[]⟩, v49]
  f10 : On l 10 → v51 = .agg #[.int .i64 3, .string ⟨#[]⟩, .int .i64 0, .int .i64 3, .int .i64 0, .string ⟨#[107]⟩, .slice none 0 0, .int .i64 4, .int .i64 0, .string ⟨#[]⟩, v49, .slice none 0 0, .slice none 0 0]
  f11 : On l 11 → ∃ g, v52 = .slice (some ⟨g, 0, none⟩) 1 1 ∧ Bx w g #[.int .i64 3, .string ⟨#[]⟩, .int .i64 0, .int .i64 3, .int .i64 0, .string ⟨#[107]⟩, .slice none 0 0, .int .i64 4, .int .i64 0, .string ⟨#[]⟩, v49, .slice none 0 0, .slice none 0 0] 35
  f12 : On l 12 → v53 = .agg #[.string ⟨#[97, 100, 100]⟩, v43, v52]
  f13 : On l 13 → ∃ g, v9 = .pointer (some ⟨g, 0, none⟩) ∧ W.heap.size ≤ g ∧ (¬ On l 14 → Bx w g #[.string ⟨#[]⟩, .slice none 0 0, .slice none 0 0] 25) ∧ (On l 14 → Bx w g #[.string ⟨#[97, 100, 100]⟩, v43, v52] 25)
  d6_5 : On l 6 → On l 5
  d8_5 : On l 8 → On l 5
  d9_8 : On l 9 → On l 8
  d10_8 : On l 10 → On l 8
  d11_8 : On l 11 → On l 8
  d12_2 : On l 12 → On l 2
  d12_11 : On l 12 → On l 11
  d14_2 : On l 14 → On l 2
  d14_11 : On l 14 → On l 11
  d14_13 : On l 14 → On l 13
theorem I5.s0 {W : World} {l : Array Bool} {w : World} {v9 v41 v42 v43 v44 v45 v46 v47 v48 v49 v50 v51 v52 v53 : Value} (F : I5 W l w v9 v41 v42 v43 v44 v45 v46 v47 v48 v49 v50 v51 v52 v53) (h0 : l.getD 0 true = false)  : I5 W (l.setIfInBounds 0 true) w v9 (.agg #[.string ⟨#[107]⟩, .int .i64 2]) v42 v43 v44 v45 v46 v47 v48 v49 v50 v51 v52 v53 :=
  { bel := F.bel,
        f0 := fun _ => rfl,
        f1 := old_on h0 (by decide) F.f1,
        f2 := old_on h0 (by decide) F.f2,
        f3 := old_on h0 (by decide) F.f3,
        f4 := old_on h0 (by decide) F.f4,
        f5 := old_on h0 (by decide) F.f5,
        f6 := old_on h0 (by decide) F.f6,
        f7 := old_on h0 (by decide) F.f7,
        f8 := old_on h0 (by decide) F.f8,
        f9 := old_on h0 (by decide) F.f9,
        f10 := old_on h0 (by decide) F.f10,
        f11 := old_on h0 (by decide) F.f11,
        f12 := old_on h0 (by decide) F.f12,
        f13 := old_on h0 (by decide) (fun h => let ⟨g, e, hz, hx, hy⟩ := F.f13 h; ⟨g, e, hz, fun n => hx (fun x => n ((on_set h0 _).2 (Or.inr x))), fun y => hy (((on_set h0 _).1 y).resolve_left (by decide))⟩),
        d6_5 := fun h => (on_set h0 _).2 (Or.inr (F.d6_5 (((on_set h0 _).1 h).resolve_left (by decide)))),
        d8_5 := fun h => (on_set h0 _).2 (Or.inr (F.d8_5 (((on_set h0 _).1 h).resolve_left (by decide)))),
        d9_8 := fun h => (on_set h0 _).2 (Or.inr (F.d9_8 (((on_set h0 _).1 h).resolve_left (by decide)))),
        d10_8 := fun h => (on_set h0 _).2 (Or.inr (F.d10_8 (((on_set h0 _).1 h).resolve_left (by decide)))),
        d11_8 := fun h => (on_set h0 _).2 (Or.inr (F.d11_8 (((on_set h0 _).1 h).resolve_left (by decide)))),
        d12_2 := fun h => (on_set h0 _).2 (Or.inr (F.d12_2 (((on_set h0 _).1 h).resolve_left (by decide)))),
        d12_11 := fun h => (on_set h0 _).2 (Or.inr (F.d12_11 (((on_set h0 _).1 h).resolve_left (by decide)))),
        d14_2 := fun h => (on_set h0 _).2 (Or.inr (F.d14_2 (((on_set h0 _).1 h).resolve_left (by decide)))),
        d14_11 := fun h => (on_set h0 _).2 (Or.inr (F.d14_11 (((on_set h0 _).1 h).resolve_left (by decide)))),
        d14_13 := fun h => (on_set h0 _).2 (Or.inr (F.d14_13 (((on_set h0 _).1 h).resolve_left (by decide)))) }
theorem I5.s1 {W : World} {l : Array Bool} {w : World} {v9 v41 v42 v43 v44 v45 v46 v47 v48 v49 v50 v51 v52 v53 : Value} (F : I5 W l w v9 v41 v42 v43 v44 v45 v46 v47 v48 v49 v50 v51 v52 v53) (h0 : l.getD 1 true = false)  : I5 W (l.setIfInBounds 1 true) w v9 v41 (.agg #[.string ⟨#[110]⟩, .int .i64 1]) v43 v44 v45 v46 v47 v48 v49 v50 v51 v52 v53 :=
  { bel := F.bel,
        f0 := old_on h0 (by decide) F.f0,
        f1 := fun _ => rfl,
        f2 := old_on h0 (by decide) F.f2,
        f3 := old_on h0 (by decide) F.f3,
        f4 := old_on h0 (by decide) F.f4,
        f5 := old_on h0 (by decide) F.f5,
        f6 := old_on h0 (by decide) F.f6,
        f7 := old_on h0 (by decide) F.f7,
        f8 := old_on h0 (by decide) F.f8,
        f9 := old_on h0 (by decide) F.f9,
        f10 := old_on h0 (by decide) F.f10,
        f11 := old_on h0 (by decide) F.f11,
        f12 := old_on h0 (by decide) F.f12,
        f13 := old_on h0 (by decide) (fun h => let ⟨g, e, hz, hx, hy⟩ := F.f13 h; ⟨g, e, hz, fun n => hx (fun x => n ((on_set h0 _).2 (Or.inr x))), fun y => hy (((on_set h0 _).1 y).resolve_left (by decide))⟩),
        d6_5 := fun h => (on_set h0 _).2 (Or.inr (F.d6_5 (((on_set h0 _).1 h).resolve_left (by decide)))),
        d8_5 := fun h => (on_set h0 _).2 (Or.inr (F.d8_5 (((on_set h0 _).1 h).resolve_left (by decide)))),
        d9_8 := fun h => (on_set h0 _).2 (Or.inr (F.d9_8 (((on_set h0 _).1 h).resolve_left (by decide)))),
        d10_8 := fun h => (on_set h0 _).2 (Or.inr (F.d10_8 (((on_set h0 _).1 h).resolve_left (by decide)))),
        d11_8 := fun h => (on_set h0 _).2 (Or.inr (F.d11_8 (((on_set h0 _).1 h).resolve_left (by decide)))),
        d12_2 := fun h => (on_set h0 _).2 (Or.inr (F.d12_2 (((on_set h0 _).1 h).resolve_left (by decide)))),
        d12_11 := fun h => (on_set h0 _).2 (Or.inr (F.d12_11 (((on_set h0 _).1 h).resolve_left (by decide)))),
        d14_2 := fun h => (on_set h0 _).2 (Or.inr (F.d14_2 (((on_set h0 _).1 h).resolve_left (by decide)))),
        d14_11 := fun h => (on_set h0 _).2 (Or.inr (F.d14_11 (((on_set h0 _).1 h).resolve_left (by decide)))),
        d14_13 := fun h => (on_set h0 _).2 (Or.inr (F.d14_13 (((on_set h0 _).1 h).resolve_left (by decide)))) }
theorem I5.s2 {W : World} {l : Array Bool} {w : World} {v9 v41 v42 v43 v44 v45 v46 v47 v48 v49 v50 v51 v52 v53 : Value} (F : I5 W l w v9 v41 v42 v43 v44 v45 v46 v47 v48 v49 v50 v51 v52 v53) (h0 : l.getD 2 true = false)  : I5 W (l.setIfInBounds 2 true) (w.alloc (.cells #[.string ⟨#[107]⟩, .int .i64 2, .string ⟨#[110]⟩, .int .i64 1] 59)) v9 v41 v42 (.slice (some ⟨w.heap.size, 0, none⟩) 2 2) v44 v45 v46 v47 v48 v49 v50 v51 v52 v53 :=
  have hb := below_box w (.cells #[.string ⟨#[107]⟩, .int .i64 2, .string ⟨#[110]⟩, .int .i64 1] 59)
  { bel := F.bel.trans (hb.mono F.bel.size),
        f0 := old_on h0 (by decide) F.f0,
        f1 := old_on h0 (by decide) F.f1,
        f2 := fun _ => ⟨_, rfl, Bx.new _ _ _⟩,
        f3 := old_on h0 (by decide) F.f3,
        f4 := old_on h0 (by decide) F.f4,
        f5 := old_on h0 (by decide) (fun h => let ⟨g, e, hx⟩ := F.f5 h; ⟨g, e, hx.below hb⟩),
        f6 := old_on h0 (by decide) F.f6,
        f7 := old_on h0 (by decide) F.f7,
        f8 := old_on h0 (by decide) (fun h => let ⟨g, e, hx⟩ := F.f8 h; ⟨g, e, hx.below hb⟩),
        f9 := old_on h0 (by decide) F.f9,
        f10 := old_on h0 (by decide) F.f10,
        f11 := old_on h0 (by decide) (fun h => let ⟨g, e, hx⟩ := F.f11 h; ⟨g, e, hx.below hb⟩),
        f12 := fun h => absurd (F.d12_2 (((on_set h0 _).1 h).resolve_left (by decide))) (off_of h0),
        f13 := old_on h0 (by decide) (fun h => let ⟨g, e, hz, hx, hy⟩ := F.f13 h; ⟨g, e, hz, fun n => (hx (fun x => n ((on_set h0 _).2 (Or.inr x)))).below hb, fun y => absurd (F.d14_2 (((on_set h0 _).1 y).resolve_left (by decide))) (off_of h0)⟩),
        d6_5 := fun h => (on_set h0 _).2 (Or.inr (F.d6_5 (((on_set h0 _).1 h).resolve_left (by decide)))),
        d8_5 := fun h => (on_set h0 _).2 (Or.inr (F.d8_5 (((on_set h0 _).1 h).resolve_left (by decide)))),
        d9_8 := fun h => (on_set h0 _).2 (Or.inr (F.d9_8 (((on_set h0 _).1 h).resolve_left (by decide)))),
        d10_8 := fun h => (on_set h0 _).2 (Or.inr (F.d10_8 (((on_set h0 _).1 h).resolve_left (by decide)))),
        d11_8 := fun h => (on_set h0 _).2 (Or.inr (F.d11_8 (((on_set h0 _).1 h).resolve_left (by decide)))),
        d12_2 := fun _ => (on_set h0 _).2 (Or.inl rfl),
        d12_11 := fun h => (on_set h0 _).2 (Or.inr (F.d12_11 (((on_set h0 _).1 h).resolve_left (by decide)))),
        d14_2 := fun _ => (on_set h0 _).2 (Or.inl rfl),
        d14_11 := fun h => (on_set h0 _).2 (Or.inr (F.d14_11 (((on_set h0 _).1 h).resolve_left (by decide)))),
        d14_13 := fun h => (on_set h0 _).2 (Or.inr (F.d14_13 (((on_set h0 _).1 h).resolve_left (by decide)))) }
theorem I5.s3 {W : World} {l : Array Bool} {w : World} {v9 v41 v42 v43 v44 v45 v46 v47 v48 v49 v50 v51 v52 v53 : Value} (F : I5 W l w v9 v41 v42 v43 v44 v45 v46 v47 v48 v49 v50 v51 v52 v53) (h0 : l.getD 3 true = false)  : I5 W (l.setIfInBounds 3 true) w v9 v41 v42 v43 (.agg #[.int .i64 3, .int .i64 0, .string ⟨#[107]⟩, .slice none 0 0]) v45 v46 v47 v48 v49 v50 v51 v52 v53 :=
  { bel := F.bel,
        f0 := old_on h0 (by decide) F.f0,
        f1 := old_on h0 (by decide) F.f1,
        f2 := old_on h0 (by decide) F.f2,
        f3 := fun _ => rfl,
        f4 := old_on h0 (by decide) F.f4,
        f5 := old_on h0 (by decide) F.f5,
        f6 := old_on h0 (by decide) F.f6,
        f7 := old_on h0 (by decide) F.f7,
        f8 := old_on h0 (by decide) F.f8,
        f9 := old_on h0 (by decide) F.f9,
        f10 := old_on h0 (by decide) F.f10,
        f11 := old_on h0 (by decide) F.f11,
        f12 := old_on h0 (by decide) F.f12,
        f13 := old_on h0 (by decide) (fun h => let ⟨g, e, hz, hx, hy⟩ := F.f13 h; ⟨g, e, hz, fun n => hx (fun x => n ((on_set h0 _).2 (Or.inr x))), fun y => hy (((on_set h0 _).1 y).resolve_left (by decide))⟩),
        d6_5 := fun h => (on_set h0 _).2 (Or.inr (F.d6_5 (((on_set h0 _).1 h).resolve_left (by decide)))),
        d8_5 := fun h => (on_set h0 _).2 (Or.inr (F.d8_5 (((on_set h0 _).1 h).resolve_left (by decide)))),
        d9_8 := fun h => (on_set h0 _).2 (Or.inr (F.d9_8 (((on_set h0 _).1 h).resolve_left (by decide)))),
        d10_8 := fun h => (on_set h0 _).2 (Or.inr (F.d10_8 (((on_set h0 _).1 h).resolve_left (by decide)))),
        d11_8 := fun h => (on_set h0 _).2 (Or.inr (F.d11_8 (((on_set h0 _).1 h).resolve_left (by decide)))),
        d12_2 := fun h => (on_set h0 _).2 (Or.inr (F.d12_2 (((on_set h0 _).1 h).resolve_left (by decide)))),
        d12_11 := fun h => (on_set h0 _).2 (Or.inr (F.d12_11 (((on_set h0 _).1 h).resolve_left (by decide)))),
        d14_2 := fun h => (on_set h0 _).2 (Or.inr (F.d14_2 (((on_set h0 _).1 h).resolve_left (by decide)))),
        d14_11 := fun h => (on_set h0 _).2 (Or.inr (F.d14_11 (((on_set h0 _).1 h).resolve_left (by decide)))),
        d14_13 := fun h => (on_set h0 _).2 (Or.inr (F.d14_13 (((on_set h0 _).1 h).resolve_left (by decide)))) }
theorem I5.s4 {W : World} {l : Array Bool} {w : World} {v9 v41 v42 v43 v44 v45 v46 v47 v48 v49 v50 v51 v52 v53 : Value} (F : I5 W l w v9 v41 v42 v43 v44 v45 v46 v47 v48 v49 v50 v51 v52 v53) (h0 : l.getD 4 true = false)  : I5 W (l.setIfInBounds 4 true) w v9 v41 v42 v43 v44 (.agg #[.int .i64 3, .int .i64 0, .string ⟨#[107]⟩, .slice none 0 0]) v46 v47 v48 v49 v50 v51 v52 v53 :=
  { bel := F.bel,
        f0 := old_on h0 (by decide) F.f0,
        f1 := old_on h0 (by decide) F.f1,
        f2 := old_on h0 (by decide) F.f2,
        f3 := old_on h0 (by decide) F.f3,
        f4 := fun _ => rfl,
        f5 := old_on h0 (by decide) F.f5,
        f6 := old_on h0 (by decide) F.f6,
        f7 := old_on h0 (by decide) F.f7,
        f8 := old_on h0 (by decide) F.f8,
        f9 := old_on h0 (by decide) F.f9,
        f10 := old_on h0 (by decide) F.f10,
        f11 := old_on h0 (by decide) F.f11,
        f12 := old_on h0 (by decide) F.f12,
        f13 := old_on h0 (by decide) (fun h => let ⟨g, e, hz, hx, hy⟩ := F.f13 h; ⟨g, e, hz, fun n => hx (fun x => n ((on_set h0 _).2 (Or.inr x))), fun y => hy (((on_set h0 _).1 y).resolve_left (by decide))⟩),
        d6_5 := fun h => (on_set h0 _).2 (Or.inr (F.d6_5 (((on_set h0 _).1 h).resolve_left (by decide)))),
        d8_5 := fun h => (on_set h0 _).2 (Or.inr (F.d8_5 (((on_set h0 _).1 h).resolve_left (by decide)))),
        d9_8 := fun h => (on_set h0 _).2 (Or.inr (F.d9_8 (((on_set h0 _).1 h).resolve_left (by decide)))),
        d10_8 := fun h => (on_set h0 _).2 (Or.inr (F.d10_8 (((on_set h0 _).1 h).resolve_left (by decide)))),
        d11_8 := fun h => (on_set h0 _).2 (Or.inr (F.d11_8 (((on_set h0 _).1 h).resolve_left (by decide)))),
        d12_2 := fun h => (on_set h0 _).2 (Or.inr (F.d12_2 (((on_set h0 _).1 h).resolve_left (by decide)))),
        d12_11 := fun h => (on_set h0 _).2 (Or.inr (F.d12_11 (((on_set h0 _).1 h).resolve_left (by decide)))),
        d14_2 := fun h => (on_set h0 _).2 (Or.inr (F.d14_2 (((on_set h0 _).1 h).resolve_left (by decide)))),
        d14_11 := fun h => (on_set h0 _).2 (Or.inr (F.d14_11 (((on_set h0 _).1 h).resolve_left (by decide)))),
        d14_13 := fun h => (on_set h0 _).2 (Or.inr (F.d14_13 (((on_set h0 _).1 h).resolve_left (by decide)))) }
theorem I5.s5 {W : World} {l : Array Bool} {w : World} {v9 v41 v42 v43 v44 v45 v46 v47 v48 v49 v50 v51 v52 v53 : Value} (F : I5 W l w v9 v41 v42 v43 v44 v45 v46 v47 v48 v49 v50 v51 v52 v53) (h0 : l.getD 5 true = false)  : I5 W (l.setIfInBounds 5 true) (w.alloc (.cells #[.int .i64 3, .int .i64 0, .string ⟨#[107]⟩, .slice none 0 0] 28)) v9 v41 v42 v43 v44 v45 (.slice (some ⟨w.heap.size, 0, none⟩) 1 1) v47 v48 v49 v50 v51 v52 v53 :=
  have hb := below_box w (.cells #[.int .i64 3, .int .i64 0, .string ⟨#[107]⟩, .slice none 0 0] 28)
  { bel := F.bel.trans (hb.mono F.bel.size),
        f0 := old_on h0 (by decide) F.f0,
        f1 := old_on h0 (by decide) F.f1,
        f2 := old_on h0 (by decide) (fun h => let ⟨g, e, hx⟩ := F.f2 h; ⟨g, e, hx.below hb⟩),
        f3 := old_on h0 (by decide) F.f3,
        f4 := old_on h0 (by decide) F.f4,
        f5 := fun _ => ⟨_, rfl, Bx.new _ _ _⟩,
        f6 := fun h => absurd (F.d6_5 (((on_set h0 _).1 h).resolve_left (by decide))) (off_of h0),
        f7 := old_on h0 (by decide) F.f7,
        f8 := fun h => absurd (F.d8_5 (((on_set h0 _).1 h).resolve_left (by decide))) (off_of h0),
        f9 := old_on h0 (by decide) F.f9,
        f10 := old_on h0 (by decide) F.f10,
        f11 := old_on h0 (by decide) (fun h => let ⟨g, e, hx⟩ := F.f11 h; ⟨g, e, hx.below hb⟩),
        f12 := old_on h0 (by decide) F.f12,
        f13 := old_on h0 (by decide) (fun h => let ⟨g, e, hz, hx, hy⟩ := F.f13 h; ⟨g, e, hz, fun n => (hx (fun x => n ((on_set h0 _).2 (Or.inr x)))).below hb, fun y => (hy (((on_set h0 _).1 y).resolve_left (by decide))).below hb⟩),
        d6_5 := fun _ => (on_set h0 _).2 (Or.inl rfl),
        d8_5 := fun _ => (on_set h0 _).2 (Or.inl rfl),
        d9_8 := fun h => (on_set h0 _).2 (Or.inr (F.d9_8 (((on_set h0 _).1 h).resolve_left (by decide)))),
        d10_8 := fun h => (on_set h0 _).2 (Or.inr (F.d10_8 (((on_set h0 _).1 h).resolve_left (by decide)))),
        d11_8 := fun h => (on_set h0 _).2 (Or.inr (F.d11_8 (((on_set h0 _).1 h).resolve_left (by decide)))),
        d12_2 := fun h => (on_set h0 _).2 (Or.inr (F.d12_2 (((on_set h0 _).1 h).resolve_left (by decide)))),
        d12_11 := fun h => (on_set h0 _).2 (Or.inr (F.d12_11 (((on_set h0 _).1 h).resolve_left (by decide)))),
        d14_2 := fun h => (on_set h0 _).2 (Or.inr (F.d14_2 (((on_set h0 _).1 h).resolve_left (by decide)))),
        d14_11 := fun h => (on_set h0 _).2 (Or.inr (F.d14_11 (((on_set h0 _).1 h).resolve_left (by decide)))),
        d14_13 := fun h => (on_set h0 _).2 (Or.inr (F.d14_13 (((on_set h0 _).1 h).resolve_left (by decide)))) }
theorem I5.s6 {W : World} {l : Array Bool} {w : World} {v9 v41 v42 v43 v44 v45 v46 v47 v48 v49 v50 v51 v52 v53 : Value} (F : I5 W l w v9 v41 v42 v43 v44 v45 v46 v47 v48 v49 v50 v51 v52 v53) {w2 : World} (h0 : l.getD 6 true = false) (hb : Below w.heap.size w w2) (h5 : On l 5) : I5 W (l.setIfInBounds 6 true) w2 v9 v41 v42 v43 v44 v45 v46 (.agg #[.int .i64 22, .int .i64 0, .string ⟨#[]⟩, v46]) v48 v49 v50 v51 v52 v53 :=
  { bel := F.bel.trans (hb.mono F.bel.size),
        f0 := old_on h0 (by decide) F.f0,
        f1 := old_on h0 (by decide) F.f1,
        f2 := old_on h0 (by decide) (fun h => let ⟨g, e, hx⟩ := F.f2 h; ⟨g, e, hx.below hb⟩),
        f3 := old_on h0 (by decide) F.f3,
        f4 := old_on h0 (by decide) F.f4,
        f5 := old_on h0 (by decide) (fun h => let ⟨g, e, hx⟩ := F.f5 h; ⟨g, e, hx.below hb⟩),
        f6 := fun _ => rfl,
        f7 := old_on h0 (by decide) F.f7,
        f8 := old_on h0 (by decide) (fun h => let ⟨g, e, hx⟩ := F.f8 h; ⟨g, e, hx.below hb⟩),
        f9 := old_on h0 (by decide) F.f9,
        f10 := old_on h0 (by decide) F.f10,
        f11 := old_on h0 (by decide) (fun h => let ⟨g, e, hx⟩ := F.f11 h; ⟨g, e, hx.below hb⟩),
        f12 := old_on h0 (by decide) F.f12,
        f13 := old_on h0 (by decide) (fun h => let ⟨g, e, hz, hx, hy⟩ := F.f13 h; ⟨g, e, hz, fun n => (hx (fun x => n ((on_set h0 _).2 (Or.inr x)))).below hb, fun y => (hy (((on_set h0 _).1 y).resolve_left (by decide))).below hb⟩),
        d6_5 := fun _ => (on_set h0 _).2 (Or.inr h5),
        d8_5 := fun h => (on_set h0 _).2 (Or.inr (F.d8_5 (((on_set h0 _).1 h).resolve_left (by decide)))),
        d9_8 := fun h => (on_set h0 _).2 (Or.inr (F.d9_8 (((on_set h0 _).1 h).resolve_left (by decide)))),
        d10_8 := fun h => (on_set h0 _).2 (Or.inr (F.d10_8 (((on_set h0 _).1 h).resolve_left (by decide)))),
        d11_8 := fun h => (on_set h0 _).2 (Or.inr (F.d11_8 (((on_set h0 _).1 h).resolve_left (by decide)))),
        d12_2 := fun h => (on_set h0 _).2 (Or.inr (F.d12_2 (((on_set h0 _).1 h).resolve_left (by decide)))),
        d12_11 := fun h => (on_set h0 _).2 (Or.inr (F.d12_11 (((on_set h0 _).1 h).resolve_left (by decide)))),
        d14_2 := fun h => (on_set h0 _).2 (Or.inr (F.d14_2 (((on_set h0 _).1 h).resolve_left (by decide)))),
        d14_11 := fun h => (on_set h0 _).2 (Or.inr (F.d14_11 (((on_set h0 _).1 h).resolve_left (by decide)))),
        d14_13 := fun h => (on_set h0 _).2 (Or.inr (F.d14_13 (((on_set h0 _).1 h).resolve_left (by decide)))) }
theorem I5.s7 {W : World} {l : Array Bool} {w : World} {v9 v41 v42 v43 v44 v45 v46 v47 v48 v49 v50 v51 v52 v53 : Value} (F : I5 W l w v9 v41 v42 v43 v44 v45 v46 v47 v48 v49 v50 v51 v52 v53) (h0 : l.getD 7 true = false)  : I5 W (l.setIfInBounds 7 true) w v9 v41 v42 v43 v44 v45 v46 v47 (.agg #[.int .i64 3, .int .i64 0, .string ⟨#[110]⟩, .slice none 0 0]) v49 v50 v51 v52 v53 :=
  { bel := F.bel,
        f0 := old_on h0 (by decide) F.f0,
        f1 := old_on h0 (by decide) F.f1,
        f2 := old_on h0 (by decide) F.f2,
        f3 := old_on h0 (by decide) F.f3,
        f4 := old_on h0 (by decide) F.f4,
        f5 := old_on h0 (by decide) F.f5,
        f6 := old_on h0 (by decide) F.f6,
        f7 := fun _ => rfl,
        f8 := old_on h0 (by decide) F.f8,
        f9 := old_on h0 (by decide) F.f9,
        f10 := old_on h0 (by decide) F.f10,
        f11 := old_on h0 (by decide) F.f11,
        f12 := old_on h0 (by decide) F.f12,
        f13 := old_on h0 (by decide) (fun h => let ⟨g, e, hz, hx, hy⟩ := F.f13 h; ⟨g, e, hz, fun n => hx (fun x => n ((on_set h0 _).2 (Or.inr x))), fun y => hy (((on_set h0 _).1 y).resolve_left (by decide))⟩),
        d6_5 := fun h => (on_set h0 _).2 (Or.inr (F.d6_5 (((on_set h0 _).1 h).resolve_left (by decide)))),
        d8_5 := fun h => (on_set h0 _).2 (Or.inr (F.d8_5 (((on_set h0 _).1 h).resolve_left (by decide)))),
        d9_8 := fun h => (on_set h0 _).2 (Or.inr (F.d9_8 (((on_set h0 _).1 h).resolve_left (by decide)))),
        d10_8 := fun h => (on_set h0 _).2 (Or.inr (F.d10_8 (((on_set h0 _).1 h).resolve_left (by decide)))),
        d11_8 := fun h => (on_set h0 _).2 (Or.inr (F.d11_8 (((on_set h0 _).1 h).resolve_left (by decide)))),
        d12_2 := fun h => (on_set h0 _).2 (Or.inr (F.d12_2 (((on_set h0 _).1 h).resolve_left (by decide)))),
        d12_11 := fun h => (on_set h0 _).2 (Or.inr (F.d12_11 (((on_set h0 _).1 h).resolve_left (by decide)))),
        d14_2 := fun h => (on_set h0 _).2 (Or.inr (F.d14_2 (((on_set h0 _).1 h).resolve_left (by decide)))),
        d14_11 := fun h => (on_set h0 _).2 (Or.inr (F.d14_11 (((on_set h0 _).1 h).resolve_left (by decide)))),
        d14_13 := fun h => (on_set h0 _).2 (Or.inr (F.d14_13 (((on_set h0 _).1 h).resolve_left (by decide)))) }
theorem I5.s8 {W : World} {l : Array Bool} {w : World} {v9 v41 v42 v43 v44 v45 v46 v47 v48 v49 v50 v51 v52 v53 : Value} (F : I5 W l w v9 v41 v42 v43 v44 v45 v46 v47 v48 v49 v50 v51 v52 v53) (h0 : l.getD 8 true = false) (h5 : On l 5) : I5 W (l.setIfInBounds 8 true) (w.alloc (.cells #[.int .i64 22, .int .i64 0, .string ⟨#[]⟩, v46, .int .i64 3, .int .i64 0, .string ⟨#[110]⟩, .slice none 0 0] 28)) v9 v41 v42 v43 v44 v45 v46 v47 v48 (.slice (some ⟨w.heap.size, 0, none⟩) 2 2) v50 v51 v52 v53 :=
  have hb := below_box w (.cells #[.int .i64 22, .int .i64 0, .string ⟨#[]⟩, v46, .int .i64 3, .int .i64 0, .string ⟨#[110]⟩, .slice none 0 0] 28)
  { bel := F.bel.trans (hb.mono F.bel.size),
        f0 := old_on h0 (by decide) F.f0,
        f1 := old_on h0 (by decide) F.f1,
        f2 := old_on h0 (by decide) (fun h => let ⟨g, e, hx⟩ := F.f2 h; ⟨g, e, hx.below hb⟩),
        f3 := old_on h0 (by decide) F.f3,
        f4 := old_on h0 (by decide) F.f4,
        f5 := old_on h0 (by decide) (fun h => let ⟨g, e, hx⟩ := F.f5 h; ⟨g, e, hx.below hb⟩),
        f6 := old_on h0 (by decide) F.f6,
        f7 := old_on h0 (by decide) F.f7,
        f8 := fun _ => ⟨_, rfl, Bx.new _ _ _⟩,
        f9 := fun h => absurd (F.d9_8 (((on_set h0 _).1 h).resolve_left (by decide))) (off_of h0),
        f10 := fun h => absurd (F.d10_8 (((on_set h0 _).1 h).resolve_left (by decide))) (off_of h0),
        f11 := fun h => absurd (F.d11_8 (((on_set h0 _).1 h).resolve_left (by decide))) (off_of h0),
        f12 := old_on h0 (by decide) F.f12,
        f13 := old_on h0 (by decide) (fun h => let ⟨g, e, hz, hx, hy⟩ := F.f13 h; ⟨g, e, hz, fun n => (hx (fun x => n ((on_set h0 _).2 (Or.inr x)))).below hb, fun y => (hy (((on_set h0 _).1 y).resolve_left (by decide))).below hb⟩),
        d6_5 := fun h => (on_set h0 _).2 (Or.inr (F.d6_5 (((on_set h0 _).1 h).resolve_left (by decide)))),
        d8_5 := fun _ => (on_set h0 _).2 (Or.inr h5),
        d9_8 := fun _ => (on_set h0 _).2 (Or.inl rfl),
        d10_8 := fun _ => (on_set h0 _).2 (Or.inl rfl),
        d11_8 := fun _ => (on_set h0 _).2 (Or.inl rfl),
        d12_2 := fun h => (on_set h0 _).2 (Or.inr (F.d12_2 (((on_set h0 _).1 h).resolve_left (by decide)))),
        d12_11 := fun h => (on_set h0 _).2 (Or.inr (F.d12_11 (((on_set h0 _).1 h).resolve_left (by decide)))),
        d14_2 := fun h => (on_set h0 _).2 (Or.inr (F.d14_2 (((on_set h0 _).1 h).resolve_left (by decide)))),
        d14_11 := fun h => (on_set h0 _).2 (Or.inr (F.d14_11 (((on_set h0 _).1 h).resolve_left (by decide)))),
        d14_13 := fun h => (on_set h0 _).2 (Or.inr (F.d14_13 (((on_set h0 _).1 h).resolve_left (by decide)))) }
theorem I5.s9 {W : World} {l : Array Bool} {w : World} {v9 v41 v42 v43 v44 v45 v46 v47 v48 v49 v50 v51 v52 v53 : Value} (F : I5 W l w v9 v41 v42 v43 v44 v45 v46 v47 v48 v49 v50 v51 v52 v53) {w2 : World} (h0 : l.getD 9 true = false) (hb : Below w.heap.size w w2) (h8 : On l 8) : I5 W (l.setIfInBounds 9 true) w2 v9 v41 v42 v43 v44 v45 v46 v47 v48 v49 (.agg #[.int .i64 4, .int .i64 0, .string ⟨#[]⟩, v49]) v51 v52 v53 :=
  { bel := F.bel.trans (hb.mono F.bel.size),
        f0 := old_on h0 (by decide) F.f0,
        f1 := old_on h0 (by decide) F.f1,
        f2 := old_on h0 (by decide) (fun h => let ⟨g, e, hx⟩ := F.f2 h; ⟨g, e, hx.below hb⟩),
        f3 := old_on h0 (by decide) F.f3,
        f4 := old_on h0 (by decide) F.f4,
        f5 := old_on h0 (by decide) (fun h => let ⟨g, e, hx⟩ := F.f5 h; ⟨g, e, hx.below hb⟩),
        f6 := old_on h0 (by decide) F.f6,
        f7 := old_on h0 (by decide) F.f7,
        f8 := old_on h0 (by decide) (fun h => let ⟨g, e, hx⟩ := F.f8 h; ⟨g, e, hx.below hb⟩),
        f9 := fun _ => rfl,
        f10 := old_on h0 (by decide) F.f10,
        f11 := old_on h0 (by decide) (fun h => let ⟨g, e, hx⟩ := F.f11 h; ⟨g, e, hx.below hb⟩),
        f12 := old_on h0 (by decide) F.f12,
        f13 := old_on h0 (by decide) (fun h => let ⟨g, e, hz, hx, hy⟩ := F.f13 h; ⟨g, e, hz, fun n => (hx (fun x => n ((on_set h0 _).2 (Or.inr x)))).below hb, fun y => (hy (((on_set h0 _).1 y).resolve_left (by decide))).below hb⟩),
        d6_5 := fun h => (on_set h0 _).2 (Or.inr (F.d6_5 (((on_set h0 _).1 h).resolve_left (by decide)))),
        d8_5 := fun h => (on_set h0 _).2 (Or.inr (F.d8_5 (((on_set h0 _).1 h).resolve_left (by decide)))),
        d9_8 := fun _ => (on_set h0 _).2 (Or.inr h8),
        d10_8 := fun h => (on_set h0 _).2 (Or.inr (F.d10_8 (((on_set h0 _).1 h).resolve_left (by decide)))),
        d11_8 := fun h => (on_set h0 _).2 (Or.inr (F.d11_8 (((on_set h0 _).1 h).resolve_left (by decide)))),
        d12_2 := fun h => (on_set h0 _).2 (Or.inr (F.d12_2 (((on_set h0 _).1 h).resolve_left (by decide)))),
        d12_11 := fun h => (on_set h0 _).2 (Or.inr (F.d12_11 (((on_set h0 _).1 h).resolve_left (by decide)))),
        d14_2 := fun h => (on_set h0 _).2 (Or.inr (F.d14_2 (((on_set h0 _).1 h).resolve_left (by decide)))),
        d14_11 := fun h => (on_set h0 _).2 (Or.inr (F.d14_11 (((on_set h0 _).1 h).resolve_left (by decide)))),
        d14_13 := fun h => (on_set h0 _).2 (Or.inr (F.d14_13 (((on_set h0 _).1 h).resolve_left (by decide)))) }
theorem I5.s10 {W : World} {l : Array Bool} {w : World} {v9 v41 v42 v43 v44 v45 v46 v47 v48 v49 v50 v51 v52 v53 : Value} (F : I5 W l w v9 v41 v42 v43 v44 v45 v46 v47 v48 v49 v50 v51 v52 v53) (h0 : l.getD 10 true = false) (h8 : On l 8) : I5 W (l.setIfInBounds 10 true) w v9 v41 v42 v43 v44 v45 v46 v47 v48 v49 v50 (.agg #[.int .i64 3, .string ⟨#[]⟩, .int .i64 0, .int .i64 3, .int .i64 0, .string ⟨#[107]⟩, .slice none 0 0, .int .i64 4, .int .i64 0, .string ⟨#[]⟩, v49, .slice none 0 0, .slice none 0 0]) v52 v53 :=
  { bel := F.bel,
        f0 := old_on h0 (by decide) F.f0,
        f1 := old_on h0 (by decide) F.f1,
        f2 := old_on h0 (by decide) F.f2,
        f3 := old_on h0 (by decide) F.f3,
        f4 := old_on h0 (by decide) F.f4,
        f5 := old_on h0 (by decide) F.f5,
        f6 := old_on h0 (by decide) F.f6,
        f7 := old_on h0 (by decide) F.f7,
        f8 := old_on h0 (by decide) F.f8,
        f9 := old_on h0 (by decide) F.f9,
        f10 := fun _ => rfl,
        f11 := old_on h0 (by decide) F.f11,
        f12 := old_on h0 (by decide) F.f12,
        f13 := old_on h0 (by decide) (fun h => let ⟨g, e, hz, hx, hy⟩ := F.f13 h; ⟨g, e, hz, fun n => hx (fun x => n ((on_set h0 _).2 (Or.inr x))), fun y => hy (((on_set h0 _).1 y).resolve_left (by decide))⟩),
        d6_5 := fun h => (on_set h0 _).2 (Or.inr (F.d6_5 (((on_set h0 _).1 h).resolve_left (by decide)))),
        d8_5 := fun h => (on_set h0 _).2 (Or.inr (F.d8_5 (((on_set h0 _).1 h).resolve_left (by decide)))),
        d9_8 := fun h => (on_set h0 _).2 (Or.inr (F.d9_8 (((on_set h0 _).1 h).resolve_left (by decide)))),
        d10_8 := fun _ => (on_set h0 _).2 (Or.inr h8),
        d11_8 := fun h => (on_set h0 _).2 (Or.inr (F.d11_8 (((on_set h0 _).1 h).resolve_left (by decide)))),
        d12_2 := fun h => (on_set h0 _).2 (Or.inr (F.d12_2 (((on_set h0 _).1 h).resolve_left (by decide)))),
        d12_11 := fun h => (on_set h0 _).2 (Or.inr (F.d12_11 (((on_set h0 _).1 h).resolve_left (by decide)))),
        d14_2 := fun h => (on_set h0 _).2 (Or.inr (F.d14_2 (((on_set h0 _).1 h).resolve_left (by decide)))),
        d14_11 := fun h => (on_set h0 _).2 (Or.inr (F.d14_11 (((on_set h0 _).1 h).resolve_left (by decide)))),
        d14_13 := fun h => (on_set h0 _).2 (Or.inr (F.d14_13 (((on_set h0 _).1 h).resolve_left (by decide)))) }
theorem I5.s11 {W : World} {l : Array Bool} {w : World} {v9 v41 v42 v43 v44 v45 v46 v47 v48 v49 v50 v51 v52 v53 : Value} (F : I5 W l w v9 v41 v42 v43 v44 v45 v46 v47 v48 v49 v50 v51 v52 v53) (h0 : l.getD 11 true = false) (h8 : On l 8) : I5 W (l.setIfInBounds 11 true) (w.alloc (.cells #[.int .i64 3, .string ⟨#[]⟩, .int .i64 0, .int .i64 3, .int .i64 0, .string ⟨#[107]⟩, .slice none 0 0, .int .i64 4, .int .i64 0, .string ⟨#[]⟩, v49, .slice none 0 0, .slice none 0 0] 35)) v9 v41 v42 v43 v44 v45 v46 v47 v48 v49 v50 v51 (.slice (some ⟨w.heap.size, 0, none⟩) 1 1) v53 :=
  have hb := below_box w (.cells #[.int .i64 3, .string ⟨#[]⟩, .int .i64 0, .int .i64 3, .int .i64 0, .string ⟨#[107]⟩, .slice none 0 0, .int .i64 4, .int .i64 0, .string ⟨#[]⟩, v49, .slice none 0 0, .slice none 0 0] 35)
  { bel := F.bel.trans (hb.mono F.bel.size),
        f0 := old_on h0 (by decide) F.f0,
        f1 := old_on h0 (by decide) F.f1,
        f2 := old_on h0 (by decide) (fun h => let ⟨g, e, hx⟩ := F.f2 h; ⟨g, e, hx.below hb⟩),
        f3 := old_on h0 (by decide) F.f3,
        f4 := old_on h0 (by decide) F.f4,
        f5 := old_on h0 (by decide) (fun h => let ⟨g, e, hx⟩ := F.f5 h; ⟨g, e, hx.below hb⟩),
        f6 := old_on h0 (by decide) F.f6,
        f7 := old_on h0 (by decide) F.f7,
        f8 := old_on h0 (by decide) (fun h => let ⟨g, e, hx⟩ := F.f8 h; ⟨g, e, hx.below hb⟩),
        f9 := old_on h0 (by decide) F.f9,
        f10 := old_on h0 (by decide) F.f10,
        f11 := fun _ => ⟨_, rfl, Bx.new _ _ _⟩,
        f12 := fun h => absurd (F.d12_11 (((on_set h0 _).1 h).resolve_left (by decide))) (off_of h0),
        f13 := old_on h0 (by decide) (fun h => let ⟨g, e, hz, hx, hy⟩ := F.f13 h; ⟨g, e, hz, fun n => (hx (fun x => n ((on_set h0 _).2 (Or.inr x)))).below hb, fun y => absurd (F.d14_11 (((on_set h0 _).1 y).resolve_left (by decide))) (off_of h0)⟩),
        d6_5 := fun h => (on_set h0 _).2 (Or.inr (F.d6_5 (((on_set h0 _).1 h).resolve_left (by decide)))),
        d8_5 := fun h => (on_set h0 _).2 (Or.inr (F.d8_5 (((on_set h0 _).1 h).resolve_left (by decide)))),
        d9_8 := fun h => (on_set h0 _).2 (Or.inr (F.d9_8 (((on_set h0 _).1 h).resolve_left (by decide)))),
        d10_8 := fun h => (on_set h0 _).2 (Or.inr (F.d10_8 (((on_set h0 _).1 h).resolve_left (by decide)))),
        d11_8 := fun _ => (on_set h0 _).2 (Or.inr h8),
        d12_2 := fun h => (on_set h0 _).2 (Or.inr (F.d12_2 (((on_set h0 _).1 h).resolve_left (by decide)))),
        d12_11 := fun _ => (on_set h0 _).2 (Or.inl rfl),
        d14_2 := fun h => (on_set h0 _).2 (Or.inr (F.d14_2 (((on_set h0 _).1 h).resolve_left (by decide)))),
        d14_11 := fun _ => (on_set h0 _).2 (Or.inl rfl),
        d14_13 := fun h => (on_set h0 _).2 (Or.inr (F.d14_13 (((on_set h0 _).1 h).resolve_left (by decide)))) }
theorem I5.s12 {W : World} {l : Array Bool} {w : World} {v9 v41 v42 v43 v44 v45 v46 v47 v48 v49 v50 v51 v52 v53 : Value} (F : I5 W l w v9 v41 v42 v43 v44 v45 v46 v47 v48 v49 v50 v51 v52 v53) (h0 : l.getD 12 true = false) (h2 : On l 2) (h11 : On l 11) : I5 W (l.setIfInBounds 12 true) w v9 v41 v42 v43 v44 v45 v46 v47 v48 v49 v50 v51 v52 (.agg #[.string ⟨#[97, 100, 100]⟩, v43, v52]) :=
  { bel := F.bel,
        f0 := old_on h0 (by decide) F.f0,
        f1 := old_on h0 (by decide) F.f1,
        f2 := old_on h0 (by decide) F.f2,
        f3 := old_on h0 (by decide) F.f3,
        f4 := old_on h0 (by decide) F.f4,
        f5 := old_on h0 (by decide) F.f5,
        f6 := old_on h0 (by decide) F.f6,
        f7 := old_on h0 (by decide) F.f7,
        f8 := old_on h0 (by decide) F.f8,
        f9 := old_on h0 (by decide) F.f9,
        f10 := old_on h0 (by decide) F.f10,
        f11 := old_on h0 (by decide) F.f11,
        f12 := fun _ => rfl,
        f13 := old_on h0 (by decide) (fun h => let ⟨g, e, hz, hx, hy⟩ := F.f13 h; ⟨g, e, hz, fun n => hx (fun x => n ((on_set h0 _).2 (Or.inr x))), fun y => hy (((on_set h0 _).1 y).resolve_left (by decide))⟩),
        d6_5 := fun h => (on_set h0 _).2 (Or.inr (F.d6_5 (((on_set h0 _).1 h).resolve_left (by decide)))),
        d8_5 := fun h => (on_set h0 _).2 (Or.inr (F.d8_5 (((on_set h0 _).1 h).resolve_left (by decide)))),
        d9_8 := fun h => (on_set h0 _).2 (Or.inr (F.d9_8 (((on_set h0 _).1 h).resolve_left (by decide)))),
        d10_8 := fun h => (on_set h0 _).2 (Or.inr (F.d10_8 (((on_set h0 _).1 h).resolve_left (by decide)))),
        d11_8 := fun h => (on_set h0 _).2 (Or.inr (F.d11_8 (((on_set h0 _).1 h).resolve_left (by decide)))),
        d12_2 := fun _ => (on_set h0 _).2 (Or.inr h2),
        d12_11 := fun _ => (on_set h0 _).2 (Or.inr h11),
        d14_2 := fun h => (on_set h0 _).2 (Or.inr (F.d14_2 (((on_set h0 _).1 h).resolve_left (by decide)))),
        d14_11 := fun h => (on_set h0 _).2 (Or.inr (F.d14_11 (((on_set h0 _).1 h).resolve_left (by decide)))),
        d14_13 := fun h => (on_set h0 _).2 (Or.inr (F.d14_13 (((on_set h0 _).1 h).resolve_left (by decide)))) }
theorem I5.s13 {W : World} {l : Array Bool} {w : World} {v9 v41 v42 v43 v44 v45 v46 v47 v48 v49 v50 v51 v52 v53 : Value} (F : I5 W l w v9 v41 v42 v43 v44 v45 v46 v47 v48 v49 v50 v51 v52 v53) (h0 : l.getD 13 true = false) : I5 W (l.setIfInBounds 13 true) (w.alloc (.cells #[.string ⟨#[]⟩, .slice none 0 0, .slice none 0 0] 25)) (.pointer (some ⟨w.heap.size, 0, none⟩)) v41 v42 v43 v44 v45 v46 v47 v48 v49 v50 v51 v52 v53 :=
  have hb := below_box w (.cells #[.string ⟨#[]⟩, .slice none 0 0, .slice none 0 0] 25)
  { bel := F.bel.trans (hb.mono F.bel.size),
        f0 := old_on h0 (by decide) F.f0,
        f1 := old_on h0 (by decide) F.f1,
        f2 := old_on h0 (by decide) (fun h => let ⟨g, e, hx⟩ := F.f2 h; ⟨g, e, hx.below hb⟩),
        f3 := old_on h0 (by decide) F.f3,
        f4 := old_on h0 (by decide) F.f4,
        f5 := old_on h0 (by decide) (fun h => let ⟨g, e, hx⟩ := F.f5 h; ⟨g, e, hx.below hb⟩),
        f6 := old_on h0 (by decide) F.f6,
        f7 := old_on h0 (by decide) F.f7,
        f8 := old_on h0 (by decide) (fun h => let ⟨g, e, hx⟩ := F.f8 h; ⟨g, e, hx.below hb⟩),
        f9 := old_on h0 (by decide) F.f9,
        f10 := old_on h0 (by decide) F.f10,
        f11 := old_on h0 (by decide) (fun h => let ⟨g, e, hx⟩ := F.f11 h; ⟨g, e, hx.below hb⟩),
        f12 := old_on h0 (by decide) F.f12,
        f13 := fun _ => ⟨_, rfl, F.bel.size, fun _ => Bx.new _ _ _, fun h => absurd (F.d14_13 (((on_set h0 _).1 h).resolve_left (by decide))) (off_of h0)⟩,
        d6_5 := fun h => (on_set h0 _).2 (Or.inr (F.d6_5 (((on_set h0 _).1 h).resolve_left (by decide)))),
        d8_5 := fun h => (on_set h0 _).2 (Or.inr (F.d8_5 (((on_set h0 _).1 h).resolve_left (by decide)))),
        d9_8 := fun h => (on_set h0 _).2 (Or.inr (F.d9_8 (((on_set h0 _).1 h).resolve_left (by decide)))),
        d10_8 := fun h => (on_set h0 _).2 (Or.inr (F.d10_8 (((on_set h0 _).1 h).resolve_left (by decide)))),
        d11_8 := fun h => (on_set h0 _).2 (Or.inr (F.d11_8 (((on_set h0 _).1 h).resolve_left (by decide)))),
        d12_2 := fun h => (on_set h0 _).2 (Or.inr (F.d12_2 (((on_set h0 _).1 h).resolve_left (by decide)))),
        d12_11 := fun h => (on_set h0 _).2 (Or.inr (F.d12_11 (((on_set h0 _).1 h).resolve_left (by decide)))),
        d14_2 := fun h => (on_set h0 _).2 (Or.inr (F.d14_2 (((on_set h0 _).1 h).resolve_left (by decide)))),
        d14_11 := fun h => (on_set h0 _).2 (Or.inr (F.d14_11 (((on_set h0 _).1 h).resolve_left (by decide)))),
        d14_13 := fun _ => (on_set h0 _).2 (Or.inl rfl) }
theorem I5.s14 {W : World} {l : Array Bool} {w : World} {g : Nat} {v41 v42 v43 v44 v45 v46 v47 v48 v49 v50 v51 v52 v53 : Value} (F : I5 W l w (.pointer (some ⟨g, 0, none⟩)) v41 v42 v43 v44 v45 v46 v47 v48 v49 v50 v51 v52 v53) (h0 : l.getD 14 true = false) (h2 : On l 2) (h11 : On l 11) (h13 : On l 13) (hz : W.heap.size ≤ g) (hg : Bx w g #[.string ⟨#[]⟩, .slice none 0 0, .slice none 0 0] 25) : I5 W (l.setIfInBounds 14 true) (set3 w g (.string ⟨#[97, 100, 100]⟩) v43 v52) (.pointer (some ⟨g, 0, none⟩)) v41 v42 v43 v44 v45 v46 v47 v48 v49 v50 v51 v52 v53 :=
  { bel := below_set3 F.bel hz,
        f0 := old_on h0 (by decide) F.f0,
        f1 := old_on h0 (by decide) F.f1,
        f2 := old_on h0 (by decide) (fun h => let ⟨g2, e, hx⟩ := F.f2 h; ⟨g2, e, bx_keep3 hx (bx_ne hx hg (by show 4 ≠ 3; decide))⟩),
        f3 := old_on h0 (by decide) F.f3,
        f4 := old_on h0 (by decide) F.f4,
        f5 := old_on h0 (by decide) (fun h => let ⟨g2, e, hx⟩ := F.f5 h; ⟨g2, e, bx_keep3 hx (bx_ne hx hg (by show 4 ≠ 3; decide))⟩),
        f6 := old_on h0 (by decide) F.f6,
        f7 := old_on h0 (by decide) F.f7,
        f8 := old_on h0 (by decide) (fun h => let ⟨g2, e, hx⟩ := F.f8 h; ⟨g2, e, bx_keep3 hx (bx_ne hx hg (by show 8 ≠ 3; decide))⟩),
        f9 := old_on h0 (by decide) F.f9,
        f10 := old_on h0 (by decide) F.f10,
        f11 := old_on h0 (by decide) (fun h => let ⟨g2, e, hx⟩ := F.f11 h; ⟨g2, e, bx_keep3 hx (bx_ne hx hg (by show 13 ≠ 3; decide))⟩),
        f12 := old_on h0 (by decide) F.f12,
        f13 := fun _ => ⟨g, rfl, hz, fun n => absurd ((on_set h0 _).2 (Or.inl rfl)) n, fun _ => bx_set3 hg⟩,
        d6_5 := fun h => (on_set h0 _).2 (Or.inr (F.d6_5 (((on_set h0 _).1 h).resolve_left (by decide)))),
        d8_5 := fun h => (on_set h0 _).2 (Or.inr (F.d8_5 (((on_set h0 _).1 h).resolve_left (by decide)))),
        d9_8 := fun h => (on_set h0 _).2 (Or.inr (F.d9_8 (((on_set h0 _).1 h).resolve_left (by decide)))),
        d10_8 := fun h => (on_set h0 _).2 (Or.inr (F.d10_8 (((on_set h0 _).1 h).resolve_left (by decide)))),
        d11_8 := fun h => (on_set h0 _).2 (Or.inr (F.d11_8 (((on_set h0 _).1 h).resolve_left (by decide)))),
        d12_2 := fun h => (on_set h0 _).2 (Or.inr (F.d12_2 (((on_set h0 _).1 h).resolve_left (by decide)))),
        d12_11 := fun h => (on_set h0 _).2 (Or.inr (F.d12_11 (((on_set h0 _).1 h).resolve_left (by decide)))),
        d14_2 := fun _ => (on_set h0 _).2 (Or.inr h2),
        d14_11 := fun _ => (on_set h0 _).2 (Or.inr h11),
        d14_13 := fun _ => (on_set h0 _).2 (Or.inr h13) }
/-- what the procedure of the examples is -/
def exR : Pr := ⟨⟨#[97, 100, 100]⟩, [⟨⟨#[107]⟩, 2⟩, ⟨⟨#[110]⟩, 1⟩], [.mk 3 ⟨#[]⟩ 0 (vX ⟨#[107]⟩) (aX 4 [aX 22 [vX ⟨#[107]⟩], vX ⟨#[110]⟩]) [] []]⟩
theorem I5.done {W : World} {l : Array Bool} {w : World} {v9 v41 v42 v43 v44 v45 v46 v47 v48 v49 v50 v51 v52 v53 : Value} (F : I5 W l w v9 v41 v42 v43 v44 v45 v46 v47 v48 v49 v50 v51 v52 v53) (hall : ∀ j, j < 15 → On l j) :
    ∃ g43 g46 g49 g52 g9, v9 = .pointer (some ⟨g9, 0, none⟩) ∧ v41 = .agg #[.string ⟨#[107]⟩, .int .i64 2] ∧ v42 = .agg #[.string ⟨#[110]⟩, .int .i64 1] ∧ v43 = .slice (some ⟨g43, 0, none⟩) 2 2 ∧ v44 = .agg #[.int .i64 3, .int .i64 0, .string ⟨#[107]⟩, .slice none 0 0] ∧ v45 = .agg #[.int .i64 3, .int .i64 0, .string ⟨#[107]⟩, .slice none 0 0] ∧ v46 = .slice (some ⟨g46, 0, none⟩) 1 1 ∧ v47 = .agg #[.int .i64 22, .int .i64 0, .string ⟨#[]⟩, .slice (some ⟨g46, 0, none⟩) 1 1] ∧ v48 = .agg #[.int .i64 3, .int .i64 0, .string ⟨#[110]⟩, .slice none 0 0] ∧ v49 = .slice (some ⟨g49, 0, none⟩) 2 2 ∧ v50 = .agg #[.int .i64 4, .int .i64 0, .string ⟨#[]⟩, .slice (some ⟨g49, 0, none⟩) 2 2] ∧ v51 = .agg #[.int .i64 3, .string ⟨#[]⟩, .int .i64 0, .int .i64 3, .int .i64 0, .string ⟨#[107]⟩, .slice none 0 0, .int .i64 4, .int .i64 0, .string ⟨#[]⟩, .slice (some ⟨g49, 0, none⟩) 2 2, .slice none 0 0, .slice none 0 0] ∧ v52 = .slice (some ⟨g52, 0, none⟩) 1 1 ∧ v53 = .agg #[.string ⟨#[97, 100, 100]⟩, .slice (some ⟨g43, 0, none⟩) 2 2, .slice (some ⟨g52, 0, none⟩) 1 1] ∧
      Bx w g9 #[.string ⟨#[97, 100, 100]⟩, .slice (some ⟨g43, 0, none⟩) 2 2, .slice (some ⟨g52, 0, none⟩) 1 1] 25 ∧ PrIn w exR (some ⟨g43, 0, none⟩) (some ⟨g52, 0, none⟩) ∧ Below W.heap.size W w := by
  have H := fun j h => hall j h
  obtain ⟨g43, rfl, x43⟩ := F.f2 (H 2 (by decide))
  obtain ⟨g46, rfl, x46⟩ := F.f5 (H 5 (by decide))
  obtain ⟨g49, rfl, x49⟩ := F.f8 (H 8 (by decide))
  obtain ⟨g52, rfl, x52⟩ := F.f11 (H 11 (by decide))
  obtain ⟨g9, rfl, _, _, x9⟩ := F.f13 (H 13 (by decide))
  have k46 : A.Kids w (some ⟨g46, 0, none⟩) [vX ⟨#[107]⟩] := kids_1 x46 (nil_kids _ none)
  have k49 : A.Kids w (some ⟨g49, 0, none⟩) [aX 22 [vX ⟨#[107]⟩], vX ⟨#[110]⟩] := kids_2 (e := aX 22 [vX ⟨#[107]⟩]) (f := vX ⟨#[110]⟩) x49 k46 (nil_kids _ none)
  have hpr : PrIn w exR (some ⟨g43, 0, none⟩) (some ⟨g52, 0, none⟩) := by
    refine ⟨Or.inr ⟨g43, 0, rfl, fun j hj => ?_⟩, Or.inr ⟨g52, 0, rfl, ?_⟩⟩
    · have hj2 : j < 2 := hj
      obtain rfl | rfl : j = 0 ∨ j = 1 := by omega
      · exact ⟨x43.cell 0, x43.cell 1⟩
      · exact ⟨x43.cell 2, x43.cell 3⟩
    · exact ⟨⟨x52.cell 0, x52.cell 1, x52.cell 2, ⟨x52.cell 3, x52.cell 4, x52.cell 5, none, 0, x52.cell 6, Or.inl rfl⟩, ⟨x52.cell 7, x52.cell 8, x52.cell 9, some ⟨g49, 0, none⟩, 2, x52.cell 10, k49⟩, ⟨none, 0, x52.cell 11, Or.inl rfl⟩, ⟨none, 0, x52.cell 12, Or.inl rfl⟩⟩, trivial⟩
  exact ⟨g43, g46, g49, g52, g9, rfl, F.f0 (H 0 (by decide)), F.f1 (H 1 (by decide)), rfl, F.f3 (H 3 (by decide)), F.f4 (H 4 (by decide)), rfl, F.f6 (H 6 (by decide)), F.f7 (H 7 (by decide)), rfl, F.f9 (H 9 (by decide)), F.f10 (H 10 (by decide)), rfl, F.f12 (H 12 (by decide)), x9 (H 14 (by decide)), hpr, F.bel⟩
end Go.Proofs.YtbmdadhbkdkgmaaDoor.P
namespace Go.Proofs.YtbmdadhbkdkgmaaDoor.P
open Go.RowKit
open L (Str isName prt size_len below_2 below_box ret_bool ret_int ret_string bytes_eq append_list Own8)
open A
def exE : Ex := aX 5 [aX 6 [aX 4 [nX 1, nX 2], vX ⟨#[120]⟩], aX 9 [nX 3]]
def exRi : Ex := aX 5 [vX ⟨#[97]⟩, aX 5 [vX ⟨#[98]⟩, vX ⟨#[99]⟩]]
def exLe : Ex := aX 5 [aX 5 [vX ⟨#[97]⟩, vX ⟨#[98]⟩], vX ⟨#[99]⟩]
theorem exE_t : ba (exprT exE) = ⟨#[40, 49, 32, 43, 32, 50, 41, 32, 42, 32, 120, 32, 45, 32, 45, 51]⟩ := by decide +kernel
theorem exRi_t : ba (exprT exRi) = ⟨#[97, 32, 45, 32, 40, 98, 32, 45, 32, 99, 41]⟩ := by decide +kernel
theorem exLe_t : ba (exprT exLe) = ⟨#[97, 32, 45, 32, 98, 32, 45, 32, 99]⟩ := by decide +kernel
theorem exR_t : ba (procT exR) = ⟨#[112, 114, 111, 99, 32, 97, 100, 100, 40, 107, 58, 32, 115, 116, 114, 44, 32, 110, 58, 32, 105, 110, 116, 41, 32, 123, 10, 32, 32, 32, 32, 112, 117, 116, 32, 107, 32, 61, 32, 103, 101, 116, 105, 110, 116, 40, 107, 41, 32, 43, 32, 110, 59, 10, 125, 10]⟩ := by decide +kernel
theorem exE_ok : okE exE := by
  have h0 : (⟨#[]⟩ : ByteArray).size = 0 := rfl
  have h3 : ∀ x : UInt8, (⟨#[x]⟩ : ByteArray).size = 1 := fun _ => rfl
  simp [exE, aX, nX, vX, okE, okEs, h0, h3]
theorem exRi_ok : okE exRi := by
  have h0 : (⟨#[]⟩ : ByteArray).size = 0 := rfl
  have h3 : ∀ x : UInt8, (⟨#[x]⟩ : ByteArray).size = 1 := fun _ => rfl
  simp [exRi, aX, vX, okE, okEs, h0, h3]
theorem exLe_ok : okE exLe := by
  have h0 : (⟨#[]⟩ : ByteArray).size = 0 := rfl
  have h3 : ∀ x : UInt8, (⟨#[x]⟩ : ByteArray).size = 1 := fun _ => rfl
  simp [exLe, aX, vX, okE, okEs, h0, h3]
theorem exR_ok : OkP exR := by
  have h0 : (⟨#[]⟩ : ByteArray).size = 0 := rfl
  have h3 : ∀ x : UInt8, (⟨#[x]⟩ : ByteArray).size = 1 := fun _ => rfl
  refine ⟨by show (⟨#[97, 100, 100]⟩ : ByteArray).size ≤ _; decide, by show (2 : Nat) ≤ _; decide, fun j hj => ?_, by show (1 : Nat) ≤ _; decide, by simp [exR, aX, vX, okB, okS, okE, okEs, h0, h3]⟩
  have hj2 : j < 2 := hj
  obtain rfl | rfl : j = 0 ∨ j = 1 := by omega
  · show (⟨#[107]⟩ : ByteArray).size ≤ _; decide
  · show (⟨#[110]⟩ : ByteArray).size ≤ _; decide

set_option maxHeartbeats 8000000 in
set_option maxRecDepth 100000 in
theorem examples_any (w : World) (ht : Tab w) : Calls Tryd.prog 12 #[] w fun e w' => e = .returned (.bool true) ∧ Below w.heap.size w w' := by
  have HV := Lib.hid variable_any
  have HNu := Lib.hid number_any
  have HAp := Lib.hid apply_any
  have HTb := Lib.hid ht
  clear ht
  go_enter Tryd.func12, Tryd.ntmps12
  go_wp2_with fail
  refine (HNu.out _ _).mono ?_; rintro e w1 ⟨rfl, hb1⟩
  go_wp2_with fail
  refine (HNu.out _ _).mono ?_; rintro e w2 ⟨rfl, hb2⟩
  have HB2 := Lib.hid (below_2 hb1 hb2)
  clear hb1 hb2
  go_wp2_with fail
  have HB3 := Lib.hid (below_2 HB2.out (below_box w2 (.cells #[.int .i64 1, .int .i64 1, .string ⟨#[]⟩, .slice none 0 0, .int .i64 1, .int .i64 2, .string ⟨#[]⟩, .slice none 0 0] 28)))
  have HK3 : Hid (A.Kids (w2.alloc (.cells #[.int .i64 1, .int .i64 1, .string ⟨#[]⟩, .slice none 0 0, .int .i64 1, .int .i64 2, .string ⟨#[]⟩, .slice none 0 0] 28)) (some ⟨w2.heap.size, 0, none⟩) [nX 1, nX 2]) := kids_2 (e := nX 1) (f := nX 2) (Bx.new w2 #[.int .i64 1, .int .i64 1, .string ⟨#[]⟩, .slice none 0 0, .int .i64 1, .int .i64 2, .string ⟨#[]⟩, .slice none 0 0] 28) (nil_kids _ none) (nil_kids _ none)
  refine (HAp.out _ _ _ _ _).mono ?_; rintro e w3 ⟨rfl, hb3⟩
  go_wp2_with fail
  refine (HV.out _ _).mono ?_; rintro e w4 ⟨rfl, hb4⟩
  have HB4 := Lib.hid (below_2 (below_2 HB3.out hb3) hb4)
  have HK4 := Lib.hid ((HK3.out.below hb3).below hb4)
  clear hb3 hb4 HK3
  go_wp2_with fail
  have HB5 := Lib.hid (below_2 HB4.out (below_box w4 (.cells #[.int .i64 4, .int .i64 0, .string ⟨#[]⟩, .slice (some ⟨w2.heap.size, 0, none⟩) 2 2, .int .i64 3, .int .i64 0, .string ⟨#[120]⟩, .slice none 0 0] 28)))
  have HK5 : Hid (A.Kids (w4.alloc (.cells #[.int .i64 4, .int .i64 0, .string ⟨#[]⟩, .slice (some ⟨w2.heap.size, 0, none⟩) 2 2, .int .i64 3, .int .i64 0, .string ⟨#[120]⟩, .slice none 0 0] 28)) (some ⟨w4.heap.size, 0, none⟩) [aX 4 [nX 1, nX 2], vX ⟨#[120]⟩]) := kids_2 (e := aX 4 [nX 1, nX 2]) (f := vX ⟨#[120]⟩) (Bx.new w4 #[.int .i64 4, .int .i64 0, .string ⟨#[]⟩, .slice (some ⟨w2.heap.size, 0, none⟩) 2 2, .int .i64 3, .int .i64 0, .string ⟨#[120]⟩, .slice none 0 0] 28) (HK4.out.below (below_box _ _)) (nil_kids _ none)
  refine (HAp.out _ _ _ _ _).mono ?_; rintro e w5 ⟨rfl, hb5⟩
  go_wp2_with fail
  refine (HNu.out _ _).mono ?_; rintro e w6 ⟨rfl, hb6⟩
  have HB6 := Lib.hid (below_2 (below_2 HB5.out hb5) hb6)
  have HK6 := Lib.hid ((HK5.out.below hb5).below hb6)
  clear hb5 hb6 HK5 HK4
  go_wp2_with fail
  have HB7 := Lib.hid (below_2 HB6.out (below_box w6 (.cells #[.int .i64 1, .int .i64 3, .string ⟨#[]⟩, .slice none 0 0] 28)))
  have HK7 : Hid (A.Kids (w6.alloc (.cells #[.int .i64 1, .int .i64 3, .string ⟨#[]⟩, .slice none 0 0] 28)) (some ⟨w6.heap.size, 0, none⟩) [nX 3]) := kids_1 (e := nX 3) (Bx.new w6 #[.int .i64 1, .int .i64 3, .string ⟨#[]⟩, .slice none 0 0] 28) (nil_kids _ none)
  have HK7b := Lib.hid (HK6.out.below (below_box w6 (.cells #[.int .i64 1, .int .i64 3, .string ⟨#[]⟩, .slice none 0 0] 28)))
  refine (HAp.out _ _ _ _ _).mono ?_; rintro e w7 ⟨rfl, hb7⟩
  have HB8 := Lib.hid (below_2 HB7.out hb7)
  have HK8 := Lib.hid (HK7.out.below hb7)
  have HK8b := Lib.hid (HK7b.out.below hb7)
  clear hb7 HK7 HK7b HK6
  go_wp2_with fail
  have HB9 := Lib.hid (below_2 HB8.out (below_box w7 (.cells #[.int .i64 6, .int .i64 0, .string ⟨#[]⟩, .slice (some ⟨w4.heap.size, 0, none⟩) 2 2, .int .i64 9, .int .i64 0, .string ⟨#[]⟩, .slice (some ⟨w6.heap.size, 0, none⟩) 1 1] 28)))
  have HK9 : Hid (A.Kids (w7.alloc (.cells #[.int .i64 6, .int .i64 0, .string ⟨#[]⟩, .slice (some ⟨w4.heap.size, 0, none⟩) 2 2, .int .i64 9, .int .i64 0, .string ⟨#[]⟩, .slice (some ⟨w6.heap.size, 0, none⟩) 1 1] 28)) (some ⟨w7.heap.size, 0, none⟩) [aX 6 [aX 4 [nX 1, nX 2], vX ⟨#[120]⟩], aX 9 [nX 3]]) := kids_2 (e := aX 6 [aX 4 [nX 1, nX 2], vX ⟨#[120]⟩]) (f := aX 9 [nX 3]) (Bx.new w7 #[.int .i64 6, .int .i64 0, .string ⟨#[]⟩, .slice (some ⟨w4.heap.size, 0, none⟩) 2 2, .int .i64 9, .int .i64 0, .string ⟨#[]⟩, .slice (some ⟨w6.heap.size, 0, none⟩) 1 1] 28) (HK8b.out.below (below_box _ _)) (HK8.out.below (below_box _ _))
  refine (HAp.out _ _ _ _ _).mono ?_; rintro e w8 ⟨rfl, hb8⟩
  have HB10 := Lib.hid (below_2 HB9.out hb8)
  have HK10 := Lib.hid (HK9.out.below hb8)
  clear hb8 HK9 HK8 HK8b
  go_wp2_with fail
  have HB11 := Lib.hid (below_2 HB10.out (below_box w8 (.cells #[.int .i64 5, .int .i64 0, .string ⟨#[]⟩, .slice (some ⟨w7.heap.size, 0, none⟩) 2 2] 28)))
  have HK11 := Lib.hid (HK10.out.below (below_box w8 (.cells #[.int .i64 5, .int .i64 0, .string ⟨#[]⟩, .slice (some ⟨w7.heap.size, 0, none⟩) 2 2] 28)))
  have HT11 : Hid (Bx (w8.alloc (.cells #[.int .i64 5, .int .i64 0, .string ⟨#[]⟩, .slice (some ⟨w7.heap.size, 0, none⟩) 2 2] 28)) w8.heap.size #[.int .i64 5, .int .i64 0, .string ⟨#[]⟩, .slice (some ⟨w7.heap.size, 0, none⟩) 2 2] 28) := Bx.new _ _ _
  refine (HV.out _ _).mono ?_; rintro e w9 ⟨rfl, hb9⟩
  go_wp2_with fail
  refine (HV.out _ _).mono ?_; rintro e w10 ⟨rfl, hb10⟩
  go_wp2_with fail
  refine (HV.out _ _).mono ?_; rintro e w11 ⟨rfl, hb11⟩
  have hb := below_2 (below_2 hb9 hb10) hb11
  have HB12 := Lib.hid (below_2 HB11.out hb)
  have HK12 := Lib.hid (HK11.out.below hb)
  have HT12 := Lib.hid (HT11.out.below hb)
  clear hb hb9 hb10 hb11 HK11 HT11 HK10
  go_wp2_with fail
  have HB := Lib.hid (below_2 (below_2 (below_2 HB12.out (below_box w11 (.cells #[.int .i64 3, .int .i64 0, .string ⟨#[97]⟩, .slice none 0 0] 28))) (below_box _ (.cells #[.int .i64 3, .int .i64 0, .string ⟨#[98]⟩, .slice none 0 0] 28))) (below_box _ (.cells #[.int .i64 3, .int .i64 0, .string ⟨#[99]⟩, .slice none 0 0] 28)))
  have HK := Lib.hid (((HK12.out.below (below_box w11 (.cells #[.int .i64 3, .int .i64 0, .string ⟨#[97]⟩, .slice none 0 0] 28))).below (below_box _ (.cells #[.int .i64 3, .int .i64 0, .string ⟨#[98]⟩, .slice none 0 0] 28))).below (below_box _ (.cells #[.int .i64 3, .int .i64 0, .string ⟨#[99]⟩, .slice none 0 0] 28)))
  have HT := Lib.hid (((HT12.out.below (below_box w11 (.cells #[.int .i64 3, .int .i64 0, .string ⟨#[97]⟩, .slice none 0 0] 28))).below (below_box _ (.cells #[.int .i64 3, .int .i64 0, .string ⟨#[98]⟩, .slice none 0 0] 28))).below (below_box _ (.cells #[.int .i64 3, .int .i64 0, .string ⟨#[99]⟩, .slice none 0 0] 28)))
  have HA : Hid (Bx (((w11.alloc (.cells #[.int .i64 3, .int .i64 0, .string ⟨#[97]⟩, .slice none 0 0] 28)).alloc (.cells #[.int .i64 3, .int .i64 0, .string ⟨#[98]⟩, .slice none 0 0] 28)).alloc (.cells #[.int .i64 3, .int .i64 0, .string ⟨#[99]⟩, .slice none 0 0] 28)) w11.heap.size #[.int .i64 3, .int .i64 0, .string ⟨#[97]⟩, .slice none 0 0] 28) := ((Bx.new w11 _ _).below (below_box _ _)).below (below_box _ _)
  have HBb : Hid (Bx (((w11.alloc (.cells #[.int .i64 3, .int .i64 0, .string ⟨#[97]⟩, .slice none 0 0] 28)).alloc (.cells #[.int .i64 3, .int .i64 0, .string ⟨#[98]⟩, .slice none 0 0] 28)).alloc (.cells #[.int .i64 3, .int .i64 0, .string ⟨#[99]⟩, .slice none 0 0] 28)) (w11.heap.size + 1) #[.int .i64 3, .int .i64 0, .string ⟨#[98]⟩, .slice none 0 0] 28) := by
    have := (Bx.new (w11.alloc (.cells #[.int .i64 3, .int .i64 0, .string ⟨#[97]⟩, .slice none 0 0] 28)) #[.int .i64 3, .int .i64 0, .string ⟨#[98]⟩, .slice none 0 0] 28).below (below_box _ (.cells #[.int .i64 3, .int .i64 0, .string ⟨#[99]⟩, .slice none 0 0] 28))
    unfold Hid; simpa using this
  have HC : Hid (Bx (((w11.alloc (.cells #[.int .i64 3, .int .i64 0, .string ⟨#[97]⟩, .slice none 0 0] 28)).alloc (.cells #[.int .i64 3, .int .i64 0, .string ⟨#[98]⟩, .slice none 0 0] 28)).alloc (.cells #[.int .i64 3, .int .i64 0, .string ⟨#[99]⟩, .slice none 0 0] 28)) (w11.heap.size + 1 + 1) #[.int .i64 3, .int .i64 0, .string ⟨#[99]⟩, .slice none 0 0] 28) := by
    have := Bx.new ((w11.alloc (.cells #[.int .i64 3, .int .i64 0, .string ⟨#[97]⟩, .slice none 0 0] 28)).alloc (.cells #[.int .i64 3, .int .i64 0, .string ⟨#[98]⟩, .slice none 0 0] 28)) #[.int .i64 3, .int .i64 0, .string ⟨#[99]⟩, .slice none 0 0] 28
    unfold Hid; simpa using this
  clear HB2 HB3 HB4 HB5 HB6 HB7 HB8 HB9 HB10 HB11 HB12 HK12 HT12
  generalize (((w11.alloc (.cells #[.int .i64 3, .int .i64 0, .string ⟨#[97]⟩, .slice none 0 0] 28)).alloc (.cells #[.int .i64 3, .int .i64 0, .string ⟨#[98]⟩, .slice none 0 0] 28)).alloc (.cells #[.int .i64 3, .int .i64 0, .string ⟨#[99]⟩, .slice none 0 0] 28)) = W at *
  generalize w11.heap.size + 1 + 1 = pc at *
  generalize w11.heap.size + 1 = pb at *
  generalize w11.heap.size = pa at *
  generalize w8.heap.size = p1 at *
  generalize w7.heap.size = q7 at *
  generalize w6.heap.size = q6 at *
  generalize w4.heap.size = q4 at *
  generalize w2.heap.size = q2 at *
  clear w1 w2 w3 w4 w5 w6 w7 w8 w9 w10 w11
  refine wp_region_inv rfl (fun l a w' => ∃ v5 v6 v25 v26 v27 v28 v29 v30 v31 v32 v33 v34 v35 v36 v37 v38 : Value, a = { tmps := #[.bool false, .pointer (some ⟨p1, 0, none⟩), .pointer (some ⟨pa, 0, none⟩), .pointer (some ⟨pb, 0, none⟩), .pointer (some ⟨pc, 0, none⟩), v5, v6, undef, undef, undef, .agg #[.int .i64 1, .int .i64 1, .string ⟨#[]⟩, .slice none 0 0], .agg #[.int .i64 1, .int .i64 2, .string ⟨#[]⟩, .slice none 0 0], .slice (some ⟨q2, 0, none⟩) 2 2, .agg #[.int .i64 4, .int .i64 0, .string ⟨#[]⟩, .slice (some ⟨q2, 0, none⟩) 2 2], .agg #[.int .i64 3, .int .i64 0, .string ⟨#[120]⟩, .slice none 0 0], .slice (some ⟨q4, 0, none⟩) 2 2, .agg #[.int .i64 6, .int .i64 0, .string ⟨#[]⟩, .slice (some ⟨q4, 0, none⟩) 2 2], .agg #[.int .i64 1, .int .i64 3, .string ⟨#[]⟩, .slice none 0 0], .slice (some ⟨q6, 0, none⟩) 1 1, .agg #[.int .i64 9, .int .i64 0, .string ⟨#[]⟩, .slice (some ⟨q6, 0, none⟩) 1 1], .slice (some ⟨q7, 0, none⟩) 2 2, .agg #[.int .i64 5, .int .i64 0, .string ⟨#[]⟩, .slice (some ⟨q7, 0, none⟩) 2 2], .agg #[.int .i64 3, .int .i64 0, .string ⟨#[97]⟩, .slice none 0 0], .agg #[.int .i64 3, .int .i64 0, .string ⟨#[98]⟩, .slice none 0 0], .agg #[.int .i64 3, .int .i64 0, .string ⟨#[99]⟩, .slice none 0 0], v25, v26, v27, v28, v29, v30, v31, v32, v33, v34, v35, v36, v37, v38, undef, undef, undef, undef, undef, undef, undef, undef, undef, undef, undef, undef, undef, undef, undef, undef, undef, undef, undef, undef, undef, undef, undef, undef, undef, undef, undef, undef, undef, undef, undef, undef, undef], defers := [] } ∧ I3 W l w' v5 v6 v25 v26 v27 v28 v29 v30 v31 v32 v33 v34 v35 v36 v37 v38) (by kernel_rfl) ?_ ?_ ?_
  · intro l hl
    refine ⟨undef, undef, undef, undef, undef, undef, undef, undef, undef, undef, undef, undef, undef, undef, undef, undef, rfl, ?_⟩
    exact { bel := L.below_drew W, f0 := fun h => absurd h (hl _), f1 := fun h => absurd h (hl _), f2 := fun h => absurd h (hl _), f3 := fun h => absurd h (hl _), f4 := fun h => absurd h (hl _), f5 := fun h => absurd h (hl _), f6 := fun h => absurd h (hl _), f7 := fun h => absurd h (hl _), f8 := fun h => absurd h (hl _), f9 := fun h => absurd h (hl _), f10 := fun h => absurd h (hl _), f11 := fun h => absurd h (hl _), f12 := fun h => absurd h (hl _), f13 := fun h => absurd h (hl _), f14 := fun h => absurd h (hl _), f15 := fun h => absurd h (hl _), ne := fun h => absurd h (hl _), d4_3 := fun h => absurd h (hl _), d5_3 := fun h => absurd h (hl _), d6_5 := fun h => absurd h (hl _), d16_5 := fun h => absurd h (hl _), d10_9 := fun h => absurd h (hl _), d12_9 := fun h => absurd h (hl _), d13_12 := fun h => absurd h (hl _), d17_12 := fun h => absurd h (hl _), d16_14 := fun h => absurd h (hl _), d17_15 := fun h => absurd h (hl _) }
  · rintro l a w' ⟨v5, v6, v25, v26, v27, v28, v29, v30, v31, v32, v33, v34, v35, v36, v37, v38, rfl, F⟩ i hi h0 hall
    match i, hi, h0, hall with
    | 0, _, h0, hall =>
      have x := HA.out.below F.bel
      have x0 : w'.cell? ⟨pa, 0, none⟩ = some (.int .i64 3) := x.cell 0
      have x1 : w'.cell? ⟨pa, 1, none⟩ = some (.int .i64 0) := x.cell 1
      have x2 : w'.cell? ⟨pa, 2, none⟩ = some (.string ⟨#[97]⟩) := x.cell 2
      have x3 : w'.cell? ⟨pa, 3, none⟩ = some (.slice none 0 0) := x.cell 3
      have HF := Lib.hid (F.s0 h0)
      clear F hall h0
      refine wpOp_step (by rfl) (fun K' hK => ?_)
      have HKk := Lib.hid hK
      clear hK
      go_simp
      exact HKk.out _ _ ⟨_, _, _, _, _, _, _, _, _, _, _, _, _, _, _, _, rfl, HF.out⟩
    | 1, _, h0, hall =>
      have x := HBb.out.below F.bel
      have x0 : w'.cell? ⟨pb, 0, none⟩ = some (.int .i64 3) := x.cell 0
      have x1 : w'.cell? ⟨pb, 1, none⟩ = some (.int .i64 0) := x.cell 1
      have x2 : w'.cell? ⟨pb, 2, none⟩ = some (.string ⟨#[98]⟩) := x.cell 2
      have x3 : w'.cell? ⟨pb, 3, none⟩ = some (.slice none 0 0) := x.cell 3
      have HF := Lib.hid (F.s1 h0)
      clear F hall h0
      refine wpOp_step (by rfl) (fun K' hK => ?_)
      have HKk := Lib.hid hK
      clear hK
      go_simp
      exact HKk.out _ _ ⟨_, _, _, _, _, _, _, _, _, _, _, _, _, _, _, _, rfl, HF.out⟩
    | 2, _, h0, hall =>
      have x := HC.out.below F.bel
      have x0 : w'.cell? ⟨pc, 0, none⟩ = some (.int .i64 3) := x.cell 0
      have x1 : w'.cell? ⟨pc, 1, none⟩ = some (.int .i64 0) := x.cell 1
      have x2 : w'.cell? ⟨pc, 2, none⟩ = some (.string ⟨#[99]⟩) := x.cell 2
      have x3 : w'.cell? ⟨pc, 3, none⟩ = some (.slice none 0 0) := x.cell 3
      have HF := Lib.hid (F.s2 h0)
      clear F hall h0
      refine wpOp_step (by rfl) (fun K' hK => ?_)
      have HKk := Lib.hid hK
      clear hK
      go_simp
      exact HKk.out _ _ ⟨_, _, _, _, _, _, _, _, _, _, _, _, _, _, _, _, rfl, HF.out⟩
    | 3, _, h0, hall =>
      obtain rfl := F.f1 (hall 1 (by decide +kernel))
      obtain rfl := F.f2 (hall 2 (by decide +kernel))
      have HF := Lib.hid (F.s3 h0)
      clear F hall h0
      refine wpOp_step (by rfl) (fun K' hK => ?_)
      have HKk := Lib.hid hK
      clear hK
      go_simp
      exact HKk.out _ _ ⟨_, _, _, _, _, _, _, _, _, _, _, _, _, _, _, _, rfl, HF.out⟩
    | 4, _, h0, hall =>
      obtain ⟨g, rfl, _⟩ := F.f3 (hall 3 (by decide +kernel))
      have HF := Lib.hid (fun w2 hb => F.s4 (w2 := w2) h0 hb (hall 3 (by decide +kernel)))
      clear F hall h0
      refine wpOp_step (by rfl) (fun K' hK => ?_)
      have HKk := Lib.hid hK
      clear hK
      go_simp
      refine (HAp.out _ _ _ _ _).mono ?_
      rintro e w2 ⟨rfl, hb⟩
      replace HF := Lib.hid (HF.out w2 hb)
      exact HKk.out _ _ ⟨_, _, _, _, _, _, _, _, _, _, _, _, _, _, _, _, rfl, HF.out⟩
    | 5, _, h0, hall =>
      obtain rfl := F.f0 (hall 0 (by decide +kernel))
      have h4 := hall 4 (by decide +kernel)
      have h3 := F.d4_3 h4
      obtain ⟨g, rfl, _⟩ := F.f3 h3
      obtain rfl := F.f4 h4
      have HF := Lib.hid (F.s5 h0 h3)
      clear F hall h0
      refine wpOp_step (by rfl) (fun K' hK => ?_)
      have HKk := Lib.hid hK
      clear hK
      go_simp
      exact HKk.out _ _ ⟨_, _, _, _, _, _, _, _, _, _, _, _, _, _, _, _, rfl, HF.out⟩
    | 6, _, h0, hall =>
      obtain ⟨g, rfl, _⟩ := F.f5 (hall 5 (by decide +kernel))
      have HF := Lib.hid (fun w2 hb => F.s6 (w2 := w2) h0 hb (hall 5 (by decide +kernel)))
      clear F hall h0
      refine wpOp_step (by rfl) (fun K' hK => ?_)
      have HKk := Lib.hid hK
      clear hK
      go_simp
      refine (HAp.out _ _ _ _ _).mono ?_
      rintro e w2 ⟨rfl, hb⟩
      replace HF := Lib.hid (HF.out w2 hb)
      exact HKk.out _ _ ⟨_, _, _, _, _, _, _, _, _, _, _, _, _, _, _, _, rfl, HF.out⟩
    | 7, _, h0, hall =>
      have x := HA.out.below F.bel
      have x0 : w'.cell? ⟨pa, 0, none⟩ = some (.int .i64 3) := x.cell 0
      have x1 : w'.cell? ⟨pa, 1, none⟩ = some (.int .i64 0) := x.cell 1
      have x2 : w'.cell? ⟨pa, 2, none⟩ = some (.string ⟨#[97]⟩) := x.cell 2
      have x3 : w'.cell? ⟨pa, 3, none⟩ = some (.slice none 0 0) := x.cell 3
      have HF := Lib.hid (F.s7 h0)
      clear F hall h0
      refine wpOp_step (by rfl) (fun K' hK => ?_)
      have HKk := Lib.hid hK
      clear hK
      go_simp
      exact HKk.out _ _ ⟨_, _, _, _, _, _, _, _, _, _, _, _, _, _, _, _, rfl, HF.out⟩
    | 8, _, h0, hall =>
      have x := HBb.out.below F.bel
      have x0 : w'.cell? ⟨pb, 0, none⟩ = some (.int .i64 3) := x.cell 0
      have x1 : w'.cell? ⟨pb, 1, none⟩ = some (.int .i64 0) := x.cell 1
      have x2 : w'.cell? ⟨pb, 2, none⟩ = some (.string ⟨#[98]⟩) := x.cell 2
      have x3 : w'.cell? ⟨pb, 3, none⟩ = some (.slice none 0 0) := x.cell 3
      have HF := Lib.hid (F.s8 h0)
      clear F hall h0
      refine wpOp_step (by rfl) (fun K' hK => ?_)
      have HKk := Lib.hid hK
      clear hK
      go_simp
      exact HKk.out _ _ ⟨_, _, _, _, _, _, _, _, _, _, _, _, _, _, _, _, rfl, HF.out⟩
    | 9, _, h0, hall =>
      obtain rfl := F.f7 (hall 7 (by decide +kernel))
      obtain rfl := F.f8 (hall 8 (by decide +kernel))
      have HF := Lib.hid (F.s9 h0)
      clear F hall h0
      refine wpOp_step (by rfl) (fun K' hK => ?_)
      have HKk := Lib.hid hK
      clear hK
      go_simp
      exact HKk.out _ _ ⟨_, _, _, _, _, _, _, _, _, _, _, _, _, _, _, _, rfl, HF.out⟩
    | 10, _, h0, hall =>
      obtain ⟨g, rfl, _⟩ := F.f9 (hall 9 (by decide +kernel))
      have HF := Lib.hid (fun w2 hb => F.s10 (w2 := w2) h0 hb (hall 9 (by decide +kernel)))
      clear F hall h0
      refine wpOp_step (by rfl) (fun K' hK => ?_)
      have HKk := Lib.hid hK
      clear hK
      go_simp
      refine (HAp.out _ _ _ _ _).mono ?_
      rintro e w2 ⟨rfl, hb⟩
      replace HF := Lib.hid (HF.out w2 hb)
      exact HKk.out _ _ ⟨_, _, _, _, _, _, _, _, _, _, _, _, _, _, _, _, rfl, HF.out⟩
    | 11, _, h0, hall =>
      have x := HC.out.below F.bel
      have x0 : w'.cell? ⟨pc, 0, none⟩ = some (.int .i64 3) := x.cell 0
      have x1 : w'.cell? ⟨pc, 1, none⟩ = some (.int .i64 0) := x.cell 1
      have x2 : w'.cell? ⟨pc, 2, none⟩ = some (.string ⟨#[99]⟩) := x.cell 2
      have x3 : w'.cell? ⟨pc, 3, none⟩ = some (.slice none 0 0) := x.cell 3
      have HF := Lib.hid (F.s11 h0)
      clear F hall h0
      refine wpOp_step (by rfl) (fun K' hK => ?_)
      have HKk := Lib.hid hK
      clear hK
      go_simp
      exact HKk.out _ _ ⟨_, _, _, _, _, _, _, _, _, _, _, _, _, _, _, _, rfl, HF.out⟩
    | 12, _, h0, hall =>
      obtain rfl := F.f11 (hall 11 (by decide +kernel))
      have h10 := hall 10 (by decide +kernel)
      have h9 := F.d10_9 h10
      obtain ⟨g, rfl, _⟩ := F.f9 h9
      obtain rfl := F.f10 h10
      have HF := Lib.hid (F.s12 h0 h9)
      clear F hall h0
      refine wpOp_step (by rfl) (fun K' hK => ?_)
      have HKk := Lib.hid hK
      clear hK
      go_simp
      exact HKk.out _ _ ⟨_, _, _, _, _, _, _, _, _, _, _, _, _, _, _, _, rfl, HF.out⟩
    | 13, _, h0, hall =>
      obtain ⟨g, rfl, _⟩ := F.f12 (hall 12 (by decide +kernel))
      have HF := Lib.hid (fun w2 hb => F.s13 (w2 := w2) h0 hb (hall 12 (by decide +kernel)))
      clear F hall h0
      refine wpOp_step (by rfl) (fun K' hK => ?_)
      have HKk := Lib.hid hK
      clear hK
      go_simp
      refine (HAp.out _ _ _ _ _).mono ?_
      rintro e w2 ⟨rfl, hb⟩
      replace HF := Lib.hid (HF.out w2 hb)
      exact HKk.out _ _ ⟨_, _, _, _, _, _, _, _, _, _, _, _, _, _, _, _, rfl, HF.out⟩
    | 14, _, h0, hall =>
      have HF := Lib.hid (F.s14 h0)
      clear F hall h0
      refine wpOp_step (by rfl) (fun K' hK => ?_)
      have HKk := Lib.hid hK
      clear hK
      go_simp
      exact HKk.out _ _ ⟨_, _, _, _, _, _, _, _, _, _, _, _, _, _, _, _, rfl, HF.out⟩
    | 15, _, h0, hall =>
      have HF := Lib.hid (F.s15 h0)
      clear F hall h0
      refine wpOp_step (by rfl) (fun K' hK => ?_)
      have HKk := Lib.hid hK
      clear hK
      go_simp
      exact HKk.out _ _ ⟨_, _, _, _, _, _, _, _, _, _, _, _, _, _, _, _, rfl, HF.out⟩
    | 16, _, h0, hall =>
      have ha := hall 14 (by decide +kernel)
      have hv := hall 6 (by decide +kernel)
      have hs := F.d6_5 hv
      obtain ⟨gs, rfl, _⟩ := F.f5 hs
      obtain rfl := F.f6 hv
      obtain ⟨g, rfl, hz, hx, _⟩ := F.f14 ha
      have hg := hx (off_of h0)
      have x0 := hg.cell 0
      have x1 := hg.cell 1
      have x2 := hg.cell 2
      have x3 := hg.cell 3
      have y0 := hg.free 0
      have y1 := hg.free 1
      have y2 := hg.free 2
      have y3 := hg.free 3
      simp at x0 x1 x2 x3
      have HF := Lib.hid (F.s16 h0 hs ha hz hg)
      clear F hall h0
      refine wpOp_step (by rfl) (fun K' hK => ?_)
      have HKk := Lib.hid hK
      clear hK
      go_simp
      exact HKk.out _ _ ⟨_, _, _, _, _, _, _, _, _, _, _, _, _, _, _, _, rfl, HF.out⟩
    | 17, _, h0, hall =>
      have ha := hall 15 (by decide +kernel)
      have hv := hall 13 (by decide +kernel)
      have hs := F.d13_12 hv
      obtain ⟨gs, rfl, _⟩ := F.f12 hs
      obtain rfl := F.f13 hv
      obtain ⟨g, rfl, hz, hx, _⟩ := F.f15 ha
      have hg := hx (off_of h0)
      have x0 := hg.cell 0
      have x1 := hg.cell 1
      have x2 := hg.cell 2
      have x3 := hg.cell 3
      have y0 := hg.free 0
      have y1 := hg.free 1
      have y2 := hg.free 2
      have y3 := hg.free 3
      simp at x0 x1 x2 x3
      have HF := Lib.hid (F.s17 h0 hs ha hz hg)
      clear F hall h0
      refine wpOp_step (by rfl) (fun K' hK => ?_)
      have HKk := Lib.hid hK
      clear hK
      go_simp
      exact HKk.out _ _ ⟨_, _, _, _, _, _, _, _, _, _, _, _, _, _, _, _, rfl, HF.out⟩
    | i + 18, hi, _, _ => exact absurd hi (by show ¬ (i + 18 < 18); omega)
  rintro l a w1 ⟨v5, v6, v25, v26, v27, v28, v29, v30, v31, v32, v33, v34, v35, v36, v37, v38, rfl, F⟩ hall
  obtain ⟨g28, g30, g34, g37, g5, g6, rfl, rfl, rfl, rfl, rfl, rfl, rfl, rfl, rfl, rfl, rfl, rfl, rfl, rfl, rfl, rfl, hx5, hk5, hx6, hk6, hbW⟩ := F.done (fun j hj => hall j hj)
  have HB1 := Lib.hid (HB.out.trans (hbW.mono HB.out.size))
  have HK1 := Lib.hid (HK.out.below hbW)
  have HT1 := Lib.hid (HT.out.below hbW)
  have HX5 := Lib.hid hx5
  have HX6 := Lib.hid hx6
  have HK5 := Lib.hid hk5
  have HK6 := Lib.hid hk6
  clear F hall hx5 hk5 hx6 hk6 hbW HB HK HT HA HBb HC
  clear W
  go_wp2_with fail
  refine (HV.out _ _).mono ?_; rintro e w2 ⟨rfl, hb2⟩
  go_wp2_with fail
  refine (HV.out _ _).mono ?_; rintro e w3 ⟨rfl, hb3⟩
  have HU := Lib.hid (below_2 hb2 hb3)
  clear hb2 hb3
  go_wp2_with fail
  have HU2 := Lib.hid (below_2 (below_2 HU.out (below_box w3 (.cells #[.int .i64 3, .int .i64 0, .string ⟨#[107]⟩, .slice none 0 0] 28))) (below_box _ (.cells #[.int .i64 3, .int .i64 0, .string ⟨#[110]⟩, .slice none 0 0] 28)))
  have HKb : Hid (Bx ((w3.alloc (.cells #[.int .i64 3, .int .i64 0, .string ⟨#[107]⟩, .slice none 0 0] 28)).alloc (.cells #[.int .i64 3, .int .i64 0, .string ⟨#[110]⟩, .slice none 0 0] 28)) w3.heap.size #[.int .i64 3, .int .i64 0, .string ⟨#[107]⟩, .slice none 0 0] 28) := (Bx.new w3 _ _).below (below_box _ _)
  have HNb : Hid (Bx ((w3.alloc (.cells #[.int .i64 3, .int .i64 0, .string ⟨#[107]⟩, .slice none 0 0] 28)).alloc (.cells #[.int .i64 3, .int .i64 0, .string ⟨#[110]⟩, .slice none 0 0] 28)) (w3.heap.size + 1) #[.int .i64 3, .int .i64 0, .string ⟨#[110]⟩, .slice none 0 0] 28) := by
    have := Bx.new (w3.alloc (.cells #[.int .i64 3, .int .i64 0, .string ⟨#[107]⟩, .slice none 0 0] 28)) #[.int .i64 3, .int .i64 0, .string ⟨#[110]⟩, .slice none 0 0] 28
    unfold Hid; simpa using this
  have HB2 := Lib.hid (HB1.out.trans (HU2.out.mono HB1.out.size))
  have HK2 := Lib.hid (HK1.out.below HU2.out)
  have HT2 := Lib.hid (HT1.out.below HU2.out)
  have HX52 := Lib.hid (HX5.out.below HU2.out)
  have HX62 := Lib.hid (HX6.out.below HU2.out)
  have HK52 := Lib.hid (HK5.out.below HU2.out)
  have HK62 := Lib.hid (HK6.out.below HU2.out)
  clear HU HU2 HB1 HK1 HT1 HX5 HX6 HK5 HK6
  generalize ((w3.alloc (.cells #[.int .i64 3, .int .i64 0, .string ⟨#[107]⟩, .slice none 0 0] 28)).alloc (.cells #[.int .i64 3, .int .i64 0, .string ⟨#[110]⟩, .slice none 0 0] 28)) = W at *
  generalize w3.heap.size + 1 = pn at *
  generalize w3.heap.size = pk at *
  clear w1 w2 w3
  refine wp_region_inv rfl (fun l a w' => ∃ v9 v41 v42 v43 v44 v45 v46 v47 v48 v49 v50 v51 v52 v53 : Value, a = { tmps := #[.bool false, .pointer (some ⟨p1, 0, none⟩), .pointer (some ⟨pa, 0, none⟩), .pointer (some ⟨pb, 0, none⟩), .pointer (some ⟨pc, 0, none⟩), .pointer (some ⟨g5, 0, none⟩), .pointer (some ⟨g6, 0, none⟩), .pointer (some ⟨pk, 0, none⟩), .pointer (some ⟨pn, 0, none⟩), v9, .agg #[.int .i64 1, .int .i64 1, .string ⟨#[]⟩, .slice none 0 0], .agg #[.int .i64 1, .int .i64 2, .string ⟨#[]⟩, .slice none 0 0], .slice (some ⟨q2, 0, none⟩) 2 2, .agg #[.int .i64 4, .int .i64 0, .string ⟨#[]⟩, .slice (some ⟨q2, 0, none⟩) 2 2], .agg #[.int .i64 3, .int .i64 0, .string ⟨#[120]⟩, .slice none 0 0], .slice (some ⟨q4, 0, none⟩) 2 2, .agg #[.int .i64 6, .int .i64 0, .string ⟨#[]⟩, .slice (some ⟨q4, 0, none⟩) 2 2], .agg #[.int .i64 1, .int .i64 3, .string ⟨#[]⟩, .slice none 0 0], .slice (some ⟨q6, 0, none⟩) 1 1, .agg #[.int .i64 9, .int .i64 0, .string ⟨#[]⟩, .slice (some ⟨q6, 0, none⟩) 1 1], .slice (some ⟨q7, 0, none⟩) 2 2, .agg #[.int .i64 5, .int .i64 0, .string ⟨#[]⟩, .slice (some ⟨q7, 0, none⟩) 2 2], .agg #[.int .i64 3, .int .i64 0, .string ⟨#[97]⟩, .slice none 0 0], .agg #[.int .i64 3, .int .i64 0, .string ⟨#[98]⟩, .slice none 0 0], .agg #[.int .i64 3, .int .i64 0, .string ⟨#[99]⟩, .slice none 0 0], .agg #[.int .i64 3, .int .i64 0, .string ⟨#[97]⟩, .slice none 0 0], .agg #[.int .i64 3, .int .i64 0, .string ⟨#[98]⟩, .slice none 0 0], .agg #[.int .i64 3, .int .i64 0, .string ⟨#[99]⟩, .slice none 0 0], .slice (some ⟨g28, 0, none⟩) 2 2, .agg #[.int .i64 5, .int .i64 0, .string ⟨#[]⟩, .slice (some ⟨g28, 0, none⟩) 2 2], .slice (some ⟨g30, 0, none⟩) 2 2, .agg #[.int .i64 5, .int .i64 0, .string ⟨#[]⟩, .slice (some ⟨g30, 0, none⟩) 2 2], .agg #[.int .i64 3, .int .i64 0, .string ⟨#[97]⟩, .slice none 0 0], .agg #[.int .i64 3, .int .i64 0, .string ⟨#[98]⟩, .slice none 0 0], .slice (some ⟨g34, 0, none⟩) 2 2, .agg #[.int .i64 5, .int .i64 0, .string ⟨#[]⟩, .slice (some ⟨g34, 0, none⟩) 2 2], .agg #[.int .i64 3, .int .i64 0, .string ⟨#[99]⟩, .slice none 0 0], .slice (some ⟨g37, 0, none⟩) 2 2, .agg #[.int .i64 5, .int .i64 0, .string ⟨#[]⟩, .slice (some ⟨g37, 0, none⟩) 2 2], .agg #[.int .i64 3, .int .i64 0, .string ⟨#[107]⟩, .slice none 0 0], .agg #[.int .i64 3, .int .i64 0, .string ⟨#[110]⟩, .slice none 0 0], v41, v42, v43, v44, v45, v46, v47, v48, v49, v50, v51, v52, v53, undef, undef, undef, undef, undef, undef, undef, undef, undef, undef, undef, undef, undef, undef, undef, undef, undef, undef], defers := [] } ∧ I5 W l w' v9 v41 v42 v43 v44 v45 v46 v47 v48 v49 v50 v51 v52 v53) (by kernel_rfl) ?_ ?_ ?_
  · intro l hl
    refine ⟨undef, undef, undef, undef, undef, undef, undef, undef, undef, undef, undef, undef, undef, undef, rfl, ?_⟩
    exact { bel := L.below_drew W, f0 := fun h => absurd h (hl _), f1 := fun h => absurd h (hl _), f2 := fun h => absurd h (hl _), f3 := fun h => absurd h (hl _), f4 := fun h => absurd h (hl _), f5 := fun h => absurd h (hl _), f6 := fun h => absurd h (hl _), f7 := fun h => absurd h (hl _), f8 := fun h => absurd h (hl _), f9 := fun h => absurd h (hl _), f10 := fun h => absurd h (hl _), f11 := fun h => absurd h (hl _), f12 := fun h => absurd h (hl _), f13 := fun h => absurd h (hl _), d6_5 := fun h => absurd h (hl _), d8_5 := fun h => absurd h (hl _), d9_8 := fun h => absurd h (hl _), d10_8 := fun h => absurd h (hl _), d11_8 := fun h => absurd h (hl _), d12_2 := fun h => absurd h (hl _), d12_11 := fun h => absurd h (hl _), d14_2 := fun h => absurd h (hl _), d14_11 := fun h => absurd h (hl _), d14_13 := fun h => absurd h (hl _) }
  · rintro l a w' ⟨v9, v41, v42, v43, v44, v45, v46, v47, v48, v49, v50, v51, v52, v53, rfl, F⟩ i hi h0 hall
    match i, hi, h0, hall with
    | 0, _, h0, hall =>
      have HF := Lib.hid (F.s0 h0)
      clear F hall h0
      refine wpOp_step (by rfl) (fun K' hK => ?_)
      have HKk := Lib.hid hK
      clear hK
      go_simp
      exact HKk.out _ _ ⟨_, _, _, _, _, _, _, _, _, _, _, _, _, _, rfl, HF.out⟩
    | 1, _, h0, hall =>
      have HF := Lib.hid (F.s1 h0)
      clear F hall h0
      refine wpOp_step (by rfl) (fun K' hK => ?_)
      have HKk := Lib.hid hK
      clear hK
      go_simp
      exact HKk.out _ _ ⟨_, _, _, _, _, _, _, _, _, _, _, _, _, _, rfl, HF.out⟩
    | 2, _, h0, hall =>
      obtain rfl := F.f0 (hall 0 (by decide +kernel))
      obtain rfl := F.f1 (hall 1 (by decide +kernel))
      have HF := Lib.hid (F.s2 h0)
      clear F hall h0
      refine wpOp_step (by rfl) (fun K' hK => ?_)
      have HKk := Lib.hid hK
      clear hK
      go_simp
      exact HKk.out _ _ ⟨_, _, _, _, _, _, _, _, _, _, _, _, _, _, rfl, HF.out⟩
    | 3, _, h0, hall =>
      have x := HKb.out.below F.bel
      have x0 : w'.cell? ⟨pk, 0, none⟩ = some (.int .i64 3) := x.cell 0
      have x1 : w'.cell? ⟨pk, 1, none⟩ = some (.int .i64 0) := x.cell 1
      have x2 : w'.cell? ⟨pk, 2, none⟩ = some (.string ⟨#[107]⟩) := x.cell 2
      have x3 : w'.cell? ⟨pk, 3, none⟩ = some (.slice none 0 0) := x.cell 3
      have HF := Lib.hid (F.s3 h0)
      clear F hall h0
      refine wpOp_step (by rfl) (fun K' hK => ?_)
      have HKk := Lib.hid hK
      clear hK
      go_simp
      exact HKk.out _ _ ⟨_, _, _, _, _, _, _, _, _, _, _, _, _, _, rfl, HF.out⟩
    | 4, _, h0, hall =>
      have x := HKb.out.below F.bel
      have x0 : w'.cell? ⟨pk, 0, none⟩ = some (.int .i64 3) := x.cell 0
      have x1 : w'.cell? ⟨pk, 1, none⟩ = some (.int .i64 0) := x.cell 1
      have x2 : w'.cell? ⟨pk, 2, none⟩ = some (.string ⟨#[107]⟩) := x.cell 2
      have x3 : w'.cell? ⟨pk, 3, none⟩ = some (.slice none 0 0) := x.cell 3
      have HF := Lib.hid (F.s4 h0)
      clear F hall h0
      refine wpOp_step (by rfl) (fun K' hK => ?_)
      have HKk := Lib.hid hK
      clear hK
      go_simp
      exact HKk.out _ _ ⟨_, _, _, _, _, _, _, _, _, _, _, _, _, _, rfl, HF.out⟩
    | 5, _, h0, hall =>
      obtain rfl := F.f4 (hall 4 (by decide +kernel))
      have HF := Lib.hid (F.s5 h0)
      clear F hall h0
      refine wpOp_step (by rfl) (fun K' hK => ?_)
      have HKk := Lib.hid hK
      clear hK
      go_simp
      exact HKk.out _ _ ⟨_, _, _, _, _, _, _, _, _, _, _, _, _, _, rfl, HF.out⟩
    | 6, _, h0, hall =>
      obtain ⟨g, rfl, _⟩ := F.f5 (hall 5 (by decide +kernel))
      have HF := Lib.hid (fun w2 hb => F.s6 (w2 := w2) h0 hb (hall 5 (by decide +kernel)))
      clear F hall h0
      refine wpOp_step (by rfl) (fun K' hK => ?_)
      have HKk := Lib.hid hK
      clear hK
      go_simp
      refine (HAp.out _ _ _ _ _).mono ?_
      rintro e w2 ⟨rfl, hb⟩
      replace HF := Lib.hid (HF.out w2 hb)
      exact HKk.out _ _ ⟨_, _, _, _, _, _, _, _, _, _, _, _, _, _, rfl, HF.out⟩
    | 7, _, h0, hall =>
      have x := HNb.out.below F.bel
      have x0 : w'.cell? ⟨pn, 0, none⟩ = some (.int .i64 3) := x.cell 0
      have x1 : w'.cell? ⟨pn, 1, none⟩ = some (.int .i64 0) := x.cell 1
      have x2 : w'.cell? ⟨pn, 2, none⟩ = some (.string ⟨#[110]⟩) := x.cell 2
      have x3 : w'.cell? ⟨pn, 3, none⟩ = some (.slice none 0 0) := x.cell 3
      have HF := Lib.hid (F.s7 h0)
      clear F hall h0
      refine wpOp_step (by rfl) (fun K' hK => ?_)
      have HKk := Lib.hid hK
      clear hK
      go_simp
      exact HKk.out _ _ ⟨_, _, _, _, _, _, _, _, _, _, _, _, _, _, rfl, HF.out⟩
    | 8, _, h0, hall =>
      obtain rfl := F.f7 (hall 7 (by decide +kernel))
      have h6 := hall 6 (by decide +kernel)
      have h5 := F.d6_5 h6
      obtain ⟨g, rfl, _⟩ := F.f5 h5
      obtain rfl := F.f6 h6
      have HF := Lib.hid (F.s8 h0 h5)
      clear F hall h0
      refine wpOp_step (by rfl) (fun K' hK => ?_)
      have HKk := Lib.hid hK
      clear hK
      go_simp
      exact HKk.out _ _ ⟨_, _, _, _, _, _, _, _, _, _, _, _, _, _, rfl, HF.out⟩
    | 9, _, h0, hall =>
      obtain ⟨g, rfl, _⟩ := F.f8 (hall 8 (by decide +kernel))
      have HF := Lib.hid (fun w2 hb => F.s9 (w2 := w2) h0 hb (hall 8 (by decide +kernel)))
      clear F hall h0
      refine wpOp_step (by rfl) (fun K' hK => ?_)
      have HKk := Lib.hid hK
      clear hK
      go_simp
      refine (HAp.out _ _ _ _ _).mono ?_
      rintro e w2 ⟨rfl, hb⟩
      replace HF := Lib.hid (HF.out w2 hb)
      exact HKk.out _ _ ⟨_, _, _, _, _, _, _, _, _, _, _, _, _, _, rfl, HF.out⟩
    | 10, _, h0, hall =>
      obtain rfl := F.f3 (hall 3 (by decide +kernel))
      have h9 := hall 9 (by decide +kernel)
      have h8 := F.d9_8 h9
      obtain ⟨g, rfl, _⟩ := F.f8 h8
      obtain rfl := F.f9 h9
      have HF := Lib.hid (F.s10 h0 h8)
      clear F hall h0
      refine wpOp_step (by rfl) (fun K' hK => ?_)
      have HKk := Lib.hid hK
      clear hK
      go_simp
      exact HKk.out _ _ ⟨_, _, _, _, _, _, _, _, _, _, _, _, _, _, rfl, HF.out⟩
    | 11, _, h0, hall =>
      have h10 := hall 10 (by decide +kernel)
      have h8 := F.d10_8 h10
      obtain ⟨g, rfl, _⟩ := F.f8 h8
      obtain rfl := F.f10 h10
      have HF := Lib.hid (F.s11 h0 h8)
      clear F hall h0
      refine wpOp_step (by rfl) (fun K' hK => ?_)
      have HKk := Lib.hid hK
      clear hK
      go_simp
      exact HKk.out _ _ ⟨_, _, _, _, _, _, _, _, _, _, _, _, _, _, rfl, HF.out⟩
    | 12, _, h0, hall =>
      have h2 := hall 2 (by decide +kernel)
      have h11 := hall 11 (by decide +kernel)
      obtain ⟨g, rfl, _⟩ := F.f2 h2
      obtain ⟨g2, rfl, _⟩ := F.f11 h11
      have HF := Lib.hid (F.s12 h0 h2 h11)
      clear F hall h0
      refine wpOp_step (by rfl) (fun K' hK => ?_)
      have HKk := Lib.hid hK
      clear hK
      go_simp
      exact HKk.out _ _ ⟨_, _, _, _, _, _, _, _, _, _, _, _, _, _, rfl, HF.out⟩
    | 13, _, h0, hall =>
      have HF := Lib.hid (F.s13 h0)
      clear F hall h0
      refine wpOp_step (by rfl) (fun K' hK => ?_)
      have HKk := Lib.hid hK
      clear hK
      go_simp
      exact HKk.out _ _ ⟨_, _, _, _, _, _, _, _, _, _, _, _, _, _, rfl, HF.out⟩
    | 14, _, h0, hall =>
      have ha := hall 13 (by decide +kernel)
      have h12 := hall 12 (by decide +kernel)
      have h2 := F.d12_2 h12
      have h11 := F.d12_11 h12
      obtain ⟨g2, rfl, _⟩ := F.f2 h2
      obtain ⟨g3, rfl, _⟩ := F.f11 h11
      obtain rfl := F.f12 h12
      obtain ⟨g, rfl, hz, hx, _⟩ := F.f13 ha
      have hg := hx (off_of h0)
      have x0 := hg.cell 0
      have x1 := hg.cell 1
      have x2 := hg.cell 2
      have y0 := hg.free 0
      have y1 := hg.free 1
      have y2 := hg.free 2
      simp at x0 x1 x2
      have HF := Lib.hid (F.s14 h0 h2 h11 ha hz hg)
      clear F hall h0
      refine wpOp_step (by rfl) (fun K' hK => ?_)
      have HKk := Lib.hid hK
      clear hK
      go_simp
      exact HKk.out _ _ ⟨_, _, _, _, _, _, _, _, _, _, _, _, _, _, rfl, HF.out⟩
    | i + 15, hi, _, _ => exact absurd hi (by show ¬ (i + 15 < 15); omega)
  rintro l a w1 ⟨v9, v41, v42, v43, v44, v45, v46, v47, v48, v49, v50, v51, v52, v53, rfl, F⟩ hall
  obtain ⟨g43, g46, g49, g52, g9, rfl, rfl, rfl, rfl, rfl, rfl, rfl, rfl, rfl, rfl, rfl, rfl, rfl, rfl, hx9, hpr, hbW⟩ := F.done (fun j hj => hall j hj)
  have HB1 := Lib.hid (HB2.out.trans (hbW.mono HB2.out.size))
  have HK1 := Lib.hid (HK2.out.below hbW)
  have HT1 := Lib.hid (HT2.out.below hbW)
  have HX5 := Lib.hid (HX52.out.below hbW)
  have HX6 := Lib.hid (HX62.out.below hbW)
  have HK5 := Lib.hid (HK52.out.below hbW)
  have HK6 := Lib.hid (HK62.out.below hbW)
  have HX9 := Lib.hid hx9
  have HPR := Lib.hid hpr
  clear F hall hx9 hpr hbW HB2 HK2 HT2 HX52 HX62 HK52 HK62 HKb HNb
  clear W
  have HC1 := Lib.hid (oexpr_any exE (some ⟨q7, 0, none⟩) 2 exE_ok w1 (HTb.out.below HB1.out) HK1.out)
  have HC2 := Lib.hid (fun w2 hb => oexpr_any exRi (some ⟨g30, 0, none⟩) 2 exRi_ok w2 (HTb.out.below (HB1.out.trans ((show Below w1.heap.size w1 w2 from hb).mono HB1.out.size))) (HK5.out.below hb))
  have HC3 := Lib.hid (fun w2 hb => oexpr_any exLe (some ⟨g37, 0, none⟩) 2 exLe_ok w2 (HTb.out.below (HB1.out.trans ((show Below w1.heap.size w1 w2 from hb).mono HB1.out.size))) (HK6.out.below hb))
  have HC4 := Lib.hid (fun w2 hb => oproct_any exR exR_ok (some ⟨g43, 0, none⟩) (some ⟨g52, 0, none⟩) 2 1 (by show (2 : Nat) ≤ 2; omega) w2 (HTb.out.below (HB1.out.trans ((show Below w1.heap.size w1 w2 from hb).mono HB1.out.size))) (HPR.out.below hb))
  rw [exE_t] at HC1
  simp only [exRi_t] at HC2
  simp only [exLe_t] at HC3
  simp only [exR_t] at HC4
  have c0 := HT1.out.cell 0
  have c1 := HT1.out.cell 1
  have c2 := HT1.out.cell 2
  have c3 := HT1.out.cell 3
  simp at c0 c1 c2 c3
  clear HT1 HK1
  go_wp2_with fail
  refine HC1.out.mono ?_; rintro e w2 ⟨rfl, hb2⟩
  have HD2 := Lib.hid hb2
  have HC2b := Lib.hid (HC2.out _ hb2)
  have z5 := HX5.out.below hb2
  have d0 := z5.cell 0
  have d1 := z5.cell 1
  have d2 := z5.cell 2
  have d3 := z5.cell 3
  simp at d0 d1 d2 d3
  clear HC1 HC2 z5 hb2 c0 c1 c2 c3
  go_wp2_with fail
  refine HC2b.out.mono ?_; rintro e w3 ⟨rfl, hb3⟩
  have HD3 := Lib.hid (below_2 HD2.out hb3)
  have HC3b := Lib.hid (HC3.out _ HD3.out)
  have z6 := HX6.out.below HD3.out
  have e0 := z6.cell 0
  have e1 := z6.cell 1
  have e2 := z6.cell 2
  have e3 := z6.cell 3
  simp at e0 e1 e2 e3
  clear HC3 z6 hb3 d0 d1 d2 d3
  go_wp2_with fail
  refine HC3b.out.mono ?_; rintro e w4 ⟨rfl, hb4⟩
  have HD4 := Lib.hid (below_2 HD3.out hb4)
  have HC4b := Lib.hid (HC4.out _ HD4.out)
  have z9 := HX9.out.below HD4.out
  have u0 := z9.cell 0
  have u1 := z9.cell 1
  have u2 := z9.cell 2
  simp at u0 u1 u2
  clear HC4 z9 hb4 e0 e1 e2 e3
  go_wp2_with fail
  refine HC4b.out.mono ?_; rintro e w5 ⟨rfl, hb5⟩
  have HD5 := Lib.hid (HB1.out.trans ((below_2 HD4.out hb5).mono HB1.out.size))
  clear hb5 u0 u1 u2
  go_wp2_with fail
  go_ret
  exact ⟨rfl, HD5.out⟩
end Go.Proofs.YtbmdadhbkdkgmaaDoor.P
