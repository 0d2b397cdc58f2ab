/-
  A region in whatever order, by an invariant.
  A region in whatever order: what holds of each number, once it has come up, said by kinds.
  A region in whatever order, where each number's value is known by itself: what holds of it stays when memory is made.
  What a round of a range over a function keeps: all that lay below a block, and all cells laid from another block on.
  What the program's functions of layer 12 return: the nodes of an expression, one by one: contracts.
-/
import Derived.Test.YtkjefigebdbkaaaDoorM07
import Derived.Deep.RegionLaw
import Derived.Deep.RegionWith
import Derived.RangeFuncNested
import Derived.RangeFuncBound
import Derived.RangeFuncCalls
import Derived.RangeFuncLeaves
import Derived.Test.YtkjefigebdbkaaaDoorSNPlain
import Derived.Test.YtkjefigebdbkaaaDoorM03
import Derived.Shelf.Abstract
import Derived.Shelf.RegionOpen
import Derived.WalkKit
import Derived.OwnWalkIn
import Derived.TacticsInMore
import Derived.LoopNIn
import Derived.LoopIn
namespace Go.Proofs.YtkjefigebdbkaaaDoor.P
open Go.RowKit
/-- number j has come up -/
abbrev On (l : Array Bool) (j : Nat) : Prop := l.getD j false = true
theorem on_set {l : Array Bool} {i : Nat} (hi : l.getD i true = false) (j : Nat) : On (l.setIfInBounds i true) j ↔ (j = i ∨ On l j) := by
  unfold On
  by_cases h : i = j
  · subst h
    have hlt : i < l.size := by
      rcases Nat.lt_or_ge i l.size with h' | h'
      · exact h'
      · simp [Array.getElem?_eq_none h'] at hi
    simp [hlt]
  · rw [getD_set_ne false h]
    constructor
    · exact Or.inr
    · rintro (e | e)
      · exact absurd e.symm h
      · exact e
/-- what number i waits for -/
def deps (ops : Array Oper) (i : Nat) : List Nat := match ops[i]? with
  | none => []
  | some o => (o.after.toList.filter (Region.binds .any)).map (·.on)
def backs (ops : Array Oper) : Bool := (List.range ops.size).all fun i => (deps ops i).all (decide <| · < i)
theorem deps_of {ops : Array Oper} {i : Nat} {o : Oper} (ho : ops[i]? = some o) {l : Array Bool} (h : ∀ e ∈ o.after, Region.binds .any e = true → On l e.on) : ∀ j ∈ deps ops i, On l j := by
  intro j hj
  unfold deps at hj
  rw [ho] at hj
  obtain ⟨e, he, rfl⟩ := List.mem_map.1 hj
  obtain ⟨h1, h2⟩ := List.mem_filter.1 he
  exact h e (Array.mem_def.2 h1) h2
theorem mem_deps {ops : Array Oper} {i : Nat} {o : Oper} (ho : ops[i]? = some o) {e : Edge} (he : e ∈ o.after) (hb : Region.binds .any e = true) : e.on ∈ deps ops i := by
  unfold deps
  rw [ho]
  exact List.mem_map.2 ⟨e, List.mem_filter.2 ⟨Array.mem_def.1 he, hb⟩, rfl⟩
theorem wpAny_inv {P : Program} {ops : Array Oper} {Q : Exit → Act → World → Prop} (I : Array Bool → Act → World → Prop)
    (hback : backs ops = true)
    (hstep : ∀ l a w, I l a w → ∀ i, i < ops.size → l.getD i true = false → (∀ j ∈ deps ops i, On l j) → wpOp P ops Q i (I (l.setIfInBounds i true)) a w)
    (hdone : ∀ l a w, I l a w → (∀ j, j < ops.size → On l j) → Q .normal a w) :
    ∀ (fuel : Nat) (l : Array Bool) (a : Act) (w : World), l.size = ops.size → I l a w → l.toList.count false ≤ fuel → wpAny P .any ops Q fuel l a w := by
  have hend : ∀ (l : Array Bool), l.size = ops.size → Region.ready .any ops l = [] → ∀ j, j < ops.size → On l j := by
    intro l hl hr j
    induction j using Nat.strongRecOn with
    | ind j ih =>
      intro hj
      by_cases h : l.getD j true = false
      · have : j ∈ Region.ready .any ops l := mem_ready.2 ⟨h, ops[j], Array.getElem?_eq_getElem hj, fun e he hb => by
          have hlt : e.on < j := of_decide_eq_true (List.all_eq_true.1 (List.all_eq_true.1 hback j (List.mem_range.2 hj)) e.on (mem_deps (Array.getElem?_eq_getElem hj) he hb))
          exact ih _ hlt (Nat.lt_trans hlt hj)⟩
        rw [hr] at this
        cases this
      · have hj' : j < l.size := by omega
        unfold On
        simp [hj'] at h ⊢
        exact h
  intro fuel
  induction fuel with
  | zero =>
    intro l a w hl hI hc
    have hr : Region.ready .any ops l = [] := by
      rw [List.eq_nil_iff_forall_not_mem]
      intro i hi
      have h := (mem_ready.1 hi).1
      have hm : false ∈ l.toList := by
        rcases Nat.lt_or_ge i l.size with h' | h'
        · simp [h'] at h
          rw [← h]
          simp
        · simp [Array.getElem?_eq_none h'] at h
      have := List.count_pos_iff.2 hm
      omega
    exact ⟨hr, hdone l a w hI (hend l hl hr)⟩
  | succ fuel ih =>
    intro l a w hl hI hc
    refine ⟨fun hr => hdone l a w hI (hend l hl hr), fun i hi => ?_⟩
    obtain ⟨h0, o, ho, hall⟩ := mem_ready.1 hi
    have hlt : i < l.size := by
      rcases Nat.lt_or_ge i l.size with h' | h'
      · exact h'
      · simp [Array.getElem?_eq_none h'] at h0
    refine wpOp_mono (fun a' w' h => ih _ a' w' (by simpa using hl) h ?_) (hstep l a w hI i (by omega) h0 (deps_of ho hall))
    have hv : l[i] = false := by simpa [hlt] using h0
    have hm : 0 < l.toList.count false := List.count_pos_iff.2 (by rw [← hv]; simp)
    rw [Array.toList_setIfInBounds, List.count_set (by simpa using hlt)]
    simp [hv]; rw [← Array.count_toList]
    omega
theorem wp_region_inv {P : Program} {id : Nat} {ops : Array Oper} {Q : Exit → Act → World → Prop} {a : Act} {w : World} (hm : P.follows .mixedOrders = true) (I : Array Bool → Act → World → Prop)
    (hback : backs ops = true)
    (h0 : ∀ l, (∀ j, ¬ On l j) → I l a { w with drawn := w.drawn + 1 })
    (hstep : ∀ l a w, I l a w → ∀ i, i < ops.size → l.getD i true = false → (∀ j ∈ deps ops i, On l j) → wpOp P ops Q i (I (l.setIfInBounds i true)) a w)
    (hdone : ∀ l a w, I l a w → (∀ j, j < ops.size → On l j) → Q .normal a w) : (Code.region id ops true).wp P Q a w := by
  refine wp_region_any hm (wpAny_inv I hback hstep hdone _ _ _ _ (by simp) (h0 _ (fun j h => ?_)) (by simp))
  unfold On at h
  by_cases hj : j < ops.size
  · simp [hj] at h
  · simp [Array.getElem?_eq_none (show (Array.replicate ops.size false).size ≤ j by simpa using hj)] at h
end Go.Proofs.YtkjefigebdbkaaaDoor.P
namespace Go.Proofs.YtkjefigebdbkaaaDoor.P
open Go.RowKit
open A (Bx)
theorem off_of {l : Array Bool} {i : Nat} (h : l.getD i true = false) : ¬ On l i := fun h2 => by
  unfold On at h2
  rcases Nat.lt_or_ge i l.size with h' | h'
  · simp [h'] at h h2; rw [h] at h2; cases h2
  · simp [Array.getElem?_eq_none h'] at h
/-- what a number of a region does: a value out of others; a new block, of which a slice is taken; a new variable, which number s writes; nothing that is kept -/
inductive Kd where
  | val (ds : List Nat) (f : List Value → Value)
  | blk (n : Nat) (ds : List Nat) (f : List Value → Array Value) (t : TypeId)
  | cell (z : Array Value) (t : TypeId) (s : Nat) (ds : List Nat) (f : List Value → Array Value)
  | non
def argsOf (vs : List Value) (ds : List Nat) : List Value := ds.map fun d => vs.getD d undef
def fact (W : World) (l : Array Bool) (w : World) (vs : List Value) (j : Nat) : Kd → Prop
  | .val ds f => vs.getD j undef = f (argsOf vs ds)
  | .blk n ds f t => ∃ g, vs.getD j undef = .slice (some ⟨g, 0, none⟩) n n ∧ Bx w g (f (argsOf vs ds)) t
  | .cell z t s ds f => ∃ g, vs.getD j undef = .pointer (some ⟨g, 0, none⟩) ∧ W.heap.size ≤ g ∧ (¬ On l s → Bx w g z t) ∧ (On l s → Bx w g (f (argsOf vs ds)) t)
  | .non => True
def adr : Kd → Value → Option Nat
  | .blk _ _ _ _, .slice (some ⟨g, _, _⟩) _ _ => some g
  | .cell _ _ _ _ _, .pointer (some ⟨g, _, _⟩) => some g
  | _, _ => none
/-- what number j waits for, and what these wait for -/
def far (ops : Array Oper) (j : Nat) : List Nat := deps ops j ++ (deps ops j).flatMap (deps ops)
/-- each number's values are of numbers that it waits for -/
def okK (ks : List Kd) (ops : Array Oper) : Bool := (List.range ks.length).all fun j => match ks.getD j .non with
  | .val ds _ => ds.all fun d => (far ops j).contains d
  | .blk _ ds _ _ => ds.all fun d => (far ops j).contains d
  | .cell _ _ s ds _ => (ds.all fun d => (far ops s).contains d) && (deps ops s).contains j && (match ks.getD s .non with | .non => true | _ => false) && (List.range ks.length).all fun k => match ks.getD k .non with
    | .cell _ _ s' _ _ => k == j || s != s'
    | _ => true
  | .non => true
structure G (ks : List Kd) (ops : Array Oper) (W : World) (l : Array Bool) (w : World) (vs : List Value) : Prop where
  bel : Below W.heap.size W w
  cl : ∀ j, On l j → ∀ k ∈ deps ops j, On l k
  fs : ∀ j, On l j → fact W l w vs j (ks.getD j .non)
  ne : ∀ i j, On l i → On l j → i ≠ j → ∀ g, adr (ks.getD i .non) (vs.getD i undef) = some g → adr (ks.getD j .non) (vs.getD j undef) ≠ some g
theorem getD_other {vs : List Value} {i j : Nat} (h : j ≠ i) (x : Value) : (vs.set i x).getD j undef = vs.getD j undef := by
  simp only [List.getD_eq_getElem?_getD]
  rw [List.getElem?_set_ne (Ne.symm h)]
theorem getD_self {vs : List Value} {i : Nat} (h : i < vs.length) (x : Value) : (vs.set i x).getD i undef = x := by
  simp only [List.getD_eq_getElem?_getD]
  rw [List.getElem?_set_self h]
  rfl
theorem argsOf_other {vs : List Value} {i : Nat} {ds : List Nat} (h : ∀ d ∈ ds, d ≠ i) (x : Value) : argsOf (vs.set i x) ds = argsOf vs ds := by
  unfold argsOf
  exact List.map_congr_left fun d hd => getD_other (h d hd) x
theorem kd_lt {ks : List Kd} {j : Nat} (h : ks.getD j .non ≠ .non) : j < ks.length := by
  rcases Nat.lt_or_ge j ks.length with h' | h'
  · exact h'
  · refine absurd ?_ h
    simp [List.getD_eq_getElem?_getD, List.getElem?_eq_none h']
section
variable {ks : List Kd} {ops : Array Oper} {W : World} {l : Array Bool} {w : World} {vs : List Value}
theorem okK_at (hok : okK ks ops = true) (j : Nat) (h : j < ks.length) : (match ks.getD j .non with
  | .val ds _ => ds.all fun d => (far ops j).contains d
  | .blk _ ds _ _ => ds.all fun d => (far ops j).contains d
  | .cell _ _ s ds _ => (ds.all fun d => (far ops s).contains d) && (deps ops s).contains j && (match ks.getD s .non with | .non => true | _ => false) && (List.range ks.length).all fun k => match ks.getD k .non with
    | .cell _ _ s' _ _ => k == j || s != s'
    | _ => true
  | .non => true) = true := List.all_eq_true.1 hok j (List.mem_range.2 h)
theorem sub_of {ds xs : List Nat} (h : (ds.all fun d => xs.contains d) = true) : ∀ d ∈ ds, d ∈ xs := fun d hd => by
  have := List.all_eq_true.1 h d hd
  simpa using this
theorem ok_val (hok : okK ks ops = true) {j : Nat} {ds f} (hk : ks.getD j .non = .val ds f) : ∀ d ∈ ds, d ∈ far ops j := by
  have h := okK_at hok j (kd_lt (by rw [hk]; exact fun h => by cases h))
  rw [hk] at h
  exact sub_of h
theorem ok_blk (hok : okK ks ops = true) {j : Nat} {n ds f t} (hk : ks.getD j .non = .blk n ds f t) : ∀ d ∈ ds, d ∈ far ops j := by
  have h := okK_at hok j (kd_lt (by rw [hk]; exact fun h => by cases h))
  rw [hk] at h
  exact sub_of h
theorem ok_cell (hok : okK ks ops = true) {j : Nat} {z t s ds f} (hk : ks.getD j .non = .cell z t s ds f) : (∀ d ∈ ds, d ∈ far ops s) ∧ j ∈ deps ops s ∧ ks.getD s .non = .non ∧ ∀ k z' t' s' ds' f', ks.getD k .non = .cell z' t' s' ds' f' → k ≠ j → s' ≠ s := by
  have h := okK_at hok j (kd_lt (by rw [hk]; exact fun h => by cases h))
  rw [hk] at h
  simp only [Bool.and_eq_true] at h
  obtain ⟨⟨⟨h1, h2⟩, h3⟩, h4⟩ := h
  refine ⟨sub_of h1, by simpa using h2, ?_, ?_⟩
  · cases e : ks.getD s .non with
    | non => rfl
    | _ => rw [e] at h3; cases h3
  · intro k z' t' s' ds' f' e hne
    have := List.all_eq_true.1 h4 k (List.mem_range.2 (kd_lt (by rw [e]; exact fun h => by cases h)))
    rw [e] at this
    simp only [Bool.or_eq_true, beq_iff_eq, bne_iff_ne] at this
    exact fun he => (this.resolve_left hne) he.symm
theorem far_on {k : Nat} (h1 : ∀ d ∈ deps ops k, On l d) (h2 : ∀ d ∈ deps ops k, ∀ d' ∈ deps ops d, On l d') : ∀ d ∈ far ops k, On l d := by
  intro d hd
  rcases List.mem_append.1 hd with h | h
  · exact h1 d h
  · obtain ⟨c, hc, hd⟩ := List.mem_flatMap.1 h
    exact h2 c hc d hd
theorem G.far (F : G ks ops W l w vs) {k : Nat} (h : On l k) : ∀ d ∈ far ops k, On l d := far_on (F.cl k h) fun d hd => F.cl d (F.cl k h d hd)
theorem G.far' (F : G ks ops W l w vs) {k : Nat} (h : ∀ d ∈ deps ops k, On l d) : ∀ d ∈ P.far ops k, On l d := far_on h fun d hd => F.cl d (h d hd)
/-- a fact is kept: the values that it speaks of stay, and so do the blocks -/
theorem fact_keep (hok : okK ks ops = true) (F : G ks ops W l w vs) {i : Nat} (h0 : l.getD i true = false) {w' : World} (hb : Below w.heap.size w w') (x : Value) (hi : ∀ j z t s ds f, ks.getD j .non = .cell z t s ds f → s ≠ i) {j : Nat} (hj : On l j) : fact W (l.setIfInBounds i true) w' (vs.set i x) j (ks.getD j .non) := by
  have hji : j ≠ i := fun e => off_of h0 (e ▸ hj)
  have h := F.fs j hj
  have hdep : ∀ k, On l k → ∀ d ∈ P.far ops k, d ≠ i := fun k hk d hd e => off_of h0 (e ▸ F.far hk d hd)
  cases e : ks.getD j .non with
  | non => trivial
  | val ds f =>
    rw [e] at h
    show (vs.set i x).getD j undef = f (argsOf (vs.set i x) ds)
    rw [getD_other hji, argsOf_other fun d hd => hdep j hj d (ok_val hok e d hd)]
    exact h
  | blk n ds f t =>
    rw [e] at h
    obtain ⟨g, h1, h2⟩ := h
    refine ⟨g, ?_, ?_⟩
    · rw [getD_other hji]; exact h1
    · rw [argsOf_other fun d hd => hdep j hj d (ok_blk hok e d hd)]
      exact h2.below hb
  | cell z t s ds f =>
    rw [e] at h
    obtain ⟨g, h1, h2, h3, h4⟩ := h
    refine ⟨g, by rw [getD_other hji]; exact h1, h2, fun hn => (h3 fun hs => hn ((on_set h0 s).2 (Or.inr hs))).below hb, fun hs => ?_⟩
    have hs := ((on_set h0 s).1 hs).resolve_left (hi j z t s ds f e)
    rw [argsOf_other fun d hd => hdep s hs d ((ok_cell hok e).1 d hd)]
    exact (h4 hs).below hb
theorem adr_lt (F : G ks ops W l w vs) {j : Nat} (hj : On l j) {g : Nat} (h : adr (ks.getD j .non) (vs.getD j undef) = some g) : g < w.heap.size := by
  have hf := F.fs j hj
  cases e : ks.getD j .non with
  | non => rw [e] at h; cases h
  | val ds f => rw [e] at h; cases h
  | blk n ds f t =>
    rw [e] at h hf
    obtain ⟨g', h1, h2⟩ := hf
    rw [h1] at h
    cases h
    exact h2.lt
  | cell z t s ds f =>
    rw [e] at h hf
    obtain ⟨g', h1, _, h3, h4⟩ := hf
    rw [h1] at h
    cases h
    by_cases hs : On l s
    · exact (h4 hs).lt
    · exact (h3 hs).lt
theorem cl_set (F : G ks ops W l w vs) {i : Nat} (h0 : l.getD i true = false) (hd : ∀ j ∈ deps ops i, On l j) : ∀ j, On (l.setIfInBounds i true) j → ∀ k ∈ deps ops j, On (l.setIfInBounds i true) k := by
  intro j hj k hk
  rcases (on_set h0 j).1 hj with rfl | h
  · exact (on_set h0 k).2 (Or.inr (hd k hk))
  · exact (on_set h0 k).2 (Or.inr (F.cl j h k hk))
/-- a step that makes a value, or calls -/
theorem G.val (hok : okK ks ops = true) (F : G ks ops W l w vs) {i : Nat} (h0 : l.getD i true = false) (hd : ∀ j ∈ deps ops i, On l j) {ds f} (hk : ks.getD i .non = .val ds f) (hl : i < vs.length) {w' : World} (hb : Below w.heap.size w w') {x : Value} (hx : x = f (argsOf vs ds)) : G ks ops W (l.setIfInBounds i true) w' (vs.set i x) := by
  have hi : ∀ j z t s ds f, ks.getD j .non = .cell z t s ds f → s ≠ i := fun j z t s ds f e he => by
    have := (ok_cell hok e).2.2.1
    rw [he, hk] at this
    cases this
  refine ⟨F.bel.trans (hb.mono F.bel.size), cl_set F h0 hd, ?_, ?_⟩
  · intro j hj
    rcases (on_set h0 j).1 hj with rfl | h
    · rw [hk]
      show (vs.set j x).getD j undef = f (argsOf (vs.set j x) ds)
      rw [getD_self hl, argsOf_other fun d hdd (e : d = j) => off_of h0 (e ▸ F.far' hd d (ok_val hok hk d hdd)), hx]
    · exact fact_keep hok F h0 hb x hi h
  · intro a b ha hb' hab g e
    rcases (on_set h0 a).1 ha with rfl | ha
    · rw [hk] at e; cases e
    rcases (on_set h0 b).1 hb' with rfl | hb'
    · rw [hk]; exact fun e => by cases e
    have hai : a ≠ i := fun e => off_of h0 (e ▸ ha)
    have hbi : b ≠ i := fun e => off_of h0 (e ▸ hb')
    rw [getD_other hai] at e
    rw [getD_other hbi]
    exact F.ne a b ha hb' hab g e
/-- a step that makes a block -/
theorem G.blk (hok : okK ks ops = true) (F : G ks ops W l w vs) {i : Nat} (h0 : l.getD i true = false) (hd : ∀ j ∈ deps ops i, On l j) {n ds f t} (hk : ks.getD i .non = .blk n ds f t) (hl : i < vs.length) {c : Array Value} (hc : c = f (argsOf vs ds)) : G ks ops W (l.setIfInBounds i true) (w.alloc (.cells c t)) (vs.set i (.slice (some ⟨w.heap.size, 0, none⟩) n n)) := by
  have hb := L.below_box w (.cells c t)
  have hi : ∀ j z t s ds f, ks.getD j .non = .cell z t s ds f → s ≠ i := fun j z t s ds f e he => by
    have := (ok_cell hok e).2.2.1
    rw [he, hk] at this
    cases this
  refine ⟨F.bel.trans (hb.mono F.bel.size), cl_set F h0 hd, ?_, ?_⟩
  · intro j hj
    rcases (on_set h0 j).1 hj with rfl | h
    · rw [hk]
      refine ⟨w.heap.size, getD_self hl _, ?_⟩
      rw [argsOf_other fun d hdd (e : d = j) => off_of h0 (e ▸ F.far' hd d (ok_blk hok hk d hdd)), ← hc]
      exact Bx.new _ _ _
    · exact fact_keep hok F h0 hb _ hi h
  · intro a b ha hb' hab g e
    rcases (on_set h0 a).1 ha with ea | ha2
    · rcases (on_set h0 b).1 hb' with eb | hb2
      · exact absurd (ea.trans eb.symm) hab
      have hbi : b ≠ i := fun e => off_of h0 (e ▸ hb2)
      subst ea
      rw [hk, getD_self hl] at e
      cases e
      rw [getD_other hbi]
      exact fun e => Nat.lt_irrefl _ (adr_lt F hb2 e)
    have hai : a ≠ i := fun e => off_of h0 (e ▸ ha2)
    rw [getD_other hai] at e
    rcases (on_set h0 b).1 hb' with eb | hb2
    · subst eb
      rw [hk, getD_self hl]
      intro e2
      cases e2
      exact Nat.lt_irrefl _ (adr_lt F ha2 e)
    have hbi : b ≠ i := fun e => off_of h0 (e ▸ hb2)
    rw [getD_other hbi]
    exact F.ne a b ha2 hb2 hab g e
/-- a step that makes a variable -/
theorem G.cell (hok : okK ks ops = true) (F : G ks ops W l w vs) {i : Nat} (h0 : l.getD i true = false) (hd : ∀ j ∈ deps ops i, On l j) {z t s ds f} (hk : ks.getD i .non = .cell z t s ds f) (hl : i < vs.length) : G ks ops W (l.setIfInBounds i true) (w.alloc (.cells z t)) (vs.set i (.pointer (some ⟨w.heap.size, 0, none⟩))) := by
  have hb := L.below_box w (.cells z t)
  have hi : ∀ j z t s ds f, ks.getD j .non = .cell z t s ds f → s ≠ i := fun j z t s ds f e he => by
    have := (ok_cell hok e).2.2.1
    rw [he, hk] at this
    cases this
  refine ⟨F.bel.trans (hb.mono F.bel.size), cl_set F h0 hd, ?_, ?_⟩
  · intro j hj
    rcases (on_set h0 j).1 hj with rfl | h
    · rw [hk]
      refine ⟨w.heap.size, getD_self hl _, F.bel.size, fun _ => Bx.new _ _ _, fun hs => ?_⟩
      rcases (on_set h0 s).1 hs with e | hs
      · exact absurd e (hi j z t s ds f hk)
      · exact absurd (F.cl s hs j (ok_cell hok hk).2.1) (off_of h0)
    · exact fact_keep hok F h0 hb _ hi h
  · intro a b ha hb' hab g e
    rcases (on_set h0 a).1 ha with ea | ha2
    · rcases (on_set h0 b).1 hb' with eb | hb2
      · exact absurd (ea.trans eb.symm) hab
      have hbi : b ≠ i := fun e => off_of h0 (e ▸ hb2)
      subst ea
      rw [hk, getD_self hl] at e
      cases e
      rw [getD_other hbi]
      exact fun e => Nat.lt_irrefl _ (adr_lt F hb2 e)
    have hai : a ≠ i := fun e => off_of h0 (e ▸ ha2)
    rw [getD_other hai] at e
    rcases (on_set h0 b).1 hb' with eb | hb2
    · subst eb
      rw [hk, getD_self hl]
      intro e2
      cases e2
      exact Nat.lt_irrefl _ (adr_lt F ha2 e)
    have hbi : b ≠ i := fun e => off_of h0 (e ▸ hb2)
    rw [getD_other hbi]
    exact F.ne a b ha2 hb2 hab g e
/-- no variable is written by number i -/
def offK (ks : List Kd) (i : Nat) : Bool := ks.all fun k => match k with
  | .cell _ _ s _ _ => s != i
  | _ => true
theorem offK_at {i : Nat} (h : offK ks i = true) : ∀ j z t s ds f, ks.getD j .non = .cell z t s ds f → s ≠ i := by
  intro j z t s ds f e
  have hlt : j < ks.length := kd_lt (by rw [e]; exact fun h => by cases h)
  have hm : ks.getD j .non ∈ ks := by
    rw [List.getD_eq_getElem?_getD, List.getElem?_eq_getElem hlt]
    exact List.getElem_mem hlt
  have := List.all_eq_true.1 h _ hm
  rw [e] at this
  simpa using this
/-- a step that keeps nothing -/
theorem G.non (hok : okK ks ops = true) (F : G ks ops W l w vs) {i : Nat} (h0 : l.getD i true = false) (hd : ∀ j ∈ deps ops i, On l j) (hk : ks.getD i .non = .non) (hi' : offK ks i = true) {w' : World} (hb : Below w.heap.size w w') : G ks ops W (l.setIfInBounds i true) w' vs := by
  have hi := offK_at hi'
  refine ⟨F.bel.trans (hb.mono F.bel.size), cl_set F h0 hd, ?_, ?_⟩
  · intro j hj
    rcases (on_set h0 j).1 hj with rfl | h
    · rw [hk]; trivial
    · have h3 := fact_keep hok F h0 hb (vs.getD i undef) hi h
      have : vs.set i (vs.getD i undef) = vs := by
        rcases Nat.lt_or_ge i vs.length with h | h
        · simp [List.getD_eq_getElem?_getD, h]
        · rw [List.set_eq_of_length_le h]
      rw [this] at h3
      exact h3
  · intro a b ha hb' hab g e
    rcases (on_set h0 a).1 ha with rfl | ha
    · rw [hk] at e; cases e
    rcases (on_set h0 b).1 hb' with rfl | hb'
    · rw [hk]; exact fun e => by cases e
    exact F.ne a b ha hb' hab g e
/-- a step that writes a variable -/
theorem G.store (hok : okK ks ops = true) (F : G ks ops W l w vs) {i c : Nat} (h0 : l.getD i true = false) (hd : ∀ j ∈ deps ops i, On l j) {z t ds f} (hk : ks.getD c .non = .cell z t i ds f) {g : Nat} (hg : vs.getD c undef = .pointer (some ⟨g, 0, none⟩)) {w' : World} (hb : Below W.heap.size W w') (hkeep : ∀ g', g' ≠ g → w'.heap[g']? = w.heap[g']?) (hnew : Bx w' g (f (argsOf vs ds)) t) : G ks ops W (l.setIfInBounds i true) w' vs := by
  obtain ⟨hds, hci, hki, huniq⟩ := ok_cell hok hk
  have hc := hd c hci
  have hac : adr (ks.getD c .non) (vs.getD c undef) = some g := by rw [hk, hg]; rfl
  refine ⟨hb, cl_set F h0 hd, ?_, ?_⟩
  · intro j hj
    rcases (on_set h0 j).1 hj with rfl | h
    · rw [hki]; trivial
    · have hf := F.fs j h
      cases e : ks.getD j .non with
      | non => trivial
      | val ds f => rw [e] at hf; exact hf
      | blk n ds' f' t' =>
        rw [e] at hf
        obtain ⟨g', h1, h2⟩ := hf
        refine ⟨g', h1, h2.keep (hkeep g' ?_)⟩
        rintro rfl
        have hjc : c ≠ j := by
          rintro rfl
          rw [e] at hk
          cases hk
        exact F.ne c j hc h hjc g' hac (by rw [e, h1]; rfl)
      | cell z' t' s' ds' f' =>
        rw [e] at hf
        obtain ⟨g', h1, h2, h3, h4⟩ := hf
        by_cases hjc : j = c
        · subst hjc
          rw [hk] at e
          cases e
          rw [hg] at h1
          cases h1
          exact ⟨g, hg, h2, fun hn => absurd ((on_set h0 i).2 (Or.inl rfl)) hn, fun _ => hnew⟩
        · have hsi : s' ≠ i := huniq j z' t' s' ds' f' e hjc
          have hne : g' ≠ g := by
            rintro rfl
            exact F.ne c j hc h (Ne.symm hjc) g' hac (by rw [e, h1]; rfl)
          exact ⟨g', h1, h2, fun hn => (h3 fun hs => hn ((on_set h0 s').2 (Or.inr hs))).keep (hkeep g' hne), fun hs => (h4 (((on_set h0 s').1 hs).resolve_left hsi)).keep (hkeep g' hne)⟩
  · intro a b ha hb' hab g e
    rcases (on_set h0 a).1 ha with rfl | ha
    · rw [hki] at e; cases e
    rcases (on_set h0 b).1 hb' with rfl | hb'
    · rw [hki]; exact fun e => by cases e
    exact F.ne a b ha hb' hab g e
theorem G.start (ks : List Kd) (ops : Array Oper) {W : World} {l : Array Bool} (hl : ∀ j, ¬ On l j) (vs : List Value) : G ks ops W l { W with drawn := W.drawn + 1 } vs :=
  ⟨L.below_drew W, fun j h => absurd h (hl j), fun j h => absurd h (hl j), fun i _ h => absurd h (hl i)⟩
end
end Go.Proofs.YtkjefigebdbkaaaDoor.P
namespace Go.Proofs.YtkjefigebdbkaaaDoor.P
open Go.RowKit
structure IS (F : Nat → Value → World → Prop) (W : World) (l : Array Bool) (w : World) (vs : List Value) : Prop where
  bel : Below W.heap.size W w
  f : ∀ j, On l j → F j (vs.getD j undef) w
theorem IS.step {F : Nat → Value → World → Prop} (hF : ∀ j x w w', F j x w → Below w.heap.size w w' → F j x w') {W : World} {l : Array Bool} {w w' : World} {vs : List Value} (h : IS F W l w vs) {i : Nat} (h0 : l.getD i true = false) (hi : i < vs.length) (hb : Below w.heap.size w w') {x : Value} (hx : F i x w') :
    IS F W (l.setIfInBounds i true) w' (vs.set i x) := by
  refine ⟨h.bel.trans (hb.mono h.bel.size), fun j hj => ?_⟩
  by_cases e : j = i
  · subst e; rw [getD_self hi]; exact hx
  · rw [getD_other e]
    exact hF _ _ _ _ (h.f j (((on_set h0 j).1 hj).resolve_left e)) hb
theorem IS.start (F : Nat → Value → World → Prop) (W : World) {l : Array Bool} (hl : ∀ j, ¬ On l j) (vs : List Value) : IS F W l { W with drawn := W.drawn + 1 } vs := ⟨L.below_drew W, fun j hj => absurd hj (hl j)⟩
end Go.Proofs.YtkjefigebdbkaaaDoor.P
namespace Go.Proofs.YtkjefigebdbkaaaDoor.N
open Go.RowKit

/-- all that lay below n₀ lies as it lay, but perhaps block b; and all cells from B on -/
structure KC (b : Option Nat) (n₀ B : Nat) (W W' : World) : Prop where
  size : W.heap.size ≤ W'.heap.size
  low : ∀ k, k < n₀ → some k ≠ b → W'.heap[k]? = W.heap[k]?
  keep : ∀ (k : Nat) (o : Obj), B ≤ k → W.heap[k]? = some o → o.isCells = true → W'.heap[k]? = some o
theorem KC.refl (b : Option Nat) (n₀ B : Nat) (W : World) : KC b n₀ B W W := ⟨Nat.le_refl _, fun _ _ _ => rfl, fun _ _ _ h _ => h⟩
theorem KC.trans {b : Option Nat} {n₀ B : Nat} {W W' W'' : World} (h : KC b n₀ B W W') (h2 : KC b n₀ B W' W'') : KC b n₀ B W W'' :=
  ⟨Nat.le_trans h.size h2.size, fun k hk hb => (h2.low k hk hb).trans (h.low k hk hb), fun k o hB hk ho => h2.keep k o hB (h.keep k o hB hk ho) ho⟩
theorem KC.putObj {b : Option Nat} {n₀ B : Nat} {w : World} (hn : n₀ ≤ w.heap.size) (W : World) (l : Nat) (o o' : Obj) (hl : w.heap.size ≤ l) (h : W.heap[l]? = some o) (ho : o.isCells = false) (_ : o.isWalk = false) : KC b n₀ B W (W.putObj l o') :=
  ⟨by simp [World.putObj], fun k hk _ => World.putObj_heap_other (by omega), fun k x _ hk hx => by
    by_cases e : k = l
    · subst e; rw [h] at hk; cases hk; rw [ho] at hx; cases hx
    · exact (World.putObj_heap_other e).trans hk⟩
theorem KC.alloc {b : Option Nat} {n₀ B : Nat} (W : World) (hn : n₀ ≤ W.heap.size) (o : Obj) : KC b n₀ B W (W.alloc o) :=
  ⟨by simp, fun k hk _ => Below.heap_alloc W o k (by omega), fun k _ _ hk _ => (Below.heap_alloc W o k (Array.getElem?_eq_some_iff.1 hk).1).trans hk⟩
theorem KC.of_below {b : Option Nat} {n₀ B : Nat} {W W' : World} (hn : n₀ ≤ W.heap.size) (h : Below W.heap.size W W') : KC b n₀ B W W' :=
  ⟨h.size, fun k hk _ => h.block k (by omega), fun k _ _ hk _ => (h.block k (Array.getElem?_eq_some_iff.1 hk).1).trans hk⟩
/-- a store into block b -/
theorem KC.setCell {n₀ B : Nat} (W : World) {b o : Nat} (hB : b < B) (v : Value) : KC (some b) n₀ B W (W.setCell ⟨b, o, none⟩ v) :=
  ⟨by simp [World.setCell], fun k _ hb => Below.heap_setCell W ⟨b, o, none⟩ v k (fun e => hb (by rw [e])), fun k _ hk h _ => (Below.heap_setCell W ⟨b, o, none⟩ v k (by show k ≠ b; omega)).trans h⟩
/-- block b is a variable's box -/
def OneBox (b : Option Nat) (W : World) : Prop := ∀ g, b = some g → ∃ v t, W.heap[g]? = some (.cells #[v] t)
theorem kc_cell {b : Option Nat} {n B : Nat} {W W' : World} (hb : OneBox b W) (h : KC b n B W W') {g i : Nat} {u : Value} (hu : W.cell? ⟨g, i + 1, none⟩ = some u) (hg : g < n) (i' : Nat) : W'.cell? ⟨g, i', none⟩ = W.cell? ⟨g, i', none⟩ := by
  refine World.cell?_of_block (w := W) (h.low g hg (fun e => ?_))
  obtain ⟨v, t, h2⟩ := hb g e.symm
  simp [World.cell?, h2] at hu
mutual
theorem exAt_kc {b : Option Nat} {B : Nat} {W W' : World} (hb : OneBox b W) (h : KC b W.heap.size B W W') : ∀ (e : A.Ex) {g i : Nat}, A.ExAt W e g i → A.ExAt W' e g i
  | .mk o n s l, g, i, he => by
    have hlt := he.lt
    rw [A.ExAt] at he ⊢
    obtain ⟨h0, h1, h2, a, c, h3, h4⟩ := he
    have hx := kc_cell hb h h1 hlt
    refine ⟨(hx _).trans h0, (hx _).trans h1, (hx _).trans h2, a, c, (hx _).trans h3, ?_⟩
    rcases h4 with h4 | ⟨b2, i2, ha, h5⟩
    · exact Or.inl h4
    · exact Or.inr ⟨b2, i2, ha, exsAt_kc hb h l h5⟩
theorem exsAt_kc {b : Option Nat} {B : Nat} {W W' : World} (hb : OneBox b W) (h : KC b W.heap.size B W W') : ∀ (l : List A.Ex) {g i : Nat}, A.ExsAt W l g i → A.ExsAt W' l g i
  | [], _, _, _ => by rw [A.ExsAt]; trivial
  | e :: r, g, i, he => by
    rw [A.ExsAt] at he ⊢
    exact ⟨exAt_kc hb h e he.1, exsAt_kc hb h r he.2⟩
end
theorem kids_kc {b : Option Nat} {B : Nat} {W W' : World} (hb : OneBox b W) (h : KC b W.heap.size B W W') {a : Option Addr} {l : List A.Ex} (hk : A.Kids W a l) : A.Kids W' a l := by
  rcases hk with hk | ⟨g, i, ha, hk⟩
  · exact Or.inl hk
  · exact Or.inr ⟨g, i, ha, exsAt_kc hb h l hk⟩
end Go.Proofs.YtkjefigebdbkaaaDoor.N
namespace Go.Proofs.YtkjefigebdbkaaaDoor.N
open Go.RowKit Go.Shelf
open A (Ex exV exO okE)
attribute [local go_sem] Oper.semAt_some

theorem exV_mk' (o n : Int) (s : ByteArray) (l : List Ex) (a : Option Addr) (c : Nat) : exV (.mk o n s l) a c = .agg #[.int .i64 o, .int .i64 n, .string s, .slice a l.length c] := rfl
theorem room_of_none {F : Fence} (hd : F.depth = none) (k : Nat) : F.room k := fun d h => by rw [hd] at h; cases h
theorem round_depth {F : Fence} (hd : F.depth = none) {m m' : Nat} {P : Program} {l : Nat} {f : FuncId} {tmps : Array Value} {assign body : Code} {w : World} {R : Ending → World → Prop}
    (h : RoundIn F m P l f tmps assign body w R) : RoundIn F m' P l f tmps assign body w R := ⟨h.1, fun c cs _ => h.2 c cs (room_of_none hd _)⟩
theorem yield_depth {F : Fence} (hd : F.depth = none) {m : Nat} (m' : Nat) {P : Program} {l : Nat} {args : Array Value} {W : World} {R : Ending → World → Prop} (h : YieldAt F m P l args W R) : YieldAt F m' P l args W R := by
  obtain ⟨fn, tmps, assign, body, hy, hR⟩ := h
  exact ⟨fn, tmps, assign, body, hy, round_depth hd hR⟩
/-- a node, and where its operands lie -/
structure Nd where
  e : Ex
  a : Option Addr
  c : Nat
def Nd.v (x : Nd) : Value := exV x.e x.a x.c
def Nd.op (x : Nd) : Int := x.e.op
/-- what visit returns -/
def Visited (e : Ex) (pre : List Nd) (J Jx : List Nd → World → Prop) (b : Option Nat) (n₀ B : Nat) (W : World) (e' : Ending) (W' : World) : Prop :=
  (e' = .returned (.bool true) ∧ (∃ xs, xs.map Nd.op = ops e ∧ J (pre ++ xs) W') ∧ KC b n₀ B W W') ∨ (e' = .returned (.bool false) ∧ ∃ xs, xs.map Nd.op <+: ops e ∧ Jx (pre ++ xs) W')
def QV (F : Fence) (b : Option Nat) (l B N : Nat) (J Jx : List Nd → World → Prop) (w0 : World) (e : Ex) : Prop := ∀ (n : Nat) (pre : List Nd) (a : Option Addr) (c : Nat) (W : World), okE e → A.Kids w0 a e.args → KC b w0.heap.size B w0 W → B ≤ W.heap.size → J pre W → pre.length + (ops e).length ≤ N →
  CallsIn F n Tryd.prog 114 #[exV e a c, .func (.yield l) #[] #[]] W (Visited e pre J Jx b w0.heap.size B W)
theorem take_flat {l : List Ex} {k : Nat} (hk : k < l.length) : (l.take (k + 1)).flatMap ops = (l.take k).flatMap ops ++ ops l[k] := by
  rw [List.take_succ_eq_append_getElem hk, List.flatMap_append]
  simp
theorem take_pre (l : List Ex) (k : Nat) : (l.take k).flatMap ops <+: l.flatMap ops := by
  conv => rhs; rw [← List.take_append_drop k l]
  rw [List.flatMap_append]
  exact List.prefix_append _ _
set_option maxHeartbeats 8000000 in
set_option maxRecDepth 100000 in
theorem visit_in (F : Fence) (hd : F.depth = none) (hv : F.fn 114) (hro : F.round = none) (b : Option Nat) (l B N : Nat) (J Jx : List Nd → World → Prop) (w0 : World) (hbx : OneBox b w0)
    (hJa : ∀ s W o, J s W → J s (W.alloc o))
    (hY : ∀ m pre x W, J pre W → pre.length < N → YieldAt F m Tryd.prog l #[Nd.v x] W fun e W' => (e = .returned (.bool true) ∧ J (pre ++ [x]) W' ∧ KC b w0.heap.size B W W') ∨ (e = .returned (.bool false) ∧ Jx (pre ++ [x]) W')) :
    ∀ e, QV F b l B N J Jx w0 e := by
  refine A.Ex.ind (P := QV F b l B N J Jx w0) ?_
  intro o m s t ih n pre a c W hok hK hb0 hB hJ hN
  have hK' : A.Kids w0 a t := hK
  have hn0 : w0.heap.size ≤ W.heap.size := hb0.size
  have hok' : ∀ x ∈ t, okE x := by
    rw [okE] at hok
    exact fun x hx => by
      obtain ⟨j, hj, rfl⟩ := List.getElem_of_mem hx
      exact A.okEs.get hok.2.2.2.2 j hj
  have hll : t.length ≤ 1000000000000000 := by rw [okE] at hok; exact hok.2.2.2.1
  have hops : ops (.mk o m s t) = o :: t.flatMap ops := ops_mk o m s t
  have hdd : ∀ k : Nat, (F.depth.isSome = true → 1 ≤ k) := fun k h => by rw [hd] at h; cases h
  obtain ⟨W1, hW1⟩ : ∃ W1, W.alloc (.cells #[.int .i64 o, .int .i64 m, .string s, .slice a t.length c] 46) = W1 := ⟨_, rfl⟩
  have hk1 : KC b w0.heap.size B W W1 := by rw [← hW1]; exact KC.alloc W hn0 _
  have hJ1 : J pre W1 := by rw [← hW1]; exact hJa _ _ _ hJ
  have hsz1 : W1.heap.size = W.heap.size + 1 := by rw [← hW1]; simp
  have hbl : W1.heap[W.heap.size]? = some (.cells #[.int .i64 o, .int .i64 m, .string s, .slice a t.length c] 46) := by rw [← hW1]; exact World.alloc_heap_new W _
  have hpl : pre.length < N := by rw [hops] at hN; simp only [List.length_cons] at hN; omega
  obtain ⟨fn, tmps, assign, body, hy, hR⟩ := hY (n - 1) pre ⟨.mk o m s t, a, c⟩ W1 hJ1 hpl
  have hR2 : RoundIn F (n - 1) Tryd.prog l fn tmps assign body W1 fun e W2 => (e = .returned (.bool true) ∧ J (pre ++ [⟨.mk o m s t, a, c⟩]) W2 ∧ KC b w0.heap.size B W1 W2 ∧ W2.cell? ⟨W.heap.size, 3, none⟩ = some (.slice a t.length c)) ∨ (e = .returned (.bool false) ∧ Jx (pre ++ [⟨.mk o m s t, a, c⟩]) W2) := by
    refine hR.mono fun e W2 h => h.elim (fun ⟨h1, h2, h3⟩ => Or.inl ⟨h1, h2, h3, ?_⟩) Or.inr
    have hk := h3.keep W.heap.size _ hB hbl rfl
    simp [World.cell?, hk]
  simp only [Nd.v, exV_mk'] at hy
  simp only [exV_mk']
  refine callsIn_of_wp Tryd.func114 rfl hv ?_ hro
  simp only [Tryd.ntmps114, List.size_toArray, List.length_cons, List.length_nil, Nat.reduceAdd, Nat.reduceSub, Array.replicate_succ, Array.replicate_zero, List.push_toArray, List.append_toArray, List.nil_append, List.cons_append]
  have x0 : W1.cell? ⟨W.heap.size, 0, none⟩ = some (.int .i64 o) := by simp [World.cell?, hbl]
  have x1 : W1.cell? ⟨W.heap.size, 1, none⟩ = some (.int .i64 m) := by simp [World.cell?, hbl]
  have x2 : W1.cell? ⟨W.heap.size, 2, none⟩ = some (.string s) := by simp [World.cell?, hbl]
  have x3 : W1.cell? ⟨W.heap.size, 3, none⟩ = some (.slice a t.length c) := by simp [World.cell?, hbl]
  rw [← hW1] at hy x0 x1 x2 x3
  have HW1 := Lib.hid hW1
  have hbs : KC b w0.heap.size B w0 W1 := hb0.trans hk1
  rw [← hW1] at hR2
  have HR2 := Lib.hid hR2
  have HK1 := Lib.hid hk1
  have HKid := Lib.hid hK'
  have HBs := Lib.hid hbs
  have HOPS := Lib.hid hops
  have HZ1 := Lib.hid hsz1
  have HBB := Lib.hid hB
  have HN := Lib.hid hN
  have HIH : Hid (∀ (k : Nat) (h : k < t.length) (pre2 : List Nd) (a2 : Option Addr) (c2 : Nat) (W3 : World), A.Kids w0 a2 t[k].args → KC b w0.heap.size B w0 W3 → B ≤ W3.heap.size → J pre2 W3 → pre2.length + (ops t[k]).length ≤ N →
      CallsIn F (n - 1) Tryd.prog 114 #[exV t[k] a2 c2, .func (.yield l) #[] #[]] W3 (Visited t[k] pre2 J Jx b w0.heap.size B W3)) := fun k h pre2 a2 c2 W3 h1 h2 h3 h4 h5 => ih k h (n - 1) pre2 a2 c2 W3 (hok' _ (List.getElem_mem h)) h1 h2 h3 h4 h5
  obtain ⟨nd, hnd⟩ : ∃ nd : Nd, nd = ⟨.mk o m s t, a, c⟩ := ⟨_, rfl⟩
  have HND : Hid (nd.op = o) := by rw [hnd]; rfl
  rw [← hnd] at HR2
  have HJA := Lib.hid hJa
  obtain ⟨g, hg⟩ : ∃ g, t.length = g := ⟨_, rfl⟩
  have HL := Lib.hid hg
  rw [hg] at hy HR2 HW1 x0 x1 x2 x3 hll ⊢
  have HT0 : Hid ((t.take 0).flatMap ops = []) := rfl
  clear hR hR2 hW1 hbl hJ1 hJ hY hok hok' hK hb0 hN hk1 hbs hops hg hK' ih hJa hsz1 hB hpl hnd
  gi_wp2
  refine HR2.out.mono ?_
  clear HR2 hy
  rintro e2 W2 (⟨rfl, hJ2, hk2, y3⟩ | ⟨rfl, hJx2⟩)
  · have HJ2 : Hid (J (pre ++ [nd]) W2) := hJ2
    rw [HW1.out] at hk2
    have HK2 := Lib.hid hk2
    clear hJ2 hk2 x0 x1 x2 x3
    gi_wp2
    gi_loopw [14] (fun s14 wr => ∃ (k : Nat) (xs : List Nd), k ≤ g ∧ s14 = .int .i64 k ∧ Hid (xs.map Nd.op = (t.take k).flatMap ops) ∧ Hid (J (pre ++ nd :: xs) wr) ∧ Hid (KC b w0.heap.size B W2 wr)) (fun s14 _ => g - (intOf s14).toNat)
    case atStart => exact ⟨0, [], Nat.zero_le _, rfl, rfl, HJ2, KC.refl _ _ _ _⟩
    case round =>
      obtain ⟨k, xs, hk, rfl, HX, HJr, HKr⟩ := hrel
      by_cases hlt : k < g
      · have hlx : k < t.length := by rw [HL.out]; exact hlt
        have HBr := Lib.hid ((HBs.out.trans HK2.out).trans HKr.out)
        obtain ⟨b2, i2, rfl, hat⟩ := (kids_kc hbx HBr.out HKid.out).open hlx
        obtain ⟨_, _, ha, hat0⟩ := HKid.out.open hlx
        cases ha
        obtain ⟨d0, d1, d2, a2, cc, d3, hk2⟩ := hat.open
        obtain ⟨-, d1', -, a3, c3, d3', hk3⟩ := hat0.open
        have hsame := (kc_cell hbx HBr.out d1' hat0.lt (i2 + k * 4 + 3)).trans d3'
        rw [d3] at hsame
        injection hsame with hsame
        injection hsame with hs1 hs2 hs3
        subst hs1 hs3
        have hlen : pre.length + 1 + xs.length + (ops t[k]).length ≤ N := by
          have h1 := HN.out
          rw [HOPS.out] at h1
          have h2 := congrArg List.length HX.out
          rw [List.length_map] at h2
          have h3 := take_flat hlx
          have h4 := (take_pre t (k + 1)).length_le
          rw [h3, List.length_append] at h4
          simp only [List.length_cons] at h1
          omega
        have HC := Lib.hid (fun (W3 : World) (o3 : Obj) (e3 : W3 = wr.alloc o3) => HIH.out k hlx (pre ++ nd :: xs) a2 cc W3 hk3 (by rw [e3]; exact HBr.out.trans (KC.alloc wr HBr.out.size o3)) (by rw [e3]; have h1 := HBB.out; have h2 := HK1.out.size; have h3 := HK2.out.size; have h4 := HKr.out.size; simp; omega) (by rw [e3]; exact HJA.out _ _ _ HJr.out) (by rw [List.length_append, List.length_cons]; omega))
        have HX2 : Hid (∀ ys : List Nd, ys.map Nd.op = ops t[k] → (xs ++ ys).map Nd.op = (t.take (k + 1)).flatMap ops) := by
          intro ys hys
          rw [List.map_append, HX.out, hys, take_flat hlx]
        have HX3 : Hid (∀ ys : List Nd, ys.map Nd.op <+: ops t[k] → (nd :: (xs ++ ys)).map Nd.op <+: o :: t.flatMap ops) := by
          intro ys hys
          rw [List.map_cons, HND.out, List.map_append, HX.out]
          refine List.prefix_cons_inj _ |>.2 (((List.prefix_append_right_inj _).2 hys).trans ?_)
          rw [← take_flat hlx]
          exact take_pre _ _
        clear hat hat0 hk2 hk3 d1' d3' hlen
        unfold exV at HC
        generalize t[k].args.length = m2 at d3 HC
        generalize t[k].op = o2 at d0 HC
        generalize t[k].n = n2 at d1 HC
        generalize t[k].s = s2 at d2 HC
        generalize t[k] = ek at HC HX2 HX3
        gi_wp2_with ((try refine ⟨hdd _, ?_⟩); gi_at_call 114; refine (HC.out _ _ rfl).mono ?_; clear HC; rintro e3 W3 (⟨rfl, ⟨ys, hys, hJ3⟩, hk3⟩ | ⟨rfl, ys, hys, hJx3⟩))
        · go_roundw
          case rel => exact ⟨k + 1, xs ++ ys, by omega, by go_num, HX2.out ys hys, by rw [← List.cons_append, ← List.append_assoc]; exact hJ3, HKr.out.trans ((KC.alloc wr HBr.out.size _).trans hk3)⟩
          case measure => simp [intOf]; omega
        · go_ret
          refine Or.inr ⟨rfl, nd :: (xs ++ ys), ?_, ?_⟩
          · rw [HOPS.out]; exact HX3.out ys hys
          · rw [← List.cons_append, ← List.append_assoc]; exact hJx3
      · have hx := HX.out
        rw [List.take_of_length_le (by have := HL.out; omega)] at hx
        have HV : Hid (Visited (.mk o m s t) pre J Jx b w0.heap.size B W (.returned (.bool true)) wr) := by
          refine Or.inl ⟨rfl, ⟨nd :: xs, ?_, HJr.out⟩, HK1.out.trans (HK2.out.trans HKr.out)⟩
          rw [HOPS.out, List.map_cons, HND.out, hx]
        clear hx
        gi_wp2
        go_ret
        exact HV.out
  · have HV : Hid (Visited (.mk o m s t) pre J Jx b w0.heap.size B W (.returned (.bool false)) W2) := by
      refine Or.inr ⟨rfl, [nd], ?_, hJx2⟩
      rw [HOPS.out, List.map_cons, HND.out]
      exact List.prefix_cons_inj _ |>.2 (List.nil_prefix)
    clear hJx2
    gi_wp2
    go_ret
    exact HV.out
/-- the closure of nodes: it visits the expression of its box -/
theorem nodes_stops (b : Option Nat) (F : Fence) (hd : F.depth = none) (n : Nat) (hv : F.fn 114) (h86 : F.fn 113) (hro : F.round = none) (Bt : Nat) (e : Ex) (a : Option Addr) (c : Nat) (w : World) (hok : okE e) (hbl : w.heap[Bt]? = some (exO e a c)) (hK : A.Kids w a e.args) (hbx : OneBox b w) :
    SeqStopsK F n Tryd.prog 113 #[.pointer (some ⟨Bt, 0, none⟩)] (fun x : Nd => #[x.v]) (KC b w.heap.size w.heap.size) (fun xs => xs.map Nd.op = ops e) (fun xs => xs.map Nd.op <+: ops e) (ops e).length w := by
  intro l J Jx W hW hJa hJxa hY h0
  have hlt : Bt < w.heap.size := (Array.getElem?_eq_some_iff.1 hbl).1
  have hbW : W.heap[Bt]? = some (exO e a c) := (hW.block Bt hlt).trans hbl
  have hJal : ∀ s W o, J s W → J s (W.alloc o) := fun s X o h => hJa s X _ none h (World.grownBy_alloc X o none) (fun r e => by cases e)
  have hp := visit_in F hd hv hro b l w.heap.size (ops e).length J Jx w hbx hJal (fun m pre x X hj hl => yield_depth hd m (hY pre x X hj hl)) e (n - 1) [] a c W hok hK (KC.of_below (Nat.le_refl _) hW) hW.size h0 (by simp)
  have hdd : ∀ k : Nat, (F.depth.isSome = true → 1 ≤ k) := fun k h => by rw [hd] at h; cases h
  have x0 : W.cell? ⟨Bt, 0, none⟩ = some (.int .i64 e.op) := by simp [World.cell?, hbW, exO]
  have x1 : W.cell? ⟨Bt, 1, none⟩ = some (.int .i64 e.n) := by simp [World.cell?, hbW, exO]
  have x2 : W.cell? ⟨Bt, 2, none⟩ = some (.string e.s) := by simp [World.cell?, hbW, exO]
  have x3 : W.cell? ⟨Bt, 3, none⟩ = some (.slice a e.args.length c) := by simp [World.cell?, hbW, exO]
  have HP := Lib.hid hp
  have HR : Hid (∀ e' W', Visited e [] J Jx b w.heap.size w.heap.size W e' W' → (∃ v, e' = .returned v) ∧ ((∃ xs, xs.map Nd.op = ops e ∧ J xs W') ∨ (∃ pre, pre.map Nd.op <+: ops e ∧ Jx pre W'))) := by
    rintro e' W' (⟨rfl, ⟨ys, hys, hJ3⟩, hk3⟩ | ⟨rfl, ys, hys, hJx3⟩)
    · exact ⟨⟨_, rfl⟩, Or.inl ⟨ys, hys, by simpa using hJ3⟩⟩
    · exact ⟨⟨_, rfl⟩, Or.inr ⟨ys, hys, by simpa using hJx3⟩⟩
  unfold exV at HP
  generalize e.args.length = m2 at x3 HP
  generalize e.op = o2 at x0 HP
  generalize e.n = n2 at x1 HP
  generalize e.s = s2 at x2 HP
  clear hp hbW hbl hJal hY h0 hJa hJxa hW hK hok
  refine callsIn_of_wp Tryd.func113 rfl h86 ?_ hro
  simp only [Tryd.ntmps113, List.size_toArray, List.length_cons, List.length_nil, Nat.reduceAdd, Nat.reduceSub, Array.replicate_succ, Array.replicate_zero, List.push_toArray, List.append_toArray, List.nil_append, List.cons_append]
  gi_wp2_with ((try refine ⟨hdd _, ?_⟩); gi_at_call 114; refine HP.out.mono ?_; intro e3 W3 h3; have HV := Lib.hid (HR.out _ _ h3); rcases h3 with ⟨rfl, -, -⟩ | ⟨rfl, -⟩)
  all_goals
    go_end0
    exact ⟨⟨_, rfl⟩, HV.out.2⟩
end Go.Proofs.YtkjefigebdbkaaaDoor.N
