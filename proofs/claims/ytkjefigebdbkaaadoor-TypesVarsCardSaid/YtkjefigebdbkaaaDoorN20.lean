/-
  A region in whatever order, by an invariant.
  A region in whatever order: what holds of each number, once it has come up, said by kinds.
-/
import Derived.Test.YtkjefigebdbkaaaDoorN08
import Derived.Deep.RegionLaw
import Derived.Deep.RegionWith
namespace Go.Proofs.YtkjefigebdbkaaaDoor.P
open Go.RowKit
/-- number j has come up -/
abbrev On (l : Array Bool) (j : Nat) : Prop := l.getD j false = true
theorem on_set {l : Array Bool} {i : Nat} (hi : l.getD i true = false) (j : Nat) : On (l.setIfInBounds i true) j ↔ (j = i ∨ On l j) := by
  unfold On
  by_cases h : i = j
  · subst h
    have hlt : i < l.size := by
      rcases Nat.lt_or_ge i l.size with h' | h'
      · exact h'
      · simp [Array.getElem?_eq_none h'] at hi
    simp [hlt]
  · rw [getD_set_ne false h]
    constructor
    · exact Or.inr
    · rintro (e | e)
      · exact absurd e.symm h
      · exact e
/-- what number i waits for -/
def deps (ops : Array Oper) (i : Nat) : List Nat := match ops[i]? with
  | none => []
  | some o => (o.after.toList.filter (Region.binds .any)).map (·.on)
def backs (ops : Array Oper) : Bool := (List.range ops.size).all fun i => (deps ops i).all (decide <| · < i)
theorem deps_of {ops : Array Oper} {i : Nat} {o : Oper} (ho : ops[i]? = some o) {l : Array Bool} (h : ∀ e ∈ o.after, Region.binds .any e = true → On l e.on) : ∀ j ∈ deps ops i, On l j := by
  intro j hj
  unfold deps at hj
  rw [ho] at hj
  obtain ⟨e, he, rfl⟩ := List.mem_map.1 hj
  obtain ⟨h1, h2⟩ := List.mem_filter.1 he
  exact h e (Array.mem_def.2 h1) h2
theorem mem_deps {ops : Array Oper} {i : Nat} {o : Oper} (ho : ops[i]? = some o) {e : Edge} (he : e ∈ o.after) (hb : Region.binds .any e = true) : e.on ∈ deps ops i := by
  unfold deps
  rw [ho]
  exact List.mem_map.2 ⟨e, List.mem_filter.2 ⟨Array.mem_def.1 he, hb⟩, rfl⟩
theorem wpAny_inv {P : Program} {ops : Array Oper} {Q : Exit → Act → World → Prop} (I : Array Bool → Act → World → Prop)
    (hback : backs ops = true)
    (hstep : ∀ l a w, I l a w → ∀ i, i < ops.size → l.getD i true = false → (∀ j ∈ deps ops i, On l j) → wpOp P ops Q i (I (l.setIfInBounds i true)) a w)
    (hdone : ∀ l a w, I l a w → (∀ j, j < ops.size → On l j) → Q .normal a w) :
    ∀ (fuel : Nat) (l : Array Bool) (a : Act) (w : World), l.size = ops.size → I l a w → l.toList.count false ≤ fuel → wpAny P .any ops Q fuel l a w := by
  have hend : ∀ (l : Array Bool), l.size = ops.size → Region.ready .any ops l = [] → ∀ j, j < ops.size → On l j := by
    intro l hl hr j
    induction j using Nat.strongRecOn with
    | ind j ih =>
      intro hj
      by_cases h : l.getD j true = false
      · have : j ∈ Region.ready .any ops l := mem_ready.2 ⟨h, ops[j], Array.getElem?_eq_getElem hj, fun e he hb => by
          have hlt : e.on < j := of_decide_eq_true (List.all_eq_true.1 (List.all_eq_true.1 hback j (List.mem_range.2 hj)) e.on (mem_deps (Array.getElem?_eq_getElem hj) he hb))
          exact ih _ hlt (Nat.lt_trans hlt hj)⟩
        rw [hr] at this
        cases this
      · have hj' : j < l.size := by omega
        unfold On
        simp [hj'] at h ⊢
        exact h
  intro fuel
  induction fuel with
  | zero =>
    intro l a w hl hI hc
    have hr : Region.ready .any ops l = [] := by
      rw [List.eq_nil_iff_forall_not_mem]
      intro i hi
      have h := (mem_ready.1 hi).1
      have hm : false ∈ l.toList := by
        rcases Nat.lt_or_ge i l.size with h' | h'
        · simp [h'] at h
          rw [← h]
          simp
        · simp [Array.getElem?_eq_none h'] at h
      have := List.count_pos_iff.2 hm
      omega
    exact ⟨hr, hdone l a w hI (hend l hl hr)⟩
  | succ fuel ih =>
    intro l a w hl hI hc
    refine ⟨fun hr => hdone l a w hI (hend l hl hr), fun i hi => ?_⟩
    obtain ⟨h0, o, ho, hall⟩ := mem_ready.1 hi
    have hlt : i < l.size := by
      rcases Nat.lt_or_ge i l.size with h' | h'
      · exact h'
      · simp [Array.getElem?_eq_none h'] at h0
    refine wpOp_mono (fun a' w' h => ih _ a' w' (by simpa using hl) h ?_) (hstep l a w hI i (by omega) h0 (deps_of ho hall))
    have hv : l[i] = false := by simpa [hlt] using h0
    have hm : 0 < l.toList.count false := List.count_pos_iff.2 (by rw [← hv]; simp)
    rw [Array.toList_setIfInBounds, List.count_set (by simpa using hlt)]
    simp [hv]; rw [← Array.count_toList]
    omega
theorem wp_region_inv {P : Program} {id : Nat} {ops : Array Oper} {Q : Exit → Act → World → Prop} {a : Act} {w : World} (hm : P.follows .mixedOrders = true) (I : Array Bool → Act → World → Prop)
    (hback : backs ops = true)
    (h0 : ∀ l, (∀ j, ¬ On l j) → I l a { w with drawn := w.drawn + 1 })
    (hstep : ∀ l a w, I l a w → ∀ i, i < ops.size → l.getD i true = false → (∀ j ∈ deps ops i, On l j) → wpOp P ops Q i (I (l.setIfInBounds i true)) a w)
    (hdone : ∀ l a w, I l a w → (∀ j, j < ops.size → On l j) → Q .normal a w) : (Code.region id ops true).wp P Q a w := by
  refine wp_region_any hm (wpAny_inv I hback hstep hdone _ _ _ _ (by simp) (h0 _ (fun j h => ?_)) (by simp))
  unfold On at h
  by_cases hj : j < ops.size
  · simp [hj] at h
  · simp [Array.getElem?_eq_none (show (Array.replicate ops.size false).size ≤ j by simpa using hj)] at h
end Go.Proofs.YtkjefigebdbkaaaDoor.P
namespace Go.Proofs.YtkjefigebdbkaaaDoor.P
open Go.RowKit
open A (Bx)
theorem off_of {l : Array Bool} {i : Nat} (h : l.getD i true = false) : ¬ On l i := fun h2 => by
  unfold On at h2
  rcases Nat.lt_or_ge i l.size with h' | h'
  · simp [h'] at h h2; rw [h] at h2; cases h2
  · simp [Array.getElem?_eq_none h'] at h
/-- what a number of a region does: a value out of others; a new block, of which a slice is taken; a new variable, which number s writes; nothing that is kept -/
inductive Kd where
  | val (ds : List Nat) (f : List Value → Value)
  | blk (n : Nat) (ds : List Nat) (f : List Value → Array Value) (t : TypeId)
  | cell (z : Array Value) (t : TypeId) (s : Nat) (ds : List Nat) (f : List Value → Array Value)
  | non
def argsOf (vs : List Value) (ds : List Nat) : List Value := ds.map fun d => vs.getD d undef
def fact (W : World) (l : Array Bool) (w : World) (vs : List Value) (j : Nat) : Kd → Prop
  | .val ds f => vs.getD j undef = f (argsOf vs ds)
  | .blk n ds f t => ∃ g, vs.getD j undef = .slice (some ⟨g, 0, none⟩) n n ∧ Bx w g (f (argsOf vs ds)) t
  | .cell z t s ds f => ∃ g, vs.getD j undef = .pointer (some ⟨g, 0, none⟩) ∧ W.heap.size ≤ g ∧ (¬ On l s → Bx w g z t) ∧ (On l s → Bx w g (f (argsOf vs ds)) t)
  | .non => True
def adr : Kd → Value → Option Nat
  | .blk _ _ _ _, .slice (some ⟨g, _, _⟩) _ _ => some g
  | .cell _ _ _ _ _, .pointer (some ⟨g, _, _⟩) => some g
  | _, _ => none
/-- what number j waits for, and what these wait for -/
def far (ops : Array Oper) (j : Nat) : List Nat := deps ops j ++ (deps ops j).flatMap (deps ops)
/-- each number's values are of numbers that it waits for -/
def okK (ks : List Kd) (ops : Array Oper) : Bool := (List.range ks.length).all fun j => match ks.getD j .non with
  | .val ds _ => ds.all fun d => (far ops j).contains d
  | .blk _ ds _ _ => ds.all fun d => (far ops j).contains d
  | .cell _ _ s ds _ => (ds.all fun d => (far ops s).contains d) && (deps ops s).contains j && (match ks.getD s .non with | .non => true | _ => false) && (List.range ks.length).all fun k => match ks.getD k .non with
    | .cell _ _ s' _ _ => k == j || s != s'
    | _ => true
  | .non => true
structure G (ks : List Kd) (ops : Array Oper) (W : World) (l : Array Bool) (w : World) (vs : List Value) : Prop where
  bel : Below W.heap.size W w
  cl : ∀ j, On l j → ∀ k ∈ deps ops j, On l k
  fs : ∀ j, On l j → fact W l w vs j (ks.getD j .non)
  ne : ∀ i j, On l i → On l j → i ≠ j → ∀ g, adr (ks.getD i .non) (vs.getD i undef) = some g → adr (ks.getD j .non) (vs.getD j undef) ≠ some g
theorem getD_other {vs : List Value} {i j : Nat} (h : j ≠ i) (x : Value) : (vs.set i x).getD j undef = vs.getD j undef := by
  simp only [List.getD_eq_getElem?_getD]
  rw [List.getElem?_set_ne (Ne.symm h)]
theorem getD_self {vs : List Value} {i : Nat} (h : i < vs.length) (x : Value) : (vs.set i x).getD i undef = x := by
  simp only [List.getD_eq_getElem?_getD]
  rw [List.getElem?_set_self h]
  rfl
theorem argsOf_other {vs : List Value} {i : Nat} {ds : List Nat} (h : ∀ d ∈ ds, d ≠ i) (x : Value) : argsOf (vs.set i x) ds = argsOf vs ds := by
  unfold argsOf
  exact List.map_congr_left fun d hd => getD_other (h d hd) x
theorem kd_lt {ks : List Kd} {j : Nat} (h : ks.getD j .non ≠ .non) : j < ks.length := by
  rcases Nat.lt_or_ge j ks.length with h' | h'
  · exact h'
  · refine absurd ?_ h
    simp [List.getD_eq_getElem?_getD, List.getElem?_eq_none h']
section
variable {ks : List Kd} {ops : Array Oper} {W : World} {l : Array Bool} {w : World} {vs : List Value}
theorem okK_at (hok : okK ks ops = true) (j : Nat) (h : j < ks.length) : (match ks.getD j .non with
  | .val ds _ => ds.all fun d => (far ops j).contains d
  | .blk _ ds _ _ => ds.all fun d => (far ops j).contains d
  | .cell _ _ s ds _ => (ds.all fun d => (far ops s).contains d) && (deps ops s).contains j && (match ks.getD s .non with | .non => true | _ => false) && (List.range ks.length).all fun k => match ks.getD k .non with
    | .cell _ _ s' _ _ => k == j || s != s'
    | _ => true
  | .non => true) = true := List.all_eq_true.1 hok j (List.mem_range.2 h)
theorem sub_of {ds xs : List Nat} (h : (ds.all fun d => xs.contains d) = true) : ∀ d ∈ ds, d ∈ xs := fun d hd => by
  have := List.all_eq_true.1 h d hd
  simpa using this
theorem ok_val (hok : okK ks ops = true) {j : Nat} {ds f} (hk : ks.getD j .non = .val ds f) : ∀ d ∈ ds, d ∈ far ops j := by
  have h := okK_at hok j (kd_lt (by rw [hk]; exact fun h => by cases h))
  rw [hk] at h
  exact sub_of h
theorem ok_blk (hok : okK ks ops = true) {j : Nat} {n ds f t} (hk : ks.getD j .non = .blk n ds f t) : ∀ d ∈ ds, d ∈ far ops j := by
  have h := okK_at hok j (kd_lt (by rw [hk]; exact fun h => by cases h))
  rw [hk] at h
  exact sub_of h
theorem ok_cell (hok : okK ks ops = true) {j : Nat} {z t s ds f} (hk : ks.getD j .non = .cell z t s ds f) : (∀ d ∈ ds, d ∈ far ops s) ∧ j ∈ deps ops s ∧ ks.getD s .non = .non ∧ ∀ k z' t' s' ds' f', ks.getD k .non = .cell z' t' s' ds' f' → k ≠ j → s' ≠ s := by
  have h := okK_at hok j (kd_lt (by rw [hk]; exact fun h => by cases h))
  rw [hk] at h
  simp only [Bool.and_eq_true] at h
  obtain ⟨⟨⟨h1, h2⟩, h3⟩, h4⟩ := h
  refine ⟨sub_of h1, by simpa using h2, ?_, ?_⟩
  · cases e : ks.getD s .non with
    | non => rfl
    | _ => rw [e] at h3; cases h3
  · intro k z' t' s' ds' f' e hne
    have := List.all_eq_true.1 h4 k (List.mem_range.2 (kd_lt (by rw [e]; exact fun h => by cases h)))
    rw [e] at this
    simp only [Bool.or_eq_true, beq_iff_eq, bne_iff_ne] at this
    exact fun he => (this.resolve_left hne) he.symm
theorem far_on {k : Nat} (h1 : ∀ d ∈ deps ops k, On l d) (h2 : ∀ d ∈ deps ops k, ∀ d' ∈ deps ops d, On l d') : ∀ d ∈ far ops k, On l d := by
  intro d hd
  rcases List.mem_append.1 hd with h | h
  · exact h1 d h
  · obtain ⟨c, hc, hd⟩ := List.mem_flatMap.1 h
    exact h2 c hc d hd
theorem G.far (F : G ks ops W l w vs) {k : Nat} (h : On l k) : ∀ d ∈ far ops k, On l d := far_on (F.cl k h) fun d hd => F.cl d (F.cl k h d hd)
theorem G.far' (F : G ks ops W l w vs) {k : Nat} (h : ∀ d ∈ deps ops k, On l d) : ∀ d ∈ P.far ops k, On l d := far_on h fun d hd => F.cl d (h d hd)
/-- a fact is kept: the values that it speaks of stay, and so do the blocks -/
theorem fact_keep (hok : okK ks ops = true) (F : G ks ops W l w vs) {i : Nat} (h0 : l.getD i true = false) {w' : World} (hb : Below w.heap.size w w') (x : Value) (hi : ∀ j z t s ds f, ks.getD j .non = .cell z t s ds f → s ≠ i) {j : Nat} (hj : On l j) : fact W (l.setIfInBounds i true) w' (vs.set i x) j (ks.getD j .non) := by
  have hji : j ≠ i := fun e => off_of h0 (e ▸ hj)
  have h := F.fs j hj
  have hdep : ∀ k, On l k → ∀ d ∈ P.far ops k, d ≠ i := fun k hk d hd e => off_of h0 (e ▸ F.far hk d hd)
  cases e : ks.getD j .non with
  | non => trivial
  | val ds f =>
    rw [e] at h
    show (vs.set i x).getD j undef = f (argsOf (vs.set i x) ds)
    rw [getD_other hji, argsOf_other fun d hd => hdep j hj d (ok_val hok e d hd)]
    exact h
  | blk n ds f t =>
    rw [e] at h
    obtain ⟨g, h1, h2⟩ := h
    refine ⟨g, ?_, ?_⟩
    · rw [getD_other hji]; exact h1
    · rw [argsOf_other fun d hd => hdep j hj d (ok_blk hok e d hd)]
      exact h2.below hb
  | cell z t s ds f =>
    rw [e] at h
    obtain ⟨g, h1, h2, h3, h4⟩ := h
    refine ⟨g, by rw [getD_other hji]; exact h1, h2, fun hn => (h3 fun hs => hn ((on_set h0 s).2 (Or.inr hs))).below hb, fun hs => ?_⟩
    have hs := ((on_set h0 s).1 hs).resolve_left (hi j z t s ds f e)
    rw [argsOf_other fun d hd => hdep s hs d ((ok_cell hok e).1 d hd)]
    exact (h4 hs).below hb
theorem adr_lt (F : G ks ops W l w vs) {j : Nat} (hj : On l j) {g : Nat} (h : adr (ks.getD j .non) (vs.getD j undef) = some g) : g < w.heap.size := by
  have hf := F.fs j hj
  cases e : ks.getD j .non with
  | non => rw [e] at h; cases h
  | val ds f => rw [e] at h; cases h
  | blk n ds f t =>
    rw [e] at h hf
    obtain ⟨g', h1, h2⟩ := hf
    rw [h1] at h
    cases h
    exact h2.lt
  | cell z t s ds f =>
    rw [e] at h hf
    obtain ⟨g', h1, _, h3, h4⟩ := hf
    rw [h1] at h
    cases h
    by_cases hs : On l s
    · exact (h4 hs).lt
    · exact (h3 hs).lt
theorem cl_set (F : G ks ops W l w vs) {i : Nat} (h0 : l.getD i true = false) (hd : ∀ j ∈ deps ops i, On l j) : ∀ j, On (l.setIfInBounds i true) j → ∀ k ∈ deps ops j, On (l.setIfInBounds i true) k := by
  intro j hj k hk
  rcases (on_set h0 j).1 hj with rfl | h
  · exact (on_set h0 k).2 (Or.inr (hd k hk))
  · exact (on_set h0 k).2 (Or.inr (F.cl j h k hk))
/-- a step that makes a value, or calls -/
theorem G.val (hok : okK ks ops = true) (F : G ks ops W l w vs) {i : Nat} (h0 : l.getD i true = false) (hd : ∀ j ∈ deps ops i, On l j) {ds f} (hk : ks.getD i .non = .val ds f) (hl : i < vs.length) {w' : World} (hb : Below w.heap.size w w') {x : Value} (hx : x = f (argsOf vs ds)) : G ks ops W (l.setIfInBounds i true) w' (vs.set i x) := by
  have hi : ∀ j z t s ds f, ks.getD j .non = .cell z t s ds f → s ≠ i := fun j z t s ds f e he => by
    have := (ok_cell hok e).2.2.1
    rw [he, hk] at this
    cases this
  refine ⟨F.bel.trans (hb.mono F.bel.size), cl_set F h0 hd, ?_, ?_⟩
  · intro j hj
    rcases (on_set h0 j).1 hj with rfl | h
    · rw [hk]
      show (vs.set j x).getD j undef = f (argsOf (vs.set j x) ds)
      rw [getD_self hl, argsOf_other fun d hdd (e : d = j) => off_of h0 (e ▸ F.far' hd d (ok_val hok hk d hdd)), hx]
    · exact fact_keep hok F h0 hb x hi h
  · intro a b ha hb' hab g e
    rcases (on_set h0 a).1 ha with rfl | ha
    · rw [hk] at e; cases e
    rcases (on_set h0 b).1 hb' with rfl | hb'
    · rw [hk]; exact fun e => by cases e
    have hai : a ≠ i := fun e => off_of h0 (e ▸ ha)
    have hbi : b ≠ i := fun e => off_of h0 (e ▸ hb')
    rw [getD_other hai] at e
    rw [getD_other hbi]
    exact F.ne a b ha hb' hab g e
/-- a step that makes a block -/
theorem G.blk (hok : okK ks ops = true) (F : G ks ops W l w vs) {i : Nat} (h0 : l.getD i true = false) (hd : ∀ j ∈ deps ops i, On l j) {n ds f t} (hk : ks.getD i .non = .blk n ds f t) (hl : i < vs.length) {c : Array Value} (hc : c = f (argsOf vs ds)) : G ks ops W (l.setIfInBounds i true) (w.alloc (.cells c t)) (vs.set i (.slice (some ⟨w.heap.size, 0, none⟩) n n)) := by
  have hb := L.below_box w (.cells c t)
  have hi : ∀ j z t s ds f, ks.getD j .non = .cell z t s ds f → s ≠ i := fun j z t s ds f e he => by
    have := (ok_cell hok e).2.2.1
    rw [he, hk] at this
    cases this
  refine ⟨F.bel.trans (hb.mono F.bel.size), cl_set F h0 hd, ?_, ?_⟩
  · intro j hj
    rcases (on_set h0 j).1 hj with rfl | h
    · rw [hk]
      refine ⟨w.heap.size, getD_self hl _, ?_⟩
      rw [argsOf_other fun d hdd (e : d = j) => off_of h0 (e ▸ F.far' hd d (ok_blk hok hk d hdd)), ← hc]
      exact Bx.new _ _ _
    · exact fact_keep hok F h0 hb _ hi h
  · intro a b ha hb' hab g e
    rcases (on_set h0 a).1 ha with ea | ha2
    · rcases (on_set h0 b).1 hb' with eb | hb2
      · exact absurd (ea.trans eb.symm) hab
      have hbi : b ≠ i := fun e => off_of h0 (e ▸ hb2)
      subst ea
      rw [hk, getD_self hl] at e
      cases e
      rw [getD_other hbi]
      exact fun e => Nat.lt_irrefl _ (adr_lt F hb2 e)
    have hai : a ≠ i := fun e => off_of h0 (e ▸ ha2)
    rw [getD_other hai] at e
    rcases (on_set h0 b).1 hb' with eb | hb2
    · subst eb
      rw [hk, getD_self hl]
      intro e2
      cases e2
      exact Nat.lt_irrefl _ (adr_lt F ha2 e)
    have hbi : b ≠ i := fun e => off_of h0 (e ▸ hb2)
    rw [getD_other hbi]
    exact F.ne a b ha2 hb2 hab g e
/-- a step that makes a variable -/
theorem G.cell (hok : okK ks ops = true) (F : G ks ops W l w vs) {i : Nat} (h0 : l.getD i true = false) (hd : ∀ j ∈ deps ops i, On l j) {z t s ds f} (hk : ks.getD i .non = .cell z t s ds f) (hl : i < vs.length) : G ks ops W (l.setIfInBounds i true) (w.alloc (.cells z t)) (vs.set i (.pointer (some ⟨w.heap.size, 0, none⟩))) := by
  have hb := L.below_box w (.cells z t)
  have hi : ∀ j z t s ds f, ks.getD j .non = .cell z t s ds f → s ≠ i := fun j z t s ds f e he => by
    have := (ok_cell hok e).2.2.1
    rw [he, hk] at this
    cases this
  refine ⟨F.bel.trans (hb.mono F.bel.size), cl_set F h0 hd, ?_, ?_⟩
  · intro j hj
    rcases (on_set h0 j).1 hj with rfl | h
    · rw [hk]
      refine ⟨w.heap.size, getD_self hl _, F.bel.size, fun _ => Bx.new _ _ _, fun hs => ?_⟩
      rcases (on_set h0 s).1 hs with e | hs
      · exact absurd e (hi j z t s ds f hk)
      · exact absurd (F.cl s hs j (ok_cell hok hk).2.1) (off_of h0)
    · exact fact_keep hok F h0 hb _ hi h
  · intro a b ha hb' hab g e
    rcases (on_set h0 a).1 ha with ea | ha2
    · rcases (on_set h0 b).1 hb' with eb | hb2
      · exact absurd (ea.trans eb.symm) hab
      have hbi : b ≠ i := fun e => off_of h0 (e ▸ hb2)
      subst ea
      rw [hk, getD_self hl] at e
      cases e
      rw [getD_other hbi]
      exact fun e => Nat.lt_irrefl _ (adr_lt F hb2 e)
    have hai : a ≠ i := fun e => off_of h0 (e ▸ ha2)
    rw [getD_other hai] at e
    rcases (on_set h0 b).1 hb' with eb | hb2
    · subst eb
      rw [hk, getD_self hl]
      intro e2
      cases e2
      exact Nat.lt_irrefl _ (adr_lt F ha2 e)
    have hbi : b ≠ i := fun e => off_of h0 (e ▸ hb2)
    rw [getD_other hbi]
    exact F.ne a b ha2 hb2 hab g e
/-- no variable is written by number i -/
def offK (ks : List Kd) (i : Nat) : Bool := ks.all fun k => match k with
  | .cell _ _ s _ _ => s != i
  | _ => true
theorem offK_at {i : Nat} (h : offK ks i = true) : ∀ j z t s ds f, ks.getD j .non = .cell z t s ds f → s ≠ i := by
  intro j z t s ds f e
  have hlt : j < ks.length := kd_lt (by rw [e]; exact fun h => by cases h)
  have hm : ks.getD j .non ∈ ks := by
    rw [List.getD_eq_getElem?_getD, List.getElem?_eq_getElem hlt]
    exact List.getElem_mem hlt
  have := List.all_eq_true.1 h _ hm
  rw [e] at this
  simpa using this
/-- a step that keeps nothing -/
theorem G.non (hok : okK ks ops = true) (F : G ks ops W l w vs) {i : Nat} (h0 : l.getD i true = false) (hd : ∀ j ∈ deps ops i, On l j) (hk : ks.getD i .non = .non) (hi' : offK ks i = true) {w' : World} (hb : Below w.heap.size w w') : G ks ops W (l.setIfInBounds i true) w' vs := by
  have hi := offK_at hi'
  refine ⟨F.bel.trans (hb.mono F.bel.size), cl_set F h0 hd, ?_, ?_⟩
  · intro j hj
    rcases (on_set h0 j).1 hj with rfl | h
    · rw [hk]; trivial
    · have h3 := fact_keep hok F h0 hb (vs.getD i undef) hi h
      have : vs.set i (vs.getD i undef) = vs := by
        rcases Nat.lt_or_ge i vs.length with h | h
        · simp [List.getD_eq_getElem?_getD, h]
        · rw [List.set_eq_of_length_le h]
      rw [this] at h3
      exact h3
  · intro a b ha hb' hab g e
    rcases (on_set h0 a).1 ha with rfl | ha
    · rw [hk] at e; cases e
    rcases (on_set h0 b).1 hb' with rfl | hb'
    · rw [hk]; exact fun e => by cases e
    exact F.ne a b ha hb' hab g e
/-- a step that writes a variable -/
theorem G.store (hok : okK ks ops = true) (F : G ks ops W l w vs) {i c : Nat} (h0 : l.getD i true = false) (hd : ∀ j ∈ deps ops i, On l j) {z t ds f} (hk : ks.getD c .non = .cell z t i ds f) {g : Nat} (hg : vs.getD c undef = .pointer (some ⟨g, 0, none⟩)) {w' : World} (hb : Below W.heap.size W w') (hkeep : ∀ g', g' ≠ g → w'.heap[g']? = w.heap[g']?) (hnew : Bx w' g (f (argsOf vs ds)) t) : G ks ops W (l.setIfInBounds i true) w' vs := by
  obtain ⟨hds, hci, hki, huniq⟩ := ok_cell hok hk
  have hc := hd c hci
  have hac : adr (ks.getD c .non) (vs.getD c undef) = some g := by rw [hk, hg]; rfl
  refine ⟨hb, cl_set F h0 hd, ?_, ?_⟩
  · intro j hj
    rcases (on_set h0 j).1 hj with rfl | h
    · rw [hki]; trivial
    · have hf := F.fs j h
      cases e : ks.getD j .non with
      | non => trivial
      | val ds f => rw [e] at hf; exact hf
      | blk n ds' f' t' =>
        rw [e] at hf
        obtain ⟨g', h1, h2⟩ := hf
        refine ⟨g', h1, h2.keep (hkeep g' ?_)⟩
        rintro rfl
        have hjc : c ≠ j := by
          rintro rfl
          rw [e] at hk
          cases hk
        exact F.ne c j hc h hjc g' hac (by rw [e, h1]; rfl)
      | cell z' t' s' ds' f' =>
        rw [e] at hf
        obtain ⟨g', h1, h2, h3, h4⟩ := hf
        by_cases hjc : j = c
        · subst hjc
          rw [hk] at e
          cases e
          rw [hg] at h1
          cases h1
          exact ⟨g, hg, h2, fun hn => absurd ((on_set h0 i).2 (Or.inl rfl)) hn, fun _ => hnew⟩
        · have hsi : s' ≠ i := huniq j z' t' s' ds' f' e hjc
          have hne : g' ≠ g := by
            rintro rfl
            exact F.ne c j hc h (Ne.symm hjc) g' hac (by rw [e, h1]; rfl)
          exact ⟨g', h1, h2, fun hn => (h3 fun hs => hn ((on_set h0 s').2 (Or.inr hs))).keep (hkeep g' hne), fun hs => (h4 (((on_set h0 s').1 hs).resolve_left hsi)).keep (hkeep g' hne)⟩
  · intro a b ha hb' hab g e
    rcases (on_set h0 a).1 ha with rfl | ha
    · rw [hki] at e; cases e
    rcases (on_set h0 b).1 hb' with rfl | hb'
    · rw [hki]; exact fun e => by cases e
    exact F.ne a b ha hb' hab g e
theorem G.start (ks : List Kd) (ops : Array Oper) {W : World} {l : Array Bool} (hl : ∀ j, ¬ On l j) (vs : List Value) : G ks ops W l { W with drawn := W.drawn + 1 } vs :=
  ⟨L.below_drew W, fun j h => absurd h (hl j), fun j h => absurd h (hl j), fun i _ h => absurd h (hl i)⟩
end
theorem wp_region_G {P : Program} {id : Nat} {ops : Array Oper} {Q : Exit → Act → World → Prop} {a : Act} {w : World} (hm : P.follows .mixedOrders = true) (ks : List Kd) (I : List Kd → Array Oper → Array Bool → Act → World → Prop)
    (hback : backs ops = true) (hok : okK ks ops = true)
    (h0 : ∀ l, (∀ j, ¬ On l j) → I ks ops l a { w with drawn := w.drawn + 1 })
    (hstep : okK ks ops = true → ∀ l a w, I ks ops l a w → ∀ i, i < ops.size → l.getD i true = false → (∀ j ∈ deps ops i, On l j) → wpOp P ops Q i (I ks ops (l.setIfInBounds i true)) a w)
    (hdone : ∀ l a w, I ks ops l a w → (∀ j, j < ops.size → On l j) → Q .normal a w) : (Code.region id ops true).wp P Q a w :=
  wp_region_inv hm (I ks ops) hback h0 (hstep hok) hdone
end Go.Proofs.YtkjefigebdbkaaaDoor.P
