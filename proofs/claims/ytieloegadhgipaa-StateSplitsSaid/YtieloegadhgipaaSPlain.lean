/-
  Plain mathematics of layer 6, without the program: states and writes as lists of pairs, Apply, Union, Diff and Slice.
-/
import Derived.Test.YtieloegadhgipaaKeys
import Derived.Test.YtieloegadhgipaaVals
namespace Go.Proofs.Ytieloegadhgipaa.S

theorem lt_irr (a : List UInt8) : ¬ a < a := List.lt_irrefl a
theorem lt_tri {a b : List UInt8} (h : ¬ a < b) (h2 : ¬ b < a) : a = b := List.le_antisymm h2 h
theorem lt_tra {a b c : List UInt8} (h : a < b) (h2 : b < c) : a < c := List.lt_trans h h2
theorem lt_asy {a b : List UInt8} (h : a < b) : ¬ b < a := fun h2 => lt_irr a (lt_tra h h2)
abbrev Val := V.Val
instance : DecidableEq V.Val := fun a b => if h : a.k = b.k ∧ a.n = b.n ∧ a.s = b.s then isTrue (V.Val.eq h.1 h.2.1 h.2.2) else isFalse fun e => h (by rw [e]; exact ⟨rfl, rfl, rfl⟩)
def nil0 : Val := ⟨0, 0, []⟩
theorem valid_nil0 : V.valid nil0 = true := rfl
theorem valid_zero {v : Val} (h : V.valid v = true) (hk : v.k = 0) : v = nil0 := by
  rcases V.valid_iff.1 h with ⟨_, h2, h3⟩ | ⟨h1, _⟩ | ⟨h1, _⟩
  · exact V.Val.eq hk h2 h3
  · omega
  · omega

abbrev Pr := List UInt8 × Val

/-! ### lists of pairs -/

def has (l : List Pr) (k : List UInt8) : Bool := l.any fun p => decide (p.1 = k)
def get : List Pr → List UInt8 → Val
  | [], _ => nil0
  | p :: l, k => if p.1 = k then p.2 else get l k
/-- the keys ascend strictly -/
def up (l : List Pr) : Prop := l.Pairwise fun p q => p.1 < q.1
instance (l : List Pr) : Decidable (up l) := by unfold up; infer_instance
def asc (l : List Pr) : Bool := (l.all fun p => K.valid p.1) && decide (up l)
def vw (l : List Pr) : Bool := (l.all fun p => V.valid p.2) && asc l
def vs (l : List Pr) : Bool := (l.all fun p => decide (p.2.k ≠ 0)) && vw l
theorem has_iff {l : List Pr} {k : List UInt8} : has l k = true ↔ ∃ p ∈ l, p.1 = k := by simp [has]
theorem vw_iff {l : List Pr} : vw l = true ↔ (∀ p ∈ l, V.valid p.2 = true) ∧ (∀ p ∈ l, K.valid p.1 = true) ∧ up l := by
  simp [vw, asc, List.all_eq_true]
theorem vs_iff {l : List Pr} : vs l = true ↔ (∀ p ∈ l, p.2.k ≠ 0) ∧ vw l = true := by
  simp [vs, List.all_eq_true]
theorem get_not {l : List Pr} {k : List UInt8} (h : has l k = false) : get l k = nil0 := by
  induction l with
  | nil => rfl
  | cons p l ih =>
    simp only [has, List.any_cons, Bool.or_eq_false_iff, decide_eq_false_iff_not] at h
    rw [get, if_neg h.1]
    exact ih h.2
theorem get_mem {l : List Pr} (hu : up l) {p : Pr} (hp : p ∈ l) : get l p.1 = p.2 := by
  induction l with
  | nil => cases hp
  | cons q l ih =>
    have h1 := (List.pairwise_cons.1 hu)
    rw [get]
    rcases List.mem_cons.1 hp with rfl | hp
    · rw [if_pos rfl]
    · rw [if_neg, ih h1.2 hp]
      intro e
      have := h1.1 p hp
      rw [e] at this
      exact lt_irr _ this
/-- two ascending lists with the same pairs are one -/
theorem up_ext {a b : List Pr} (ha : up a) (hb : up b) (h : ∀ p, p ∈ a ↔ p ∈ b) : a = b := by
  induction a generalizing b with
  | nil =>
    cases b with
    | nil => rfl
    | cons q b => exact absurd ((h q).2 List.mem_cons_self) (by simp)
  | cons p a ih =>
    cases b with
    | nil => exact absurd ((h p).1 List.mem_cons_self) (by simp)
    | cons q b =>
      have h1 := List.pairwise_cons.1 ha
      have h2 := List.pairwise_cons.1 hb
      have e : p = q := by
        rcases List.mem_cons.1 ((h p).1 List.mem_cons_self) with e | hp
        · exact e
        · rcases List.mem_cons.1 ((h q).2 List.mem_cons_self) with e | hq
          · exact e.symm
          · exact absurd (h1.1 q hq) (lt_asy (h2.1 p hp))
      subst e
      congr 1
      refine ih h1.2 h2.2 fun x => ?_
      constructor
      · intro hx
        rcases List.mem_cons.1 ((h x).1 (List.mem_cons_of_mem _ hx)) with e | hx'
        · subst e; exact absurd (h1.1 x hx) (lt_irr _)
        · exact hx'
      · intro hx
        rcases List.mem_cons.1 ((h x).2 (List.mem_cons_of_mem _ hx)) with e | hx'
        · subst e; exact absurd (h2.1 x hx) (lt_irr _)
        · exact hx'
theorem has_get {l : List Pr} (h : ∀ p ∈ l, p.2.k ≠ 0) {k : List UInt8} : has l k = true ↔ (get l k).k ≠ 0 := by
  constructor
  · intro hk
    induction l with
    | nil => simp [has] at hk
    | cons p l ih =>
      rw [get]
      by_cases e : p.1 = k
      · rw [if_pos e]; exact h p List.mem_cons_self
      · rw [if_neg e]
        simp only [has, List.any_cons, Bool.or_eq_true, decide_eq_true_eq] at hk
        exact ih (fun q hq => h q (List.mem_cons_of_mem _ hq)) (hk.resolve_left e)
  · intro hk
    cases hh : has l k
    · rw [get_not hh] at hk; exact absurd rfl hk
    · rfl
/-- two states of which all keys have the same values are one -/
theorem vs_ext {a b : List Pr} (ha : vs a = true) (hb : vs b = true) (h : ∀ k, get a k = get b k) : a = b := by
  obtain ⟨a0, a1⟩ := vs_iff.1 ha
  obtain ⟨b0, b1⟩ := vs_iff.1 hb
  have ua := (vw_iff.1 a1).2.2
  have ub := (vw_iff.1 b1).2.2
  have key : ∀ {a b : List Pr}, up a → up b → (∀ p ∈ a, p.2.k ≠ 0) → (∀ k, get a k = get b k) → ∀ p, p ∈ a → p ∈ b := by
    intro a b ua ub a0 h p hp
    have e := get_mem ua hp
    rw [h] at e
    cases hh : has b p.1
    · rw [get_not hh] at e
      exact absurd (by rw [← e]; rfl) (a0 p hp)
    · obtain ⟨q, hq, e2⟩ := has_iff.1 hh
      have e3 := get_mem ub hq
      rw [e2, e] at e3
      have : p = q := Prod.ext e2.symm e3
      rw [this]; exact hq
  exact up_ext ua ub fun p => ⟨key ua ub a0 h p, key ub ua b0 (fun k => (h k).symm) p⟩

/-! ### insertion -/

def ins (l : List Pr) (p : Pr) : List Pr := l.takeWhile (fun q => decide (q.1 < p.1)) ++ p :: l.dropWhile (fun q => decide (q.1 < p.1))
theorem ins_mem {l : List Pr} {p q : Pr} : q ∈ ins l p ↔ q = p ∨ q ∈ l := by
  unfold ins
  rw [List.mem_append, List.mem_cons]
  have h : q ∈ l ↔ q ∈ l.takeWhile (fun q => decide (q.1 < p.1)) ∨ q ∈ l.dropWhile (fun q => decide (q.1 < p.1)) := by
    rw [← List.mem_append, List.takeWhile_append_dropWhile]
  rw [h]
  constructor
  · rintro (h | h | h)
    · exact Or.inr (Or.inl h)
    · exact Or.inl h
    · exact Or.inr (Or.inr h)
  · rintro (h | h | h)
    · exact Or.inr (Or.inl h)
    · exact Or.inl h
    · exact Or.inr (Or.inr h)
theorem drop_up {l : List Pr} {p : Pr} (hu : up l) : ∀ q ∈ l.dropWhile (fun q => decide (q.1 < p.1)), ¬ q.1 < p.1 := by
  induction l with
  | nil => intro q hq; cases hq
  | cons x l ih =>
    have h1 := List.pairwise_cons.1 hu
    intro q hq
    rw [List.dropWhile_cons] at hq
    by_cases hx : x.1 < p.1
    · rw [if_pos (by simpa using hx)] at hq
      exact ih h1.2 q hq
    · rw [if_neg (by simpa using hx)] at hq
      rcases List.mem_cons.1 hq with rfl | hq
      · exact hx
      · intro h
        exact hx (lt_tra (h1.1 q hq) h)
theorem ins_up {l : List Pr} {p : Pr} (hu : up l) (hn : has l p.1 = false) : up (ins l p) := by
  unfold ins up
  rw [List.pairwise_append]
  have hsplit : (l.takeWhile (fun q => decide (q.1 < p.1)) ++ l.dropWhile (fun q => decide (q.1 < p.1))).Pairwise (fun p q => p.1 < q.1) := by
    rw [List.takeWhile_append_dropWhile]; exact hu
  rw [List.pairwise_append] at hsplit
  have hd := drop_up (p := p) hu
  have ht : ∀ q ∈ l.takeWhile (fun q => decide (q.1 < p.1)), q.1 < p.1 := by
    intro q hq
    have := List.all_takeWhile (p := fun q : Pr => decide (q.1 < p.1)) (l := l)
    rw [List.all_eq_true] at this
    simpa using this q hq
  have hgt : ∀ q ∈ l.dropWhile (fun q => decide (q.1 < p.1)), p.1 < q.1 := by
    intro q hq
    apply Decidable.byContradiction
    intro h
    have e := lt_tri h (hd q hq)
    have hm : q ∈ l := List.dropWhile_sublist _ |>.subset hq
    have : has l p.1 = true := has_iff.2 ⟨q, hm, e.symm⟩
    rw [hn] at this
    cases this
  refine ⟨hsplit.1, ?_, ?_⟩
  · rw [List.pairwise_cons]
    exact ⟨hgt, hsplit.2.1⟩
  · intro a ha b hb
    rcases List.mem_cons.1 hb with rfl | hb
    · exact ht a ha
    · exact lt_tra (ht a ha) (hgt b hb)

/-! ### Apply, Union, Diff, Slice -/

def gone (w : List Pr) (l : List Pr) : List Pr := l.filter fun p => !has w p.1
def puts (w : List Pr) : List Pr := w.filter fun p => decide (p.2.k ≠ 0)
def app (l w : List Pr) : List Pr := (puts w).foldl ins (gone w l)
theorem folded {w : List Pr} (hw : up w) : ∀ {l : List Pr}, up l → (∀ p ∈ w, has l p.1 = false) → up (w.foldl ins l) ∧ ∀ p, p ∈ w.foldl ins l ↔ p ∈ l ∨ p ∈ w := by
  induction w with
  | nil => intro l hl _; exact ⟨hl, fun p => by simp⟩
  | cons q w ih =>
    intro l hl hn
    have h1 := List.pairwise_cons.1 hw
    have h2 := ins_up hl (hn q List.mem_cons_self)
    obtain ⟨g1, g2⟩ := ih h1.2 h2 (by
      intro p hp
      cases hh : has (ins l q) p.1
      · rfl
      · obtain ⟨x, hx, e⟩ := has_iff.1 hh
        rcases ins_mem.1 hx with rfl | hx
        · have := h1.1 p hp
          rw [e] at this
          exact absurd this (lt_irr _)
        · have := hn p (List.mem_cons_of_mem _ hp)
          rw [has_iff.2 ⟨x, hx, e⟩] at this
          cases this)
    refine ⟨g1, fun p => ?_⟩
    rw [List.foldl_cons, g2, ins_mem, List.mem_cons]
    constructor
    · rintro ((h | h) | h)
      · exact Or.inr (Or.inl h)
      · exact Or.inl h
      · exact Or.inr (Or.inr h)
    · rintro (h | h | h)
      · exact Or.inl (Or.inr h)
      · exact Or.inl (Or.inl h)
      · exact Or.inr h
theorem up_filter {l : List Pr} (h : up l) (f : Pr → Bool) : up (l.filter f) := List.Pairwise.filter f h
theorem app_both {l w : List Pr} (hl : up l) (hw : up w) : up (app l w) ∧ ∀ p, p ∈ app l w ↔ (p ∈ l ∧ has w p.1 = false) ∨ (p ∈ w ∧ p.2.k ≠ 0) := by
  obtain ⟨h1, h2⟩ := folded (up_filter hw fun p => decide (p.2.k ≠ 0)) (up_filter hl fun p => !has w p.1) (by
    intro p hp
    cases hh : has (l.filter fun p => !has w p.1) p.1
    · rfl
    · obtain ⟨x, hx, e⟩ := has_iff.1 hh
      rw [List.mem_filter, e] at hx
      have : has w p.1 = true := has_iff.2 ⟨p, (List.mem_filter.1 hp).1, rfl⟩
      rw [this] at hx
      exact absurd hx.2 (by decide))
  refine ⟨h1, fun p => ?_⟩
  show p ∈ (List.filter _ w).foldl ins (List.filter _ l) ↔ _
  rw [h2, List.mem_filter, List.mem_filter]
  simp
theorem get_app {l w : List Pr} (hl : up l) (hw : up w) (hv : ∀ p ∈ w, V.valid p.2 = true) (k : List UInt8) : get (app l w) k = if has w k then get w k else get l k := by
  obtain ⟨h1, h2⟩ := app_both hl hw
  cases hk : has w k
  · rw [if_neg (by decide)]
    cases hl2 : has l k
    · rw [get_not hl2]
      refine get_not ?_
      cases hh : has (app l w) k
      · rfl
      · obtain ⟨x, hx, e⟩ := has_iff.1 hh
        rcases (h2 x).1 hx with ⟨hx, _⟩ | ⟨hx, _⟩
        · rw [has_iff.2 ⟨x, hx, e⟩] at hl2; cases hl2
        · rw [has_iff.2 ⟨x, hx, e⟩] at hk; cases hk
    · obtain ⟨x, hx, e⟩ := has_iff.1 hl2
      subst e
      rw [get_mem hl hx]
      exact get_mem h1 ((h2 x).2 (Or.inl ⟨hx, hk⟩))
  · rw [if_pos rfl]
    obtain ⟨x, hx, e⟩ := has_iff.1 hk
    subst e
    rw [get_mem hw hx]
    by_cases hz : x.2.k = 0
    · rw [valid_zero (hv x hx) hz]
      refine get_not ?_
      cases hh : has (app l w) x.1
      · rfl
      · obtain ⟨y, hy, e⟩ := has_iff.1 hh
        rcases (h2 y).1 hy with ⟨_, hy⟩ | ⟨hy, hz2⟩
        · rw [e, hk] at hy; cases hy
        · have e1 := get_mem hw hx
          have e2 := get_mem hw hy
          rw [e, e1] at e2
          rw [← e2] at hz2
          exact absurd hz hz2
    · exact get_mem h1 ((h2 x).2 (Or.inr ⟨hx, hz⟩))
theorem vs_app {l w : List Pr} (hl : vs l = true) (hw : vw w = true) : vs (app l w) = true := by
  obtain ⟨l0, l1⟩ := vs_iff.1 hl
  obtain ⟨l2, l3, l4⟩ := vw_iff.1 l1
  obtain ⟨w2, w3, w4⟩ := vw_iff.1 hw
  obtain ⟨h1, h2⟩ := app_both l4 w4
  refine vs_iff.2 ⟨?_, vw_iff.2 ⟨?_, ?_, h1⟩⟩
  · intro p hp
    rcases (h2 p).1 hp with ⟨h, _⟩ | ⟨_, h⟩
    · exact l0 p h
    · exact h
  · intro p hp
    rcases (h2 p).1 hp with ⟨h, _⟩ | ⟨h, _⟩
    · exact l2 p h
    · exact w2 p h
  · intro p hp
    rcases (h2 p).1 hp with ⟨h, _⟩ | ⟨h, _⟩
    · exact l3 p h
    · exact w3 p h
/-- whatever list has the pairs of the result, in order, is the result -/
theorem app_is {l w r : List Pr} (hl : up l) (hw : up w) (hr : up r) (h : ∀ p, p ∈ r ↔ (p ∈ l ∧ has w p.1 = false) ∨ (p ∈ w ∧ p.2.k ≠ 0)) : r = app l w := by
  obtain ⟨h1, h2⟩ := app_both hl hw
  exact up_ext hr h1 fun p => (h p).trans (h2 p).symm

/-- the writes that take a to b -/
def dif (a b : List Pr) : List Pr := (b.filter fun p => decide (get a p.1 ≠ p.2)).foldl ins ((a.filter fun p => !has b p.1).map fun p => (p.1, nil0))
theorem up_map {l : List Pr} (h : up l) : up (l.map fun p => (p.1, nil0)) := by
  unfold up
  rw [List.pairwise_map]
  exact h
theorem dif_both {a b : List Pr} (ha : up a) (hb : up b) : up (dif a b) ∧ ∀ p, p ∈ dif a b ↔ (p.2 = nil0 ∧ has a p.1 = true ∧ has b p.1 = false) ∨ (p ∈ b ∧ get a p.1 ≠ p.2) := by
  obtain ⟨h1, h2⟩ := folded (up_filter hb fun p => decide (get a p.1 ≠ p.2)) (up_map (up_filter ha fun p => !has b p.1)) (by
    intro p hp
    cases hh : has ((a.filter fun p => !has b p.1).map fun p => (p.1, nil0)) p.1
    · rfl
    · obtain ⟨x, hx, e⟩ := has_iff.1 hh
      obtain ⟨y, hy, rfl⟩ := List.mem_map.1 hx
      rw [List.mem_filter] at hy
      simp only at e
      rw [e] at hy
      have : has b p.1 = true := has_iff.2 ⟨p, (List.mem_filter.1 hp).1, rfl⟩
      rw [this] at hy
      exact absurd hy.2 (by decide))
  refine ⟨h1, fun p => ?_⟩
  show p ∈ (List.filter _ b).foldl ins (List.map _ (List.filter _ a)) ↔ _
  rw [h2, List.mem_filter, List.mem_map]
  refine or_congr ?_ (by simp)
  constructor
  · rintro ⟨x, hx, rfl⟩
    rw [List.mem_filter] at hx
    refine ⟨rfl, has_iff.2 ⟨x, hx.1, rfl⟩, ?_⟩
    have := hx.2
    simpa using this
  · rintro ⟨h1, h2, h3⟩
    obtain ⟨x, hx, e⟩ := has_iff.1 h2
    refine ⟨x, List.mem_filter.2 ⟨hx, by rw [e, h3]; rfl⟩, ?_⟩
    rw [e, ← h1]
theorem dif_is {a b r : List Pr} (ha : up a) (hb : up b) (hr : up r) (h : ∀ p, p ∈ r ↔ (p.2 = nil0 ∧ has a p.1 = true ∧ has b p.1 = false) ∨ (p ∈ b ∧ get a p.1 ≠ p.2)) : r = dif a b := by
  obtain ⟨h1, h2⟩ := dif_both ha hb
  exact up_ext hr h1 fun p => (h p).trans (h2 p).symm
theorem vw_dif {a b : List Pr} (ha : vs a = true) (hb : vs b = true) : vw (dif a b) = true := by
  obtain ⟨a2, a3, a4⟩ := vw_iff.1 (vs_iff.1 ha).2
  obtain ⟨b2, b3, b4⟩ := vw_iff.1 (vs_iff.1 hb).2
  obtain ⟨h1, h2⟩ := dif_both a4 b4
  refine vw_iff.2 ⟨?_, ?_, h1⟩
  · intro p hp
    rcases (h2 p).1 hp with ⟨h, _⟩ | ⟨h, _⟩
    · rw [h]; exact valid_nil0
    · exact b2 p h
  · intro p hp
    rcases (h2 p).1 hp with ⟨_, h, _⟩ | ⟨h, _⟩
    · obtain ⟨x, hx, e⟩ := has_iff.1 h
      rw [← e]; exact a3 x hx
    · exact b3 p h
/-- (P6.7) the difference has exactly the keys whose values differ, with the values of b -/
theorem dif_get {a b : List Pr} (ha : vs a = true) (hb : vs b = true) {p : Pr} (hp : p ∈ dif a b) : get a p.1 ≠ get b p.1 ∧ p.2 = get b p.1 := by
  obtain ⟨a0, a1⟩ := vs_iff.1 ha
  obtain ⟨a2, a3, a4⟩ := vw_iff.1 a1
  obtain ⟨b2, b3, b4⟩ := vw_iff.1 (vs_iff.1 hb).2
  obtain ⟨h1, h2⟩ := dif_both a4 b4
  rcases (h2 p).1 hp with ⟨h, h3, h4⟩ | ⟨h, h3⟩
  · rw [get_not h4]
    refine ⟨fun e => ?_, h⟩
    have := (has_get a0).1 h3
    rw [e] at this
    exact this rfl
  · rw [get_mem b4 h]
    exact ⟨h3, rfl⟩
theorem has_dif {a b : List Pr} (ha : vs a = true) (hb : vs b = true) (k : List UInt8) : has (dif a b) k = true ↔ get a k ≠ get b k := by
  obtain ⟨a0, a1⟩ := vs_iff.1 ha
  obtain ⟨a2, a3, a4⟩ := vw_iff.1 a1
  obtain ⟨b2, b3, b4⟩ := vw_iff.1 (vs_iff.1 hb).2
  obtain ⟨h1, h2⟩ := dif_both a4 b4
  constructor
  · intro h
    obtain ⟨x, hx, e⟩ := has_iff.1 h
    subst e
    exact (dif_get ha hb hx).1
  · intro h
    cases hk : has b k
    · have hka : has a k = true := by
        cases hka : has a k
        · rw [get_not hka, get_not hk] at h; exact absurd rfl h
        · rfl
      exact has_iff.2 ⟨(k, nil0), (h2 _).2 (Or.inl ⟨rfl, hka, hk⟩), rfl⟩
    · obtain ⟨x, hx, e⟩ := has_iff.1 hk
      subst e
      rw [get_mem b4 hx] at h
      exact has_iff.2 ⟨x, (h2 _).2 (Or.inr ⟨hx, h⟩), rfl⟩
/-- (P6.7) -/
theorem app_dif {a b : List Pr} (ha : vs a = true) (hb : vs b = true) : app a (dif a b) = b := by
  obtain ⟨a2, a3, a4⟩ := vw_iff.1 (vs_iff.1 ha).2
  have hd := vw_dif ha hb
  obtain ⟨d2, d3, d4⟩ := vw_iff.1 hd
  refine vs_ext (vs_app ha hd) hb fun k => ?_
  rw [get_app a4 d4 d2]
  cases hk : has (dif a b) k
  · rw [if_neg (by decide)]
    apply Decidable.byContradiction
    intro h
    rw [(has_dif ha hb k).2 h] at hk
    cases hk
  · rw [if_pos rfl]
    obtain ⟨x, hx, e⟩ := has_iff.1 hk
    subst e
    rw [get_mem d4 hx]
    exact (dif_get ha hb hx).2
theorem dif_self {a : List Pr} (ha : vs a = true) : dif a a = [] := by
  cases h : dif a a with
  | nil => rfl
  | cons p l =>
    have := (has_dif ha ha p.1).1 (by rw [h]; simp [has])
    exact absurd rfl this
/-- (P6.7) writes twice are writes once -/
theorem app_twice {l w : List Pr} (hl : vs l = true) (hw : vw w = true) : app (app l w) w = app l w := by
  obtain ⟨l2, l3, l4⟩ := vw_iff.1 (vs_iff.1 hl).2
  obtain ⟨w2, w3, w4⟩ := vw_iff.1 hw
  have h1 := vs_app hl hw
  obtain ⟨m2, m3, m4⟩ := vw_iff.1 (vs_iff.1 h1).2
  refine vs_ext (vs_app h1 hw) h1 fun k => ?_
  rw [get_app m4 w4 w2, get_app l4 w4 w2]
  split <;> rfl
/-- (P6.8) the pairs of a state inside and outside, joined -/
theorem app_split {l : List Pr} (hl : vs l = true) (f : Pr → Bool) : app (l.filter f) (l.filter fun p => !f p) = l := by
  obtain ⟨l0, l1⟩ := vs_iff.1 hl
  obtain ⟨l2, l3, l4⟩ := vw_iff.1 l1
  refine (app_is (up_filter l4 _) (up_filter l4 _) l4 fun p => ?_).symm
  rw [List.mem_filter, List.mem_filter]
  constructor
  · intro hp
    cases hf : f p
    · exact Or.inr ⟨⟨hp, by rfl⟩, l0 p hp⟩
    · refine Or.inl ⟨⟨hp, rfl⟩, ?_⟩
      cases hh : has (l.filter fun p => !f p) p.1
      · rfl
      · obtain ⟨x, hx, e⟩ := has_iff.1 hh
        rw [List.mem_filter] at hx
        have e1 := get_mem l4 hp
        have e2 := get_mem l4 hx.1
        rw [e, e1] at e2
        have : x = p := Prod.ext e e2.symm
        rw [this, hf] at hx
        exact absurd hx.2 (by decide)
  · rintro (⟨⟨h, _⟩, _⟩ | ⟨⟨h, _⟩, _⟩) <;> exact h
theorem split_apart {l : List Pr} (hl : up l) (f : Pr → Bool) : (l.filter fun p => !f p).any (fun p => has (l.filter f) p.1) = false := by
  rw [List.any_eq_false]
  intro p hp h
  obtain ⟨x, hx, e⟩ := has_iff.1 h
  rw [List.mem_filter] at hx hp
  have e1 := get_mem hl hp.1
  have e2 := get_mem hl hx.1
  rw [e, e1] at e2
  have : x = p := Prod.ext e e2.symm
  rw [this] at hx
  rw [hx.2] at hp
  exact absurd hp.2 (by decide)
theorem vs_filter {l : List Pr} (hl : vs l = true) (f : Pr → Bool) : vs (l.filter f) = true := by
  obtain ⟨l0, l1⟩ := vs_iff.1 hl
  obtain ⟨l2, l3, l4⟩ := vw_iff.1 l1
  exact vs_iff.2 ⟨fun p hp => l0 p (List.mem_filter.1 hp).1, vw_iff.2 ⟨fun p hp => l2 p (List.mem_filter.1 hp).1, fun p hp => l3 p (List.mem_filter.1 hp).1, up_filter l4 f⟩⟩

/-! ### what the functions return -/

def apl (l w : List Pr) : List Pr × Int := if vs l && vw w then (app l w, 0) else ([], 1)
def sli (f t : List UInt8) (l : List Pr) : List Pr := l.filter fun p => K.cont f t p.1
def uni (a b : List Pr) : List Pr × Int := if vs a && vs b then (if b.any fun p => has a p.1 then ([], 8) else (app a b, 0)) else ([], 1)
def dff (a b : List Pr) : List Pr × Int := if vs a && vs b then (dif a b, 0) else ([], 1)
theorem app_length (l w : List Pr) : (app l w).length ≤ l.length + w.length := by
  have key : ∀ (w l : List Pr), (w.foldl ins l).length = l.length + w.length := by
    intro w
    induction w with
    | nil => intro l; rfl
    | cons q w ih =>
      intro l
      rw [List.foldl_cons, ih, List.length_cons]
      have : (ins l q).length = l.length + 1 := by
        unfold ins
        have := congrArg List.length (List.takeWhile_append_dropWhile (p := fun x : Pr => decide (x.1 < q.1)) (l := l))
        rw [List.length_append] at this ⊢
        rw [List.length_cons]
        omega
      omega
  unfold app puts gone
  rw [key]
  have h1 := List.length_filter_le (fun p : Pr => decide (p.2.k ≠ 0)) w
  have h2 := List.length_filter_le (fun p : Pr => !has w p.1) l
  omega
end Go.Proofs.Ytieloegadhgipaa.S
