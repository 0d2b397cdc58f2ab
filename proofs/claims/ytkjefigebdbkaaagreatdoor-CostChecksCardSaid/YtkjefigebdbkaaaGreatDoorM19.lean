/-
  A region in whatever order, by an invariant.
  A region in whatever order: what holds of each number, once it has come up, said by kinds.
  A region in whatever order, where each number's value is known by itself: what holds of it stays when memory is made.
  What a round of a range over a function keeps: all that lay below a block, and all cells laid from another block on.
  What the program's functions of layer 12 return: the nodes of an expression, one by one: contracts.
-/
import Derived.Test.YtkjefigebdbkaaaGreatDoorM07
import Derived.Deep.RegionLaw
import Derived.Deep.RegionWith
import Derived.RangeFuncNested
import Derived.RangeFuncBound
import Derived.RangeFuncCalls
import Derived.RangeFuncLeaves
import Derived.Test.YtkjefigebdbkaaaGreatDoorSNPlain
import Derived.Test.YtkjefigebdbkaaaGreatDoorM03
import Derived.Shelf.Abstract
import Derived.Shelf.RegionOpen
import Derived.WalkKit
import Derived.OwnWalkIn
import Derived.TacticsInMore
import Derived.LoopNIn
import Derived.LoopIn
namespace Go.Proofs.YtkjefigebdbkaaaGreatDoor.P
open Go.RowKit
abbrev On (l : Array Bool) (j : Nat) : Prop := l.getD j false = true
theorem on_set {l : Array Bool} {i : Nat} (hi : l.getD i true = false) (j : Nat) : On (l.setIfInBounds i true) j ↔ (j = i ∨ On l j) := by
  unfold On
  by_cases h : i = j
  · subst h
    have hlt : i < l.size := by
      rcases Nat.lt_or_ge i l.size with h' | h'
      · exact h'
      · simp [Array.getElem?_eq_none h'] at hi
    simp [hlt]
  · rw [getD_set_ne false h]
    constructor
    · exact Or.inr
    · rintro (e | e)
      · exact absurd e.symm h
      · exact e
def deps (ops : Array Oper) (i : Nat) : List Nat := match ops[i]? with
  | none => []
  | some o => (o.after.toList.filter (Region.binds .any)).map (·.on)
def backs (ops : Array Oper) : Bool := (List.range ops.size).all fun i => (deps ops i).all (decide <| · < i)
theorem deps_of {ops : Array Oper} {i : Nat} {o : Oper} (ho : ops[i]? = some o) {l : Array Bool} (h : ∀ e ∈ o.after, Region.binds .any e = true → On l e.on) : ∀ j ∈ deps ops i, On l j := by
  intro j hj
  unfold deps at hj
  rw [ho] at hj
  obtain ⟨e, he, rfl⟩ := List.mem_map.1 hj
  obtain ⟨h1, h2⟩ := List.mem_filter.1 he
  exact h e (Array.mem_def.2 h1) h2
theorem mem_deps {ops : Array Oper} {i : Nat} {o : Oper} (ho : ops[i]? = some o) {e : Edge} (he : e ∈ o.after) (hb : Region.binds .any e = true) : e.on ∈ deps ops i := by
  unfold deps
  rw [ho]
  exact List.mem_map.2 ⟨e, List.mem_filter.2 ⟨Array.mem_def.1 he, hb⟩, rfl⟩
theorem wpAny_inv {P : Program} {ops : Array Oper} {Q : Exit → Act → World → Prop} (I : Array Bool → Act → World → Prop)
    (hback : backs ops = true)
    (hstep : ∀ l a w, I l a w → ∀ i, i < ops.size → l.getD i true = false → (∀ j ∈ deps ops i, On l j) → wpOp P ops Q i (I (l.setIfInBounds i true)) a w)
    (hdone : ∀ l a w, I l a w → (∀ j, j < ops.size → On l j) → Q .normal a w) :
    ∀ (fuel : Nat) (l : Array Bool) (a : Act) (w : World), l.size = ops.size → I l a w → l.toList.count false ≤ fuel → wpAny P .any ops Q fuel l a w := by
  have hend : ∀ (l : Array Bool), l.size = ops.size → Region.ready .any ops l = [] → ∀ j, j < ops.size → On l j := by
    intro l hl hr j
    induction j using Nat.strongRecOn with
    | ind j ih =>
      intro hj
      by_cases h : l.getD j true = false
      · have : j ∈ Region.ready .any ops l := mem_ready.2 ⟨h, ops[j], Array.getElem?_eq_getElem hj, fun e he hb => by
          have hlt : e.on < j := of_decide_eq_true (List.all_eq_true.1 (List.all_eq_true.1 hback j (List.mem_range.2 hj)) e.on (mem_deps (Array.getElem?_eq_getElem hj) he hb))
          exact ih _ hlt (Nat.lt_trans hlt hj)⟩
        rw [hr] at this
        cases this
      · have hj' : j < l.size := by omega
        unfold On
        simp [hj'] at h ⊢
        exact h
  intro fuel
  induction fuel with
  | zero =>
    intro l a w hl hI hc
    have hr : Region.ready .any ops l = [] := by
      rw [List.eq_nil_iff_forall_not_mem]
      intro i hi
      have h := (mem_ready.1 hi).1
      have hm : false ∈ l.toList := by
        rcases Nat.lt_or_ge i l.size with h' | h'
        · simp [h'] at h
          rw [← h]
          simp
        · simp [Array.getElem?_eq_none h'] at h
      have := List.count_pos_iff.2 hm
      omega
    exact ⟨hr, hdone l a w hI (hend l hl hr)⟩
  | succ fuel ih =>
    intro l a w hl hI hc
    refine ⟨fun hr => hdone l a w hI (hend l hl hr), fun i hi => ?_⟩
    obtain ⟨h0, o, ho, hall⟩ := mem_ready.1 hi
    have hlt : i < l.size := by
      rcases Nat.lt_or_ge i l.size with h' | h'
      · exact h'
      · simp [Array.getElem?_eq_none h'] at h0
    refine wpOp_mono (fun a' w' h => ih _ a' w' (by simpa using hl) h ?_) (hstep l a w hI i (by omega) h0 (deps_of ho hall))
    have hv : l[i] = false := by simpa [hlt] using h0
    have hm : 0 < l.toList.count false := List.count_pos_iff.2 (by rw [← hv]; simp)
    rw [Array.toList_setIfInBounds, List.count_set (by simpa using hlt)]
    simp [hv]; rw [← Array.count_toList]
    omega
theorem wp_region_inv {P : Program} {id : Nat} {ops : Array Oper} {Q : Exit → Act → World → Prop} {a : Act} {w : World} (hm : P.follows .mixedOrders = true) (I : Array Bool → Act → World → Prop)
    (hback : backs ops = true)
    (h0 : ∀ l, (∀ j, ¬ On l j) → I l a { w with drawn := w.drawn + 1 })
    (hstep : ∀ l a w, I l a w → ∀ i, i < ops.size → l.getD i true = false → (∀ j ∈ deps ops i, On l j) → wpOp P ops Q i (I (l.setIfInBounds i true)) a w)
    (hdone : ∀ l a w, I l a w → (∀ j, j < ops.size → On l j) → Q .normal a w) : (Code.region id ops true).wp P Q a w := by
  refine wp_region_any hm (wpAny_inv I hback hstep hdone _ _ _ _ (by simp) (h0 _ (fun j h => ?_)) (by simp))
  unfold On at h
  by_cases hj : j < ops.size
  · simp [hj] at h
  · simp [Array.getElem?_eq_none (show (Array.replicate ops.size false).size ≤ j by simpa using hj)] at h
end Go.Proofs.YtkjefigebdbkaaaGreatDoor.P
namespace Go.Proofs.YtkjefigebdbkaaaGreatDoor.P
open Go.RowKit
open A (Bx)
theorem off_of {l : Array Bool} {i : Nat} (h : l.getD i true = false) : ¬ On l i := fun h2 => by
  unfold On at h2
  rcases Nat.lt_or_ge i l.size with h' | h'
  · simp [h'] at h h2; rw [h] at h2; cases h2
  · simp [Array.getElem?_eq_none h'] at h
theorem getD_other {vs : List Value} {i j : Nat} (h : j ≠ i) (x : Value) : (vs.set i x).getD j undef = vs.getD j undef := by
  simp only [List.getD_eq_getElem?_getD]
  rw [List.getElem?_set_ne (Ne.symm h)]
theorem getD_self {vs : List Value} {i : Nat} (h : i < vs.length) (x : Value) : (vs.set i x).getD i undef = x := by
  simp only [List.getD_eq_getElem?_getD]
  rw [List.getElem?_set_self h]
  rfl
section
end
end Go.Proofs.YtkjefigebdbkaaaGreatDoor.P
namespace Go.Proofs.YtkjefigebdbkaaaGreatDoor.P
open Go.RowKit
structure IS (F : Nat → Value → World → Prop) (W : World) (l : Array Bool) (w : World) (vs : List Value) : Prop where
  bel : Below W.heap.size W w
  f : ∀ j, On l j → F j (vs.getD j undef) w
theorem IS.step {F : Nat → Value → World → Prop} (hF : ∀ j x w w', F j x w → Below w.heap.size w w' → F j x w') {W : World} {l : Array Bool} {w w' : World} {vs : List Value} (h : IS F W l w vs) {i : Nat} (h0 : l.getD i true = false) (hi : i < vs.length) (hb : Below w.heap.size w w') {x : Value} (hx : F i x w') :
    IS F W (l.setIfInBounds i true) w' (vs.set i x) := by
  refine ⟨h.bel.trans (hb.mono h.bel.size), fun j hj => ?_⟩
  by_cases e : j = i
  · subst e; rw [getD_self hi]; exact hx
  · rw [getD_other e]
    exact hF _ _ _ _ (h.f j (((on_set h0 j).1 hj).resolve_left e)) hb
theorem IS.start (F : Nat → Value → World → Prop) (W : World) {l : Array Bool} (hl : ∀ j, ¬ On l j) (vs : List Value) : IS F W l { W with drawn := W.drawn + 1 } vs := ⟨L.below_drew W, fun j hj => absurd hj (hl j)⟩
end Go.Proofs.YtkjefigebdbkaaaGreatDoor.P
namespace Go.Proofs.YtkjefigebdbkaaaGreatDoor.N
open Go.RowKit

structure KC (b : Option Nat) (n₀ B : Nat) (W W' : World) : Prop where
  size : W.heap.size ≤ W'.heap.size
  low : ∀ k, k < n₀ → some k ≠ b → W'.heap[k]? = W.heap[k]?
  keep : ∀ (k : Nat) (o : Obj), B ≤ k → W.heap[k]? = some o → o.isCells = true → W'.heap[k]? = some o
theorem KC.refl (b : Option Nat) (n₀ B : Nat) (W : World) : KC b n₀ B W W := ⟨Nat.le_refl _, fun _ _ _ => rfl, fun _ _ _ h _ => h⟩
theorem KC.trans {b : Option Nat} {n₀ B : Nat} {W W' W'' : World} (h : KC b n₀ B W W') (h2 : KC b n₀ B W' W'') : KC b n₀ B W W'' :=
  ⟨Nat.le_trans h.size h2.size, fun k hk hb => (h2.low k hk hb).trans (h.low k hk hb), fun k o hB hk ho => h2.keep k o hB (h.keep k o hB hk ho) ho⟩
theorem KC.putObj {b : Option Nat} {n₀ B : Nat} {w : World} (hn : n₀ ≤ w.heap.size) (W : World) (l : Nat) (o o' : Obj) (hl : w.heap.size ≤ l) (h : W.heap[l]? = some o) (ho : o.isCells = false) (_ : o.isWalk = false) : KC b n₀ B W (W.putObj l o') :=
  ⟨by simp [World.putObj], fun k hk _ => World.putObj_heap_other (by omega), fun k x _ hk hx => by
    by_cases e : k = l
    · subst e; rw [h] at hk; cases hk; rw [ho] at hx; cases hx
    · exact (World.putObj_heap_other e).trans hk⟩
theorem KC.alloc {b : Option Nat} {n₀ B : Nat} (W : World) (hn : n₀ ≤ W.heap.size) (o : Obj) : KC b n₀ B W (W.alloc o) :=
  ⟨by simp, fun k hk _ => Below.heap_alloc W o k (by omega), fun k _ _ hk _ => (Below.heap_alloc W o k (Array.getElem?_eq_some_iff.1 hk).1).trans hk⟩
theorem KC.of_below {b : Option Nat} {n₀ B : Nat} {W W' : World} (hn : n₀ ≤ W.heap.size) (h : Below W.heap.size W W') : KC b n₀ B W W' :=
  ⟨h.size, fun k hk _ => h.block k (by omega), fun k _ _ hk _ => (h.block k (Array.getElem?_eq_some_iff.1 hk).1).trans hk⟩
theorem KC.setCell {n₀ B : Nat} (W : World) {b o : Nat} (hB : b < B) (v : Value) : KC (some b) n₀ B W (W.setCell ⟨b, o, none⟩ v) :=
  ⟨by simp [World.setCell], fun k _ hb => Below.heap_setCell W ⟨b, o, none⟩ v k (fun e => hb (by rw [e])), fun k _ hk h _ => (Below.heap_setCell W ⟨b, o, none⟩ v k (by show k ≠ b; omega)).trans h⟩
def OneBox (b : Option Nat) (W : World) : Prop := ∀ g, b = some g → ∃ v t, W.heap[g]? = some (.cells #[v] t)
theorem kc_cell {b : Option Nat} {n B : Nat} {W W' : World} (hb : OneBox b W) (h : KC b n B W W') {g i : Nat} {u : Value} (hu : W.cell? ⟨g, i + 1, none⟩ = some u) (hg : g < n) (i' : Nat) : W'.cell? ⟨g, i', none⟩ = W.cell? ⟨g, i', none⟩ := by
  refine World.cell?_of_block (w := W) (h.low g hg (fun e => ?_))
  obtain ⟨v, t, h2⟩ := hb g e.symm
  simp [World.cell?, h2] at hu
mutual
theorem exAt_kc {b : Option Nat} {B : Nat} {W W' : World} (hb : OneBox b W) (h : KC b W.heap.size B W W') : ∀ (e : A.Ex) {g i : Nat}, A.ExAt W e g i → A.ExAt W' e g i
  | .mk o n s l, g, i, he => by
    have hlt := he.lt
    rw [A.ExAt] at he ⊢
    obtain ⟨h0, h1, h2, a, c, h3, h4⟩ := he
    have hx := kc_cell hb h h1 hlt
    refine ⟨(hx _).trans h0, (hx _).trans h1, (hx _).trans h2, a, c, (hx _).trans h3, ?_⟩
    rcases h4 with h4 | ⟨b2, i2, ha, h5⟩
    · exact Or.inl h4
    · exact Or.inr ⟨b2, i2, ha, exsAt_kc hb h l h5⟩
theorem exsAt_kc {b : Option Nat} {B : Nat} {W W' : World} (hb : OneBox b W) (h : KC b W.heap.size B W W') : ∀ (l : List A.Ex) {g i : Nat}, A.ExsAt W l g i → A.ExsAt W' l g i
  | [], _, _, _ => by rw [A.ExsAt]; trivial
  | e :: r, g, i, he => by
    rw [A.ExsAt] at he ⊢
    exact ⟨exAt_kc hb h e he.1, exsAt_kc hb h r he.2⟩
end
theorem kids_kc {b : Option Nat} {B : Nat} {W W' : World} (hb : OneBox b W) (h : KC b W.heap.size B W W') {a : Option Addr} {l : List A.Ex} (hk : A.Kids W a l) : A.Kids W' a l := by
  rcases hk with hk | ⟨g, i, ha, hk⟩
  · exact Or.inl hk
  · exact Or.inr ⟨g, i, ha, exsAt_kc hb h l hk⟩
end Go.Proofs.YtkjefigebdbkaaaGreatDoor.N
namespace Go.Proofs.YtkjefigebdbkaaaGreatDoor.N
open Go.RowKit Go.Shelf
open A (Ex exV exO okE)
attribute [local go_sem] Oper.semAt_some

theorem exV_mk' (o n : Int) (s : ByteArray) (l : List Ex) (a : Option Addr) (c : Nat) : exV (.mk o n s l) a c = .agg #[.int .i64 o, .int .i64 n, .string s, .slice a l.length c] := rfl
theorem room_of_none {F : Fence} (hd : F.depth = none) (k : Nat) : F.room k := fun d h => by rw [hd] at h; cases h
theorem round_depth {F : Fence} (hd : F.depth = none) {m m' : Nat} {P : Program} {l : Nat} {f : FuncId} {tmps : Array Value} {assign body : Code} {w : World} {R : Ending → World → Prop}
    (h : RoundIn F m P l f tmps assign body w R) : RoundIn F m' P l f tmps assign body w R := ⟨h.1, fun c cs _ => h.2 c cs (room_of_none hd _)⟩
theorem yield_depth {F : Fence} (hd : F.depth = none) {m : Nat} (m' : Nat) {P : Program} {l : Nat} {args : Array Value} {W : World} {R : Ending → World → Prop} (h : YieldAt F m P l args W R) : YieldAt F m' P l args W R := by
  obtain ⟨fn, tmps, assign, body, hy, hR⟩ := h
  exact ⟨fn, tmps, assign, body, hy, round_depth hd hR⟩
structure Nd where
  e : Ex
  a : Option Addr
  c : Nat
def Nd.v (x : Nd) : Value := exV x.e x.a x.c
def Nd.op (x : Nd) : Int := x.e.op
def Visited (e : Ex) (pre : List Nd) (J Jx : List Nd → World → Prop) (b : Option Nat) (n₀ B : Nat) (W : World) (e' : Ending) (W' : World) : Prop :=
  (e' = .returned (.bool true) ∧ (∃ xs, xs.map Nd.op = ops e ∧ J (pre ++ xs) W') ∧ KC b n₀ B W W') ∨ (e' = .returned (.bool false) ∧ ∃ xs, xs.map Nd.op <+: ops e ∧ Jx (pre ++ xs) W')
def QV (F : Fence) (b : Option Nat) (l B N : Nat) (J Jx : List Nd → World → Prop) (w0 : World) (e : Ex) : Prop := ∀ (n : Nat) (pre : List Nd) (a : Option Addr) (c : Nat) (W : World), okE e → A.Kids w0 a e.args → KC b w0.heap.size B w0 W → B ≤ W.heap.size → J pre W → pre.length + (ops e).length ≤ N →
  CallsIn F n Tryz.prog 46 #[exV e a c, .func (.yield l) #[] #[]] W (Visited e pre J Jx b w0.heap.size B W)
theorem take_flat {l : List Ex} {k : Nat} (hk : k < l.length) : (l.take (k + 1)).flatMap ops = (l.take k).flatMap ops ++ ops l[k] := by
  rw [List.take_succ_eq_append_getElem hk, List.flatMap_append]
  simp
theorem take_pre (l : List Ex) (k : Nat) : (l.take k).flatMap ops <+: l.flatMap ops := by
  conv => rhs; rw [← List.take_append_drop k l]
  rw [List.flatMap_append]
  exact List.prefix_append _ _
set_option maxHeartbeats 8000000 in
set_option maxRecDepth 100000 in
theorem visit_in (F : Fence) (hd : F.depth = none) (hv : F.fn 46) (hro : F.round = none) (b : Option Nat) (l B N : Nat) (J Jx : List Nd → World → Prop) (w0 : World) (hbx : OneBox b w0)
    (hJa : ∀ s W o, J s W → J s (W.alloc o))
    (hY : ∀ m pre x W, J pre W → pre.length < N → YieldAt F m Tryz.prog l #[Nd.v x] W fun e W' => (e = .returned (.bool true) ∧ J (pre ++ [x]) W' ∧ KC b w0.heap.size B W W') ∨ (e = .returned (.bool false) ∧ Jx (pre ++ [x]) W')) :
    ∀ e, QV F b l B N J Jx w0 e := by
  refine A.Ex.ind (P := QV F b l B N J Jx w0) ?_
  intro o m s t ih n pre a c W hok hK hb0 hB hJ hN
  have hK' : A.Kids w0 a t := hK
  have hn0 : w0.heap.size ≤ W.heap.size := hb0.size
  have hok' : ∀ x ∈ t, okE x := by
    rw [okE] at hok
    exact fun x hx => by
      obtain ⟨j, hj, rfl⟩ := List.getElem_of_mem hx
      exact A.okEs.get hok.2.2.2.2 j hj
  have hll : t.length ≤ 1000000000000000 := by rw [okE] at hok; exact hok.2.2.2.1
  have hops : ops (.mk o m s t) = o :: t.flatMap ops := ops_mk o m s t
  have hdd : ∀ k : Nat, (F.depth.isSome = true → 1 ≤ k) := fun k h => by rw [hd] at h; cases h
  obtain ⟨W1, hW1⟩ : ∃ W1, W.alloc (.cells #[.int .i64 o, .int .i64 m, .string s, .slice a t.length c] 41) = W1 := ⟨_, rfl⟩
  have hk1 : KC b w0.heap.size B W W1 := by rw [← hW1]; exact KC.alloc W hn0 _
  have hJ1 : J pre W1 := by rw [← hW1]; exact hJa _ _ _ hJ
  have hsz1 : W1.heap.size = W.heap.size + 1 := by rw [← hW1]; simp
  have hbl : W1.heap[W.heap.size]? = some (.cells #[.int .i64 o, .int .i64 m, .string s, .slice a t.length c] 41) := by rw [← hW1]; exact World.alloc_heap_new W _
  have hpl : pre.length < N := by rw [hops] at hN; simp only [List.length_cons] at hN; omega
  obtain ⟨fn, tmps, assign, body, hy, hR⟩ := hY (n - 1) pre ⟨.mk o m s t, a, c⟩ W1 hJ1 hpl
  have hR2 : RoundIn F (n - 1) Tryz.prog l fn tmps assign body W1 fun e W2 => (e = .returned (.bool true) ∧ J (pre ++ [⟨.mk o m s t, a, c⟩]) W2 ∧ KC b w0.heap.size B W1 W2 ∧ W2.cell? ⟨W.heap.size, 3, none⟩ = some (.slice a t.length c)) ∨ (e = .returned (.bool false) ∧ Jx (pre ++ [⟨.mk o m s t, a, c⟩]) W2) := by
    refine hR.mono fun e W2 h => h.elim (fun ⟨h1, h2, h3⟩ => Or.inl ⟨h1, h2, h3, ?_⟩) Or.inr
    have hk := h3.keep W.heap.size _ hB hbl rfl
    simp [World.cell?, hk]
  simp only [Nd.v, exV_mk'] at hy
  simp only [exV_mk']
  refine callsIn_of_wp Tryz.func46 rfl hv ?_ hro
  simp only [Tryz.ntmps46, List.size_toArray, List.length_cons, List.length_nil, Nat.reduceAdd, Nat.reduceSub, Array.replicate_succ, Array.replicate_zero, List.push_toArray, List.append_toArray, List.nil_append, List.cons_append]
  have x0 : W1.cell? ⟨W.heap.size, 0, none⟩ = some (.int .i64 o) := by simp [World.cell?, hbl]
  have x1 : W1.cell? ⟨W.heap.size, 1, none⟩ = some (.int .i64 m) := by simp [World.cell?, hbl]
  have x2 : W1.cell? ⟨W.heap.size, 2, none⟩ = some (.string s) := by simp [World.cell?, hbl]
  have x3 : W1.cell? ⟨W.heap.size, 3, none⟩ = some (.slice a t.length c) := by simp [World.cell?, hbl]
  rw [← hW1] at hy x0 x1 x2 x3
  have HW1 := Lib.hid hW1
  have hbs : KC b w0.heap.size B w0 W1 := hb0.trans hk1
  rw [← hW1] at hR2
  have HR2 := Lib.hid hR2
  have HK1 := Lib.hid hk1
  have HKid := Lib.hid hK'
  have HBs := Lib.hid hbs
  have HOPS := Lib.hid hops
  have HZ1 := Lib.hid hsz1
  have HBB := Lib.hid hB
  have HN := Lib.hid hN
  have HIH : Hid (∀ (k : Nat) (h : k < t.length) (pre2 : List Nd) (a2 : Option Addr) (c2 : Nat) (W3 : World), A.Kids w0 a2 t[k].args → KC b w0.heap.size B w0 W3 → B ≤ W3.heap.size → J pre2 W3 → pre2.length + (ops t[k]).length ≤ N →
      CallsIn F (n - 1) Tryz.prog 46 #[exV t[k] a2 c2, .func (.yield l) #[] #[]] W3 (Visited t[k] pre2 J Jx b w0.heap.size B W3)) := fun k h pre2 a2 c2 W3 h1 h2 h3 h4 h5 => ih k h (n - 1) pre2 a2 c2 W3 (hok' _ (List.getElem_mem h)) h1 h2 h3 h4 h5
  obtain ⟨nd, hnd⟩ : ∃ nd : Nd, nd = ⟨.mk o m s t, a, c⟩ := ⟨_, rfl⟩
  have HND : Hid (nd.op = o) := by rw [hnd]; rfl
  rw [← hnd] at HR2
  have HJA := Lib.hid hJa
  obtain ⟨g, hg⟩ : ∃ g, t.length = g := ⟨_, rfl⟩
  have HL := Lib.hid hg
  rw [hg] at hy HR2 HW1 x0 x1 x2 x3 hll ⊢
  have HT0 : Hid ((t.take 0).flatMap ops = []) := rfl
  clear hR hR2 hW1 hbl hJ1 hJ hY hok hok' hK hb0 hN hk1 hbs hops hg hK' ih hJa hsz1 hB hpl hnd
  gi_wp2
  refine HR2.out.mono ?_
  clear HR2 hy
  rintro e2 W2 (⟨rfl, hJ2, hk2, y3⟩ | ⟨rfl, hJx2⟩)
  · have HJ2 : Hid (J (pre ++ [nd]) W2) := hJ2
    rw [HW1.out] at hk2
    have HK2 := Lib.hid hk2
    clear hJ2 hk2 x0 x1 x2 x3
    gi_wp2
    gi_loopw [14] (fun s14 wr => ∃ (k : Nat) (xs : List Nd), k ≤ g ∧ s14 = .int .i64 k ∧ Hid (xs.map Nd.op = (t.take k).flatMap ops) ∧ Hid (J (pre ++ nd :: xs) wr) ∧ Hid (KC b w0.heap.size B W2 wr)) (fun s14 _ => g - (intOf s14).toNat)
    case atStart => exact ⟨0, [], Nat.zero_le _, rfl, rfl, HJ2, KC.refl _ _ _ _⟩
    case round =>
      obtain ⟨k, xs, hk, rfl, HX, HJr, HKr⟩ := hrel
      by_cases hlt : k < g
      · have hlx : k < t.length := by rw [HL.out]; exact hlt
        have HBr := Lib.hid ((HBs.out.trans HK2.out).trans HKr.out)
        obtain ⟨b2, i2, rfl, hat⟩ := (kids_kc hbx HBr.out HKid.out).open hlx
        obtain ⟨_, _, ha, hat0⟩ := HKid.out.open hlx
        cases ha
        obtain ⟨d0, d1, d2, a2, cc, d3, hk2⟩ := hat.open
        obtain ⟨-, d1', -, a3, c3, d3', hk3⟩ := hat0.open
        have hsame := (kc_cell hbx HBr.out d1' hat0.lt (i2 + k * 4 + 3)).trans d3'
        rw [d3] at hsame
        injection hsame with hsame
        injection hsame with hs1 hs2 hs3
        subst hs1 hs3
        have hlen : pre.length + 1 + xs.length + (ops t[k]).length ≤ N := by
          have h1 := HN.out
          rw [HOPS.out] at h1
          have h2 := congrArg List.length HX.out
          rw [List.length_map] at h2
          have h3 := take_flat hlx
          have h4 := (take_pre t (k + 1)).length_le
          rw [h3, List.length_append] at h4
          simp only [List.length_cons] at h1
          omega
        have HC := Lib.hid (fun (W3 : World) (o3 : Obj) (e3 : W3 = wr.alloc o3) => HIH.out k hlx (pre ++ nd :: xs) a2 cc W3 hk3 (by rw [e3]; exact HBr.out.trans (KC.alloc wr HBr.out.size o3)) (by rw [e3]; have h1 := HBB.out; have h2 := HK1.out.size; have h3 := HK2.out.size; have h4 := HKr.out.size; simp; omega) (by rw [e3]; exact HJA.out _ _ _ HJr.out) (by rw [List.length_append, List.length_cons]; omega))
        have HX2 : Hid (∀ ys : List Nd, ys.map Nd.op = ops t[k] → (xs ++ ys).map Nd.op = (t.take (k + 1)).flatMap ops) := by
          intro ys hys
          rw [List.map_append, HX.out, hys, take_flat hlx]
        have HX3 : Hid (∀ ys : List Nd, ys.map Nd.op <+: ops t[k] → (nd :: (xs ++ ys)).map Nd.op <+: o :: t.flatMap ops) := by
          intro ys hys
          rw [List.map_cons, HND.out, List.map_append, HX.out]
          refine List.prefix_cons_inj _ |>.2 (((List.prefix_append_right_inj _).2 hys).trans ?_)
          rw [← take_flat hlx]
          exact take_pre _ _
        clear hat hat0 hk2 hk3 d1' d3' hlen
        unfold exV at HC
        generalize t[k].args.length = m2 at d3 HC
        generalize t[k].op = o2 at d0 HC
        generalize t[k].n = n2 at d1 HC
        generalize t[k].s = s2 at d2 HC
        generalize t[k] = ek at HC HX2 HX3
        gi_wp2_with ((try refine ⟨hdd _, ?_⟩); gi_at_call 46; refine (HC.out _ _ rfl).mono ?_; clear HC; rintro e3 W3 (⟨rfl, ⟨ys, hys, hJ3⟩, hk3⟩ | ⟨rfl, ys, hys, hJx3⟩))
        · go_roundw
          case rel => exact ⟨k + 1, xs ++ ys, by omega, by go_num, HX2.out ys hys, by rw [← List.cons_append, ← List.append_assoc]; exact hJ3, HKr.out.trans ((KC.alloc wr HBr.out.size _).trans hk3)⟩
          case measure => simp [intOf]; omega
        · go_ret
          refine Or.inr ⟨rfl, nd :: (xs ++ ys), ?_, ?_⟩
          · rw [HOPS.out]; exact HX3.out ys hys
          · rw [← List.cons_append, ← List.append_assoc]; exact hJx3
      · have hx := HX.out
        rw [List.take_of_length_le (by have := HL.out; omega)] at hx
        have HV : Hid (Visited (.mk o m s t) pre J Jx b w0.heap.size B W (.returned (.bool true)) wr) := by
          refine Or.inl ⟨rfl, ⟨nd :: xs, ?_, HJr.out⟩, HK1.out.trans (HK2.out.trans HKr.out)⟩
          rw [HOPS.out, List.map_cons, HND.out, hx]
        clear hx
        gi_wp2
        go_ret
        exact HV.out
  · have HV : Hid (Visited (.mk o m s t) pre J Jx b w0.heap.size B W (.returned (.bool false)) W2) := by
      refine Or.inr ⟨rfl, [nd], ?_, hJx2⟩
      rw [HOPS.out, List.map_cons, HND.out]
      exact List.prefix_cons_inj _ |>.2 (List.nil_prefix)
    clear hJx2
    gi_wp2
    go_ret
    exact HV.out
theorem nodes_stops (b : Option Nat) (F : Fence) (hd : F.depth = none) (n : Nat) (hv : F.fn 46) (h86 : F.fn 45) (hro : F.round = none) (Bt : Nat) (e : Ex) (a : Option Addr) (c : Nat) (w : World) (hok : okE e) (hbl : w.heap[Bt]? = some (exO e a c)) (hK : A.Kids w a e.args) (hbx : OneBox b w) :
    SeqStopsK F n Tryz.prog 45 #[.pointer (some ⟨Bt, 0, none⟩)] (fun x : Nd => #[x.v]) (KC b w.heap.size w.heap.size) (fun xs => xs.map Nd.op = ops e) (fun xs => xs.map Nd.op <+: ops e) (ops e).length w := by
  intro l J Jx W hW hJa hJxa hY h0
  have hlt : Bt < w.heap.size := (Array.getElem?_eq_some_iff.1 hbl).1
  have hbW : W.heap[Bt]? = some (exO e a c) := (hW.block Bt hlt).trans hbl
  have hJal : ∀ s W o, J s W → J s (W.alloc o) := fun s X o h => hJa s X _ none h (World.grownBy_alloc X o none) (fun r e => by cases e)
  have hp := visit_in F hd hv hro b l w.heap.size (ops e).length J Jx w hbx hJal (fun m pre x X hj hl => yield_depth hd m (hY pre x X hj hl)) e (n - 1) [] a c W hok hK (KC.of_below (Nat.le_refl _) hW) hW.size h0 (by simp)
  have hdd : ∀ k : Nat, (F.depth.isSome = true → 1 ≤ k) := fun k h => by rw [hd] at h; cases h
  have x0 : W.cell? ⟨Bt, 0, none⟩ = some (.int .i64 e.op) := by simp [World.cell?, hbW, exO]
  have x1 : W.cell? ⟨Bt, 1, none⟩ = some (.int .i64 e.n) := by simp [World.cell?, hbW, exO]
  have x2 : W.cell? ⟨Bt, 2, none⟩ = some (.string e.s) := by simp [World.cell?, hbW, exO]
  have x3 : W.cell? ⟨Bt, 3, none⟩ = some (.slice a e.args.length c) := by simp [World.cell?, hbW, exO]
  have HP := Lib.hid hp
  have HR : Hid (∀ e' W', Visited e [] J Jx b w.heap.size w.heap.size W e' W' → (∃ v, e' = .returned v) ∧ ((∃ xs, xs.map Nd.op = ops e ∧ J xs W') ∨ (∃ pre, pre.map Nd.op <+: ops e ∧ Jx pre W'))) := by
    rintro e' W' (⟨rfl, ⟨ys, hys, hJ3⟩, hk3⟩ | ⟨rfl, ys, hys, hJx3⟩)
    · exact ⟨⟨_, rfl⟩, Or.inl ⟨ys, hys, by simpa using hJ3⟩⟩
    · exact ⟨⟨_, rfl⟩, Or.inr ⟨ys, hys, by simpa using hJx3⟩⟩
  unfold exV at HP
  generalize e.args.length = m2 at x3 HP
  generalize e.op = o2 at x0 HP
  generalize e.n = n2 at x1 HP
  generalize e.s = s2 at x2 HP
  clear hp hbW hbl hJal hY h0 hJa hJxa hW hK hok
  refine callsIn_of_wp Tryz.func45 rfl h86 ?_ hro
  simp only [Tryz.ntmps45, List.size_toArray, List.length_cons, List.length_nil, Nat.reduceAdd, Nat.reduceSub, Array.replicate_succ, Array.replicate_zero, List.push_toArray, List.append_toArray, List.nil_append, List.cons_append]
  gi_wp2_with ((try refine ⟨hdd _, ?_⟩); gi_at_call 46; refine HP.out.mono ?_; intro e3 W3 h3; have HV := Lib.hid (HR.out _ _ h3); rcases h3 with ⟨rfl, -, -⟩ | ⟨rfl, -⟩)
  all_goals
    go_end0
    exact ⟨⟨_, rfl⟩, HV.out.2⟩
end Go.Proofs.YtkjefigebdbkaaaGreatDoor.N
