/-
  What First of layer 12 leaves as it was: all but one variable; the marks of its loops; how far it has come.
  What the program's functions of layer 12 return: First: its contract.
  Plain mathematics of layer 8: the walk as the program makes it: nodes with their depths, visited by a step that may end the walk; what each of the program's steps leaves.
  The program's walk of layer 8: what a step does that is called for each node; walkExpr of the program, as ValidExpr calls it; ValidExpr.
  The program's walk of layer 8: walkField, walkStmts: contracts, whatever step is called for each node.
-/
import Derived.Test.YtgjnddjpinhkgaaDoorM15
import Derived.Test.YtgjnddjpinhkgaaDoorM11
import Derived.Test.YtgjnddjpinhkgaaDoorM06
import Derived.Test.YtgjnddjpinhkgaaDoorQAFacts
import Derived.Laws.BitsLemmas
namespace Go.Proofs.YtgjnddjpinhkgaaDoor.N
open Go.RowKit Go.Shelf
open A (Ex Pr exprs exV exO okE)
open L (below_2 below_box ret_bool)

/-! ### how far it has come -/
theorem fstF_at {l r : List Int} {o : Int} (h : l.any isN = false) (ho : isN o = true) (k : Int) : fstF k (l ++ o :: r) = (o, k + l.length, true) := by
  rw [fstF_app, if_neg (by rw [h]; decide), fstF, if_pos ho]
def noneN (l : List Ex) (k : Nat) : Prop := ((l.take k).flatMap ops).any isN = false
def lenN (l : List Ex) (k : Nat) : Nat := ((l.take k).flatMap ops).length
theorem noneN_zero (l : List Ex) : noneN l 0 := rfl
theorem noneN_next {l : List Ex} {k : Nat} (hk : k < l.length) (h : noneN l k) {ys : List Nd} (hy : ys.map Nd.op = ops l[k]) (hn : ∀ y ∈ ys, isN y.op = false) : noneN l (k + 1) := by
  unfold noneN at *
  rw [take_flat hk, List.any_append, h, ← hy, List.any_map, Bool.false_or, List.any_eq_false]
  intro y hm
  simp only [Function.comp]
  rw [hn y hm]; decide
theorem lenN_next {l : List Ex} {k : Nat} (hk : k < l.length) {ys : List Nd} (hy : ys.map Nd.op = ops l[k]) : lenN l (k + 1) = lenN l k + ys.length := by
  unfold lenN
  rw [take_flat hk, List.length_append, ← hy, List.length_map]
theorem lenN_le {l : List Ex} (k : Nat) : lenN l k ≤ (l.flatMap ops).length := (take_pre l k).length_le
theorem stop_at {l : List Ex} {k : Nat} (hk : k < l.length) (h : noneN l k) {pre : List Nd} {x : Nd} (hp : (pre ++ [x]).map Nd.op <+: ops l[k]) (hn : ∀ y ∈ pre, isN y.op = false) (hx : isN x.op = true) :
    fstF 0 (l.flatMap ops) = (x.op, ((lenN l k + pre.length : Nat) : Int), true) := by
  obtain ⟨r, hr⟩ := hp
  have h1 : l.flatMap ops = ((l.take k).flatMap ops ++ pre.map Nd.op) ++ x.op :: (r ++ (l.drop (k + 1)).flatMap ops) := by
    conv => lhs; rw [← List.take_append_drop k l]
    rw [List.flatMap_append, List.drop_eq_getElem_cons hk, List.flatMap_cons, ← hr]
    simp [List.append_assoc]
  rw [h1, fstF_at _ hx, List.length_append, List.length_map]
  · unfold lenN; simp
  · unfold noneN at h
    rw [List.any_append, h, List.any_map, Bool.false_or, List.any_eq_false]
    intro y hm
    simp only [Function.comp]
    rw [hn y hm]; decide
theorem end_at {l : List Ex} {k : Nat} (hk : l.length ≤ k) (h : noneN l k) : fstF 0 (l.flatMap ops) = (0, 0, false) := by
  unfold noneN at h
  rw [List.take_of_length_le hk] at h
  exact fstF_none h 0

/-! ### all but one block -/
structure OB (b : Nat) (W W' : World) : Prop where
  os : W'.os = W.os
  tape : W'.tape = W.tape
  output : W'.output = W.output
  size : W.heap.size ≤ W'.heap.size
  block : ∀ k, k < W.heap.size → k ≠ b → W'.heap[k]? = W.heap[k]?
theorem OB.refl (b : Nat) (W : World) : OB b W W := ⟨rfl, rfl, rfl, Nat.le_refl _, fun _ _ _ => rfl⟩
theorem OB.trans {b : Nat} {X Y Z : World} (h : OB b X Y) (k : OB b Y Z) : OB b X Z :=
  ⟨k.os.trans h.os, k.tape.trans h.tape, k.output.trans h.output, Nat.le_trans h.size k.size, fun i hi hb => (k.block i (Nat.lt_of_lt_of_le hi h.size) hb).trans (h.block i hi hb)⟩
theorem OB.of_below {b : Nat} {X Y : World} (h : Below X.heap.size X Y) : OB b X Y := ⟨h.os, h.tape, h.output, h.size, fun k hk _ => h.block k hk⟩
theorem OB.set {b : Nat} (W : World) (v : Value) : OB b W (W.setCell ⟨b, 0, none⟩ v) := ⟨rfl, rfl, rfl, by simp [World.setCell], fun k _ hb => Below.heap_setCell W ⟨b, 0, none⟩ v k hb⟩
theorem OB.below {b n : Nat} {X Y : World} (h : OB b X Y) (hb : n ≤ b) (hn : n ≤ X.heap.size) : Below n X Y := ⟨h.os, h.tape, h.output, h.size, fun k hk => h.block k (by omega) (by omega)⟩
theorem OB.cells {b k : Nat} {X Y : World} {o : Obj} (h : OB b X Y) (hk : X.heap[k]? = some o) (hb : k ≠ b) : Y.heap[k]? = some o := (h.block k (Array.getElem?_eq_some_iff.1 hk).1 hb).trans hk
theorem own_OB {β : Type} {B b : Nat} {W0 : World} (hB : W0.heap.size ≤ B) : OwnFrom B (fun (_ : β) W => OB b W0 W) := fun _ X Y row hs hg hr =>
  ⟨hg.os.trans hs.os, hg.tape.trans hs.tape, hg.output.trans hs.output, Nat.le_trans hs.size hg.size, fun k hk hb => (hg.block k (Nat.lt_of_lt_of_le hk hs.size) (fun e => by
    have := (hr k e.symm).1
    omega)).trans (hs.block k hk hb)⟩
/-- an expression does not lie in a variable's box -/
theorem ex_box {b : Nat} {W W' : World} {v : Value} {t : TypeId} (hb : W.heap[b]? = some (.cells #[v] t)) {g i : Nat} {u : Value} (h : W.cell? ⟨g, i + 1, none⟩ = some u) (hO : OB b W W') (i' : Nat) : W'.cell? ⟨g, i', none⟩ = W.cell? ⟨g, i', none⟩ := by
  have hlt := block_lt_of_cell h
  refine World.cell?_of_block (w := W) (hO.block g hlt (fun e => ?_))
  have e' : g = b := e
  subst e'
  simp [World.cell?, hb] at h
mutual
theorem exAt_other {b : Nat} {W W' : World} {v : Value} {t : TypeId} (hb : W.heap[b]? = some (.cells #[v] t)) (hO : OB b W W') : ∀ (e : Ex) {g i : Nat}, A.ExAt W e g i → A.ExAt W' e g i
  | .mk o n s l, g, i, h => by
    rw [A.ExAt] at h ⊢
    obtain ⟨h0, h1, h2, a, c, h3, h4⟩ := h
    have hx := ex_box hb h1 hO
    refine ⟨(hx _).trans h0, (hx _).trans h1, (hx _).trans h2, a, c, (hx _).trans h3, ?_⟩
    rcases h4 with h4 | ⟨b2, i2, ha, h5⟩
    · exact Or.inl h4
    · exact Or.inr ⟨b2, i2, ha, exsAt_other hb hO l h5⟩
theorem exsAt_other {b : Nat} {W W' : World} {v : Value} {t : TypeId} (hb : W.heap[b]? = some (.cells #[v] t)) (hO : OB b W W') : ∀ (l : List Ex) {g i : Nat}, A.ExsAt W l g i → A.ExsAt W' l g i
  | [], _, _, _ => by rw [A.ExsAt]; trivial
  | e :: r, g, i, h => by
    rw [A.ExsAt] at h ⊢
    exact ⟨exAt_other hb hO e h.1, exsAt_other hb hO r h.2⟩
end
theorem kids_other {b : Nat} {W W' : World} {v : Value} {t : TypeId} (hb : W.heap[b]? = some (.cells #[v] t)) (hO : OB b W W') {a : Option Addr} {l : List Ex} (h : A.Kids W a l) : A.Kids W' a l := by
  rcases h with h | ⟨g, i, ha, h⟩
  · exact Or.inl h
  · exact Or.inr ⟨g, i, ha, exsAt_other hb hO l h⟩

/-! ### the marks of the loops -/
def mark (D : Nat) : Deferred := { target := .collected D, args := #[] }
structure Marks (n : Nat) (l : List Nat) (W : World) : Prop where
  nd : l.Nodup
  each : ∀ D ∈ l, n ≤ D ∧ W.heap[D]? = some (.deferred (some []))
theorem Marks.nil (n : Nat) (W : World) : Marks n [] W := ⟨List.nodup_nil, fun _ h => absurd h List.not_mem_nil⟩
theorem Marks.cons {n : Nat} {l : List Nat} {W : World} (h : Marks n l W) {D : Nat} (hD : n ≤ D) (hk : W.heap[D]? = some (.deferred (some []))) (hn : ∀ x ∈ l, x < D) : Marks n (D :: l) W :=
  ⟨List.nodup_cons.2 ⟨fun hm => Nat.lt_irrefl _ (hn D hm), h.nd⟩, fun x hx => (List.mem_cons.1 hx).elim (fun e => by subst e; exact ⟨hD, hk⟩) (h.each x)⟩
theorem Marks.kept {n : Nat} {l : List Nat} {W W' : World} (h : Marks n l W) (hk : ∀ (k : Nat) (o : Obj), W.heap[k]? = some o → o.isCells = false → W'.heap[k]? = some o) : Marks n l W' :=
  ⟨h.nd, fun D hD => ⟨(h.each D hD).1, hk D _ (h.each D hD).2 rfl⟩⟩
theorem own_marks {β : Type} {B n : Nat} {l : List Nat} (hl : ∀ x ∈ l, x < B) : OwnFrom B (fun (_ : β) (W : World) => Marks n l W) := fun _ X Y row hs hg hr =>
  ⟨hs.nd, fun D hD => ⟨(hs.each D hD).1, (hg.block D (Array.getElem?_eq_some_iff.1 (hs.each D hD).2).1 (fun e => by have := (hr D e.symm).1; have := hl D hD; omega)).trans (hs.each D hD).2⟩⟩
/-- a function that leaves takes up its marks, one after the other: cells stay -/
theorem leaves_marks {F : Fence} {m : Nat} {P : Program} {fn : Func} {tmps : Array Value} {R : Ending → World → Prop} {n : Nat} : ∀ (l : List Nat) (W : World), Marks n l W →
    (∀ W', Below n W W' → (∀ (k : Nat) (o : Obj), W.heap[k]? = some o → o.isCells = true → W'.heap[k]? = some o) → LeavesInM F m P fn tmps R [] .returning W') → LeavesInM F m P fn tmps R (l.map mark) .returning W
  | [], W, _, h => h W (Below.refl _ _) fun _ _ h _ => h
  | D :: l, W, hM, h => by
    obtain ⟨h1, h2⟩ := hM.each D List.mem_cons_self
    have hn := List.nodup_cons.1 hM.nd
    have hb : Below n W (W.putObj D (.deferred none)) := ⟨rfl, rfl, rfl, by simp [World.putObj], fun k hk => World.putObj_heap_other (by omega)⟩
    have hc : ∀ (k : Nat) (o : Obj), W.heap[k]? = some o → o.isCells = true → (W.putObj D (.deferred none)).heap[k]? = some o := fun k o hk ho => by
      by_cases e : k = D
      · subst e; rw [h2] at hk; cases hk; cases ho
      · exact (World.putObj_heap_other e).trans hk
    refine ⟨by simp, .inl ⟨D, _, rfl, run_takeDeferred h2, ?_⟩⟩
    refine leaves_marks l _ ⟨hn.2, fun x hx => ⟨(hM.each x (List.mem_cons_of_mem _ hx)).1, ?_⟩⟩ fun W' hb' hc' => h W' (hb.trans hb') fun k o hk ho => hc' k o (hc k o hk ho) ho
    exact (World.putObj_heap_other (fun e => hn.1 (by rw [← e]; exact hx))).trans (hM.each x (List.mem_cons_of_mem _ hx)).2
/-- the three results stored -/
structure Three (g : Nat) (x y z : Value) (t1 t2 t3 : TypeId) (W : World) : Prop where
  c1 : W.heap[g + 1]? = some (.cells #[x] t1)
  c2 : W.heap[g + 1 + 1]? = some (.cells #[y] t2)
  c3 : W.heap[g + 1 + 1 + 1]? = some (.cells #[z] t3)
theorem Three.set {g : Nat} {x y z x' y' z' : Value} {t1 t2 t3 : TypeId} {W : World} (h : Three g x y z t1 t2 t3 W) :
    Three g x' y' z' t1 t2 t3 (((W.setCell ⟨g + 1, 0, none⟩ x').setCell ⟨g + 1 + 1, 0, none⟩ y').setCell ⟨g + 1 + 1 + 1, 0, none⟩ z') :=
  ⟨(Below.heap_setCell _ _ _ _ (by show g + 1 ≠ g + 1 + 1 + 1; omega)).trans ((Below.heap_setCell _ _ _ _ (by show g + 1 ≠ g + 1 + 1; omega)).trans (set_blk h.c1)),
   (Below.heap_setCell _ _ _ _ (by show g + 1 + 1 ≠ g + 1 + 1 + 1; omega)).trans (set_blk ((Below.heap_setCell _ _ _ _ (by show g + 1 + 1 ≠ g + 1; omega)).trans h.c2)),
   set_blk ((Below.heap_setCell _ _ _ _ (by show g + 1 + 1 + 1 ≠ g + 1 + 1; omega)).trans ((Below.heap_setCell _ _ _ _ (by show g + 1 + 1 + 1 ≠ g + 1; omega)).trans h.c3))⟩
theorem set3_below' {n g : Nat} {X W : World} {x y z : Value} (h : Below n X W) (hn : n ≤ g) : Below n X (((W.setCell ⟨g + 1, 0, none⟩ x).setCell ⟨g + 1 + 1, 0, none⟩ y).setCell ⟨g + 1 + 1 + 1, 0, none⟩ z) :=
  ((h.setCell (p := ⟨g + 1, 0, none⟩) (by show n ≤ g + 1; omega) _).setCell (p := ⟨g + 1 + 1, 0, none⟩) (by show n ≤ g + 1 + 1; omega) _).setCell (p := ⟨g + 1 + 1 + 1, 0, none⟩) (by show n ≤ g + 1 + 1 + 1; omega) _
theorem set3_others {g : Nat} (W : World) {x y z : Value} : KeepsOthers W (((W.setCell ⟨g + 1, 0, none⟩ x).setCell ⟨g + 1 + 1, 0, none⟩ y).setCell ⟨g + 1 + 1 + 1, 0, none⟩ z) :=
  ((KeepsOthers.setCell _ _ _).trans (KeepsOthers.setCell _ _ _)).trans (KeepsOthers.setCell _ _ _)
theorem Three.kept {g : Nat} {x y z : Value} {t1 t2 t3 : TypeId} {W W' : World} (h : Three g x y z t1 t2 t3 W) (hk : ∀ (k : Nat) (o : Obj), W.heap[k]? = some o → o.isCells = true → W'.heap[k]? = some o) : Three g x y z t1 t2 t3 W' :=
  ⟨hk _ _ h.c1 rfl, hk _ _ h.c2 rfl, hk _ _ h.c3 rfl⟩
theorem Three.kept2 {g b : Nat} {x y z : Value} {t1 t2 t3 : TypeId} {W W' : World} (h : Three g x y z t1 t2 t3 W) (hO : OB b W W') (h1 : g + 1 ≠ b) (h2 : g + 1 + 1 ≠ b) (h3 : g + 1 + 1 + 1 ≠ b) : Three g x y z t1 t2 t3 W' :=
  ⟨hO.cells h.c1 h1, hO.cells h.c2 h2, hO.cells h.c3 h3⟩
theorem own_three {β : Type} {B g : Nat} {x y z : β → Value} {t1 t2 t3 : TypeId} : OwnFrom B (fun (s : β) (W : World) => Three g (x s) (y s) (z s) t1 t2 t3 W) := fun s X Y row hs hg hr =>
  ⟨own_cells (o := fun s => .cells #[x s] t1) (fun _ => rfl) s X Y row hs.c1 hg hr, own_cells (o := fun s => .cells #[y s] t2) (fun _ => rfl) s X Y row hs.c2 hg hr, own_cells (o := fun s => .cells #[z s] t3) (fun _ => rfl) s X Y row hs.c3 hg hr⟩
theorem frozen_blk {W : World} {k : Nat} {v : Value} {t : TypeId} (h : W.heap[k]? = some (.cells #[v] t)) : W.frozen? ⟨k, 0, none⟩ = false := Boxed.frozen (t := t) h
end Go.Proofs.YtgjnddjpinhkgaaDoor.N
namespace Go.Proofs.YtgjnddjpinhkgaaDoor.N
open Go.RowKit Go.Shelf
open A (Ex Pr exprs exV exO okE prV prO OkP PrIn GivesXs)
open L (below_2 below_box ret_bool)
attribute [local go_sem] Oper.semAt_some

set_option maxHeartbeats 2000000 in
theorem leave_first {R : Int × Int × Bool} {w W : World} (l : List Nat) {t0 t1 t5 t6 t7 t8 t9 t10 t11 t12 t13 t14 t15 t16 t17 t18 t19 t20 t21 t22 t23 t24 t25 t26 t27 t28 t29 t30 : Value} (hM : Marks w.heap.size l W) (hT : Three w.heap.size (.int .i64 R.1) (.int .i64 R.2.1) (.bool R.2.2) 3 3 4 W) (hB : Below w.heap.size w W) :
    LeavesInM Fence.wide 9 Tryd.prog Tryd.f25 #[t0, t1, .pointer (some ⟨w.heap.size + 1, 0, none⟩), .pointer (some ⟨w.heap.size + 1 + 1, 0, none⟩), .pointer (some ⟨w.heap.size + 1 + 1 + 1, 0, none⟩), t5, t6, t7, t8, t9, t10, t11, t12, t13, t14, t15, t16, t17, t18, t19, t20, t21, t22, t23, t24, t25, t26, t27, t28, t29, t30]
      (fun e' w' => e' = .returned (.tuple #[.int .i64 R.1, .int .i64 R.2.1, .bool R.2.2]) ∧ Below w.heap.size w w') (l.map mark) .returning W := by
  refine leaves_marks l W hM fun W' hb hc => ?_
  have hT' := hT.kept hc
  have c1 := cell_blk hT'.c1 0
  have c2 := cell_blk hT'.c2 0
  have c3 := cell_blk hT'.c3 0
  simp at c1 c2 c3
  refine ⟨.tuple #[.int .i64 R.1, .int .i64 R.2.1, .bool R.2.2], ?_, rfl, hB.trans hb⟩
  simp [results, Tryd.f25, go_sem, c1, c2, c3]
/-- between two expressions -/
structure FR (w w7 : World) (b : Nat) (xs : List Ex) (k : Nat) (ds : List Nat) (wr : World) : Prop where
  le : k ≤ xs.length
  non : noneN xs k
  ob : OB b w7 wr
  box : wr.heap[b]? = some (.cells #[.int .i64 ((lenN xs k : Nat) : Int)] 3)
  marks : Marks w.heap.size ds wr
theorem Marks.lt {n : Nat} {l : List Nat} {W : World} (h : Marks n l W) : ∀ x ∈ l, x < W.heap.size := fun x hx => (Array.getElem?_eq_some_iff.1 (h.each x hx).2).1
set_option maxHeartbeats 16000000 in
set_option maxRecDepth 100000 in
theorem oFirst_any (p : Pr) (a1 a2 : Option Addr) (c1 c2 : Nat)
    (hV : ∀ w, PrIn w p a1 a2 → Calls Tryd.prog 28 #[prV p a1 c1 a2 c2] w fun e' w' => e' = .returned (.int .i64 (A.valE p)) ∧ Below w.heap.size w w')
    (hX : A.valE p = 0 → ∀ w, PrIn w p a1 a2 → Calls Tryd.prog 50 #[prV p a1 c1 a2 c2] w fun e' w' => GivesXs w (exprs p) e' w')
    (hE : A.valE p = 0 → ∀ e ∈ exprs p, okE e) (w : World) (hK : PrIn w p a1 a2) :
    Calls Tryd.prog 25 #[prV p a1 c1 a2 c2] w fun e' w' => e' = .returned (.tuple #[.int .i64 (firstN p).1, .int .i64 (firstN p).2.1, .bool (firstN p).2.2]) ∧ Below w.heap.size w w' := by
  refine (callsIn_wide (n := 9)).1 ?_
  refine callsIn_of_wp_marks Tryd.func25 rfl trivial ?_ rfl
  simp only [Tryd.ntmps25, List.size_toArray, List.length_cons, List.length_nil, Nat.reduceAdd, Nat.reduceSub, Array.replicate_succ, Array.replicate_zero, List.push_toArray, List.append_toArray, List.nil_append, List.cons_append]
  have hb1 := below_box w (prO p a1 c1 a2 c2)
  have hb2 := below_box (w.alloc (prO p a1 c1 a2 c2)) (.cells #[.int .i64 0] 3)
  have hb3 := below_box ((w.alloc (prO p a1 c1 a2 c2)).alloc (.cells #[.int .i64 0] 3)) (.cells #[.int .i64 0] 3)
  have hb4 := below_box (((w.alloc (prO p a1 c1 a2 c2)).alloc (.cells #[.int .i64 0] 3)).alloc (.cells #[.int .i64 0] 3)) (.cells #[.bool false] 4)
  have hB4 := below_2 (below_2 (below_2 hb1 hb2) hb3) hb4
  obtain ⟨W4, hW4⟩ : ∃ W4, (((w.alloc (prO p a1 c1 a2 c2)).alloc (.cells #[.int .i64 0] 3)).alloc (.cells #[.int .i64 0] 3)).alloc (.cells #[.bool false] 4) = W4 := ⟨_, rfl⟩
  have s1 : (w.alloc (prO p a1 c1 a2 c2)).heap.size = w.heap.size + 1 := by simp
  have s2 : ((w.alloc (prO p a1 c1 a2 c2)).alloc (.cells #[.int .i64 0] 3)).heap.size = w.heap.size + 1 + 1 := by simp
  have s3 : (((w.alloc (prO p a1 c1 a2 c2)).alloc (.cells #[.int .i64 0] 3)).alloc (.cells #[.int .i64 0] 3)).heap.size = w.heap.size + 1 + 1 + 1 := by simp
  have s4 : W4.heap.size = w.heap.size + 4 := by rw [← hW4]; simp
  have k0 : W4.heap[w.heap.size]? = some (prO p a1 c1 a2 c2) := by
    rw [← hW4]
    exact (hb4.block _ (by omega)).trans ((hb3.block _ (by omega)).trans ((hb2.block _ (by omega)).trans (World.alloc_heap_new w _)))
  have k1 : W4.heap[w.heap.size + 1]? = some (.cells #[.int .i64 0] 3) := by
    have := World.alloc_heap_new (w.alloc (prO p a1 c1 a2 c2)) (.cells #[.int .i64 0] 3)
    rw [s1] at this
    rw [← hW4]
    exact (hb4.block _ (by omega)).trans ((hb3.block _ (by omega)).trans this)
  have k2 : W4.heap[w.heap.size + 1 + 1]? = some (.cells #[.int .i64 0] 3) := by
    have := World.alloc_heap_new ((w.alloc (prO p a1 c1 a2 c2)).alloc (.cells #[.int .i64 0] 3)) (.cells #[.int .i64 0] 3)
    rw [s2] at this
    rw [← hW4]
    exact (hb4.block _ (by omega)).trans this
  have k3 : W4.heap[w.heap.size + 1 + 1 + 1]? = some (.cells #[.bool false] 4) := by
    have := World.alloc_heap_new (((w.alloc (prO p a1 c1 a2 c2)).alloc (.cells #[.int .i64 0] 3)).alloc (.cells #[.int .i64 0] 3)) (.cells #[.bool false] 4)
    rw [s3] at this
    rw [← hW4]
    exact this
  rw [hW4] at hB4
  have HVa := Lib.hid (hV W4 (hK.below hB4))
  have HXp := Lib.hid hX
  have HE := Lib.hid hE
  have HK4 := Lib.hid (hK.below hB4)
  have HB4 := Lib.hid hB4
  have HK0 := Lib.hid k0
  have HTh : Hid (Three w.heap.size (.int .i64 0) (.int .i64 0) (.bool false) 3 3 4 W4) := ⟨k1, k2, k3⟩
  have HS4 := Lib.hid s4
  have HFN : Hid (firstN p = if A.valE p ≠ 0 then (0, 0, false) else fstF 0 ((exprs p).flatMap ops)) := rfl
  have x0 : W4.cell? ⟨w.heap.size, 0, none⟩ = some (.string p.name) := by simpa [prO] using cell_blk (show W4.heap[w.heap.size]? = some (.cells _ _) from k0) 0
  have x1 : W4.cell? ⟨w.heap.size, 1, none⟩ = some (.slice a1 p.params.length c1) := by simpa [prO] using cell_blk (show W4.heap[w.heap.size]? = some (.cells _ _) from k0) 1
  have x2 : W4.cell? ⟨w.heap.size, 2, none⟩ = some (.slice a2 p.body.length c2) := by simpa [prO] using cell_blk (show W4.heap[w.heap.size]? = some (.cells _ _) from k0) 2
  generalize hR : firstN p = R at HFN ⊢
  unfold prV at *
  unfold prO at hW4
  rw [← hW4] at x0 x1 x2
  have HW4 := Lib.hid hW4
  clear hb1 hb2 hb3 hb4 hB4 s1 s2 s3 s4 k0 k1 k2 k3 hK hV hX hE hR hW4
  gi_wp2_with fail
  refine ⟨trivial, ?_⟩
  rw [HW4.out] at x0 x1 x2 ⊢
  refine (callsIn_wide.2 HVa.out).mono ?_; rintro e' w5 ⟨rfl, hb5⟩
  have hth5 := HTh.out.kept (W' := w5) (fun k o hk _ => (hb5.block k (Array.getElem?_eq_some_iff.1 hk).1).trans hk)
  have q1 : w5.cell? ⟨w.heap.size + 1, 0, none⟩ = some (.int .i64 0) := cell_blk hth5.c1 0
  have q2 : w5.cell? ⟨w.heap.size + 1 + 1, 0, none⟩ = some (.int .i64 0) := cell_blk hth5.c2 0
  have q3 : w5.cell? ⟨w.heap.size + 1 + 1 + 1, 0, none⟩ = some (.bool false) := cell_blk hth5.c3 0
  have r1 := frozen_blk hth5.c1
  have r2 := frozen_blk hth5.c2
  have r3 := frozen_blk hth5.c3
  have HT5 := Lib.hid hth5
  have HB5 := Lib.hid (below_2 HB4.out hb5)
  by_cases h0 : A.valE p = 0
  case neg =>
    have b1 : (A.valE p != 0) = true := bne_iff_ne.2 h0
    have HR : Hid (R = (0, 0, false)) := by show _ = _; rw [HFN.out, if_pos h0]
    clear h0 x0 x1 x2 hb5 hth5
    gi_wp2
    refine leave_first (R := R) (w := w) [] (Marks.nil _ _) ?_ ?_
    · rw [HR.out]; exact HT5.out.set
    · exact set3_below' HB5.out (Nat.le_refl _)
  have hb50 := hb5
  have hbx := below_box w5 (.cells #[.int .i64 0] 3)
  have y0 := (hb5.cell (p := ⟨w.heap.size, 0, none⟩) (by show w.heap.size < W4.heap.size; have := HS4.out; omega)).trans x0
  have y1 := (hb5.cell (p := ⟨w.heap.size, 1, none⟩) (by show w.heap.size < W4.heap.size; have := HS4.out; omega)).trans x1
  have y2 := (hb5.cell (p := ⟨w.heap.size, 2, none⟩) (by show w.heap.size < W4.heap.size; have := HS4.out; omega)).trans x2
  have HXc := Lib.hid (HXp.out h0 (w5.alloc (.cells #[.int .i64 0] 3)) ((HK4.out.below hb5).below hbx))
  have HEe := Lib.hid (HE.out h0)
  have HR : Hid (R = fstF 0 ((exprs p).flatMap ops)) := by show _ = _; rw [HFN.out, if_neg (fun x => x h0)]
  have HB6 := Lib.hid (below_2 HB5.out hbx)
  have HLN : Hid (((exprs p).flatMap ops).length ≤ 400) := allOps_len h0
  have hxl : (exprs p).length ≤ 400 := Nat.le_trans (A.exprs_count p) (A.val_parts h0).2.2.2
  rw [h0]
  have HT6 := Lib.hid (HT5.out.kept (W' := w5.alloc (.cells #[.int .i64 0] 3)) (fun k o hk _ => (Below.heap_alloc _ _ _ (Array.getElem?_eq_some_iff.1 hk).1).trans hk))
  have HBX : Hid ((w5.alloc (.cells #[.int .i64 0] 3)).heap[w5.heap.size]? = some (.cells #[.int .i64 0] 3)) := World.alloc_heap_new _ _
  have HZ5 : Hid (w.heap.size + 4 ≤ w5.heap.size) := by have h1 := hb5.size; have h2 := HS4.out; show _ ≤ _; omega
  have y0' := (hbx.cell (block_lt_of_cell y0)).trans y0
  have y1' := (hbx.cell (block_lt_of_cell y1)).trans y1
  have y2' := (hbx.cell (block_lt_of_cell y2)).trans y2
  clear x0 x1 x2 hb5 hb50 hth5 h0 q1 q2 q3 r1 r2 r3 y0 y1 y2 HVa HXp HE HK4 HK0 HTh HFN hbx
  gi_wp2_with fail
  refine ⟨trivial, ?_⟩
  refine (callsIn_wide.2 HXc.out).mono ?_
  rintro e' w7 ⟨px, qx, rfl, hk7, hb7⟩
  have HB7 := Lib.hid (below_2 HB6.out hb7)
  have HK7 := Lib.hid hk7
  have HT7 := Lib.hid (HT6.out.kept (W' := w7) (fun k o hk _ => (hb7.block k (Array.getElem?_eq_some_iff.1 hk).1).trans hk))
  have HBX7 : Hid (w7.heap[w5.heap.size]? = some (.cells #[.int .i64 0] 3)) := (hb7.block _ (Array.getElem?_eq_some_iff.1 HBX.out).1).trans HBX.out
  have HZ7 : Hid (w5.heap.size < w7.heap.size) := (Array.getElem?_eq_some_iff.1 HBX7.out).1
  clear hk7 hb7 y0' y1' y2' HXc
  have HN := Lib.hid (fun (e : Ex) (a : Option Addr) (c : Nat) (w' : World) => onodes_any e a c w')
  unfold exV exO at HN
  gi_wp2_with fail
  generalize hEP : (Value.agg #[.string p.name, .slice a1 p.params.length c1, .slice a2 p.body.length c2]) = EP
  clear hEP HW4 HB4 HS4 HT5 HB6 HT6 HBX
  refine wpIn_loop (fun a' wr => ∃ (k : Nat) (ds : List Nat) (u7 u16 u17 u18 u19 u20 u30 : Value), FR w w7 w5.heap.size (exprs p) k ds wr ∧ a' = { tmps := #[EP, .pointer (some ⟨w.heap.size, 0, none⟩), .pointer (some ⟨w.heap.size + 1, 0, none⟩), .pointer (some ⟨w.heap.size + 1 + 1, 0, none⟩), .pointer (some ⟨w.heap.size + 1 + 1 + 1, 0, none⟩), .pointer (some ⟨w5.heap.size, 0, none⟩), undef, u7, undef, EP, .int .i64 0, .bool false, EP, .slice px (exprs p).length qx, .int .i64 (exprs p).length, .int .i64 k, u16, u17, u18, u19, u20, undef, undef, undef, undef, undef, undef, undef, undef, undef, u30], defers := ds.map mark }) (fun a' _ => (exprs p).length - (intOf (a'.tmps.getD 15 undef)).toNat) ?start ?round
  case start =>
    exact ⟨0, [], undef, undef, undef, undef, undef, undef, undef, ⟨Nat.zero_le _, noneN_zero _, OB.refl _ _, HBX7.out, Marks.nil _ _⟩, rfl⟩
  case round =>
    rintro a' wr ⟨k, ds, u7, u16, u17, u18, u19, u20, u30, hrel, rfl⟩
    have hzr : w7.heap.size ≤ wr.heap.size := hrel.ob.size
    by_cases hlt : k < (exprs p).length
    · obtain ⟨b2, i2, rfl, hat⟩ := (kids_other HBX7.out hrel.ob HK7.out).open hlt
      obtain ⟨d0, d1, d2, a3, c3, d3, hk3⟩ := hat.open
      have HREL := Lib.hid hrel
      have HK3 := Lib.hid hk3
      have HOK := Lib.hid (HEe.out _ (List.getElem_mem hlt))
      have HLT := Lib.hid hlt
      have HLK : Hid (lenN (exprs p) k + (ops (exprs p)[k]).length ≤ 400) := by
        have h1 := lenN_le (l := exprs p) (k + 1)
        have h2 := HLN.out
        have h3 : lenN (exprs p) (k + 1) = lenN (exprs p) k + (ops (exprs p)[k]).length := by unfold lenN; rw [take_flat hlt]; exact List.length_append
        show _ ≤ _
        omega
      have HNe := Lib.hid (HN.out (exprs p)[k] a3 c3)
      clear hrel hat hk3
      generalize hek : (exprs p)[k] = ek at *
      have HEK := Lib.hid hek
      clear hek
      obtain ⟨eo, en, es, el⟩ := ek
      simp only [Ex.op, Ex.n, Ex.s, Ex.args] at d0 d1 d2 d3 HNe
      have hb1 := below_box wr (.cells #[.int .i64 eo, .int .i64 en, .string es, .slice a3 el.length c3] 52)
      have hb2 := below_box (wr.alloc (.cells #[.int .i64 eo, .int .i64 en, .string es, .slice a3 el.length c3] 52)) (.cells #[.int .i64 eo, .int .i64 en, .string es, .slice a3 el.length c3] 52)
      have s1 : (wr.alloc (.cells #[.int .i64 eo, .int .i64 en, .string es, .slice a3 el.length c3] 52)).heap.size = wr.heap.size + 1 := by simp
      have c3' := World.alloc_heap_new (wr.alloc (.cells #[.int .i64 eo, .int .i64 en, .string es, .slice a3 el.length c3] 52)) (.cells #[.int .i64 eo, .int .i64 en, .string es, .slice a3 el.length c3] 52)
      rw [s1] at c3'
      have hbb := below_2 hb1 hb2
      obtain ⟨W0, hW0⟩ : ∃ W0, (wr.alloc (.cells #[.int .i64 eo, .int .i64 en, .string es, .slice a3 el.length c3] 52)).alloc (.cells #[.int .i64 eo, .int .i64 en, .string es, .slice a3 el.length c3] 52) = W0 := ⟨_, rfl⟩
      have hs0 : W0.heap.size = wr.heap.size + 2 := by rw [← hW0]; simp
      rw [hW0] at c3' hbb
      have HC3 : Hid (W0.heap[wr.heap.size + 1]? = some (exO (.mk eo en es el) a3 c3)) := c3'
      have HBB := Lib.hid hbb
      have HW0 := Lib.hid hW0
      have HK0 : Hid (A.Kids W0 a3 (Ex.mk eo en es el).args) := HK3.out.below hbb
      clear hb1 hb2 s1 c3' hbb hW0
      gi_wp2_with fail
      refine ⟨trivial, ?_⟩
      refine (callsIn_wide.2 (HNe.out _)).mono ?_
      rintro e' w' ⟨rfl, rfl⟩
      gi_wp2_with fail
      rw [HW0.out]
      clear d0 d1 d2 d3 HNe HW0
      refine wpIn_rangeFunc_ownH (F := Fence.wide) (n := 9) rfl (by decide) (gf := 86) (lb := #[.pointer (some ⟨wr.heap.size + 1, 0, none⟩)]) rfl trivial (enters_of Tryd.func86 (by kernel_rfl) rfl)
        (nodes_stops (some w5.heap.size) Fence.wide rfl 8 trivial trivial rfl (wr.heap.size + 1) (.mk eo en es el) a3 c3 W0 HOK.out HC3.out HK0.out (fun g e => by cases e; exact ⟨_, _, (HBB.out.block _ (Array.getElem?_eq_some_iff.1 HREL.out.box).1).trans HREL.out.box⟩)) (fun h k => h.trans k) (KC.putObj (Nat.le_refl _)) (Below.refl _ _) (fun _ => rfl)
        (fun pre W => (((W.heap[w5.heap.size]? = some (.cells #[.int .i64 ((lenN (exprs p) k + pre.length : Nat) : Int)] 3) ∧ (∀ x ∈ pre, isN x.op = false)) ∧ W0.heap.size ≤ W.heap.size) ∧ OB w5.heap.size w7 W) ∧ Marks w.heap.size ds W)
        (fun c pre W => ((c = .ret ∧ Below w.heap.size w W) ∧ Marks w.heap.size ds W) ∧ ∃ pre' x, (pre = pre' ++ [x] ∧ isN x.op = true ∧ ∀ y ∈ pre', isN y.op = false) ∧ Three w.heap.size (.int .i64 x.op) (.int .i64 ((lenN (exprs p) k + pre'.length : Nat) : Int)) (.bool true) 3 3 4 W)
        (OwnFrom.and (OwnFrom.and (OwnFrom.and (OwnFrom.and (own_cells (o := fun (pre : List Nd) => .cells #[.int .i64 ((lenN (exprs p) k + pre.length : Nat) : Int)] 3) fun _ => rfl) (ownFrom_pure _ _)) own_size) (own_OB (by omega))) (own_marks (fun x hx => by have := HREL.out.marks.lt x hx; omega)))
        (fun c => OwnFrom.and (OwnFrom.and (OwnFrom.and (ownFrom_pure _ (fun _ => c = Code.ret)) (ownFrom_below (Nat.le_refl _) (by have := HZ5.out; have := HZ7.out; omega))) (own_marks (fun x hx => by have := HREL.out.marks.lt x hx; omega)))
          (fun s X Y row ⟨pre', x, h1, h2⟩ hg hr => ⟨pre', x, h1, own_three (x := fun (_ : Unit) => .int .i64 x.op) (y := fun _ => .int .i64 ((lenN (exprs p) k + pre'.length : Nat) : Int)) (z := fun _ => .bool true) () X Y row h2 hg hr⟩))
        ⟨⟨⟨⟨(HBB.out.block _ (Array.getElem?_eq_some_iff.1 HREL.out.box).1).trans HREL.out.box, fun x hx => absurd hx List.not_mem_nil⟩, Nat.le_refl _⟩, HREL.out.ob.trans (OB.of_below HBB.out)⟩, HREL.out.marks.kept (fun k o hk _ => (HBB.out.block k (Array.getElem?_eq_some_iff.1 hk).1).trans hk)⟩
        (fun x a' W => ∃ Bx v7 v16 v17 v18 v19 v20 v30, W.heap[Bx]? = some (exO x.e x.a x.c) ∧ a' = { tmps := #[EP, .pointer (some ⟨w.heap.size, 0, none⟩), .pointer (some ⟨w.heap.size + 1, 0, none⟩), .pointer (some ⟨w.heap.size + 1 + 1, 0, none⟩), .pointer (some ⟨w.heap.size + 1 + 1 + 1, 0, none⟩), .pointer (some ⟨w5.heap.size, 0, none⟩), undef, v7, .pointer (some ⟨Bx, 0, none⟩), EP, .int .i64 0, .bool false, EP, .slice (some ⟨b2, i2, none⟩) (exprs p).length qx, .int .i64 (exprs p).length, .int .i64 k, v16, v17, v18, v19, v20, x.v, undef, undef, undef, undef, undef, undef, undef, undef, v30], defers := [] })
        (fun x a' s X Y row ⟨Bx, v7, v16, v17, v18, v19, v20, v30, h1, h2⟩ hg hr => ⟨Bx, v7, v16, v17, v18, v19, v20, v30, own_cells (k := Bx) (o := fun (_ : Unit) => exO x.e x.a x.c) (fun _ => rfl) () X Y row h1 hg hr, h2⟩) ?assign ?body ?done ?stop
      case assign =>
        rintro l pre x W K ⟨⟨⟨⟨hc, hp⟩, hz⟩, hO⟩, hM⟩ hKK
        have HKK := Lib.hid hKK
        have HX : Hid (∀ Y, W.alloc (exO x.e x.a x.c) = Y → KeepsFrom W0.heap.size W Y ∧ KC (some w5.heap.size) W0.heap.size W0.heap.size W Y ∧ ((((Y.heap[w5.heap.size]? = some (.cells #[.int .i64 ((lenN (exprs p) k + pre.length : Nat) : Int)] 3) ∧ (∀ x ∈ pre, isN x.op = false)) ∧ W0.heap.size ≤ Y.heap.size) ∧ OB w5.heap.size w7 Y) ∧ Marks w.heap.size ds Y) ∧ Y.heap[W.heap.size]? = some (exO x.e x.a x.c)) := by
          rintro Y rfl
          have hal : ∀ (k : Nat) (o : Obj), W.heap[k]? = some o → (W.alloc (exO x.e x.a x.c)).heap[k]? = some o := fun k o h => (Below.heap_alloc _ _ _ (Array.getElem?_eq_some_iff.1 h).1).trans h
          exact ⟨(KeepsOthers.alloc _ _).from _, KC.alloc W hz _, ⟨⟨⟨⟨hal _ _ hc, hp⟩, by simp; omega⟩, hO.trans (OB.of_below (below_box W _))⟩, hM.kept fun k o h _ => hal k o h⟩, World.alloc_heap_new W _⟩
        clear hc hp hz hO hM hKK
        unfold exO at HX
        unfold Nd.v exV
        gi_wp2
        obtain ⟨h1, h2, h3, h4⟩ := HX.out _ rfl
        exact HKK.out _ _ h1 h2 h3 ⟨W.heap.size, _, _, _, _, _, _, _, h4, rfl⟩
      case body =>
        rintro l pre x a' W hl ⟨r, hr⟩ ⟨⟨⟨⟨hc, hp⟩, hz⟩, hO⟩, hM⟩ ⟨Bx, v7, v16, v17, v18, v19, v20, v30, bX, rfl⟩ hlt
        have HC := Lib.hid hc
        have HP := Lib.hid hp
        have HZ := Lib.hid hz
        have HO := Lib.hid hO
        have HM := Lib.hid hM
        have x0 : W.cell? ⟨Bx, 0, none⟩ = some (.int .i64 x.e.op) := cell_blk bX 0
        have hth := HT7.out.kept2 hO (by have := HZ5.out; omega) (by have := HZ5.out; omega) (by have := HZ5.out; omega)
        have HTh := Lib.hid hth
        have q1 : W.cell? ⟨w.heap.size + 1, 0, none⟩ = some (.int .i64 0) := cell_blk hth.c1 0
        have q2 : W.cell? ⟨w.heap.size + 1 + 1, 0, none⟩ = some (.int .i64 0) := cell_blk hth.c2 0
        have q3 : W.cell? ⟨w.heap.size + 1 + 1 + 1, 0, none⟩ = some (.bool false) := cell_blk hth.c3 0
        have r1 := frozen_blk hth.c1
        have r2 := frozen_blk hth.c2
        have r3 := frozen_blk hth.c3
        have q5 : W.cell? ⟨w5.heap.size, 0, none⟩ = some (.int .i64 ((lenN (exprs p) k + pre.length : Nat) : Int)) := cell_blk hc 0
        have r5 := frozen_blk hc
        have hbw : Below w.heap.size w W := HB7.out.trans (hO.below (by have := HZ5.out; omega) HB7.out.size)
        have HBW := Lib.hid hbw
        have HI1 := Lib.hid (fun (w' : World) => oisN_any x.e.op w')
        have hnn : lenN (exprs p) k + pre.length ≤ 400 := by have := HLK.out; omega
        have HNN : Hid ((((lenN (exprs p) k + pre.length : Nat) : Int) + 1) = ((lenN (exprs p) k + (pre ++ [x]).length : Nat) : Int)) := by
          show _ = _
          simp only [List.length_append, List.length_cons, List.length_nil]
          omega
        generalize hnq : lenN (exprs p) k + pre.length = nn at *
        have HNQ := Lib.hid hnq
        clear hnq
        have hnn0 : (0 : Int) ≤ (nn : Int) := by omega
        have hnn1 : (nn : Int) ≤ 400 := by omega
        obtain ⟨b, hb⟩ : ∃ b, isN x.e.op = b := ⟨_, rfl⟩
        rw [hb] at HI1
        have HBD : Hid (isN x.op = b) := hb
        clear hc hp hz hO hM bX hr hl hlt hth hbw hb
        cases b with
        | true =>
          have HNc : Hid (w.heap.size + 1 + 1 + 1 < w5.heap.size) := by have := HZ5.out; show _ < _; omega
          gi_wp2_with (refine ⟨trivial, ?_⟩; gi_at_call 52; refine (CallsIn.inRound l (callsIn_wide.2 (HI1.out _))).mono ?_; rintro e' w' ⟨rfl, rfl⟩)
          have hmx : Tryd.prog.follows .mixedOrders = true := by kernel_rfl
          have n1 : ¬ (w5.heap.size = w.heap.size + 1) := by have := HZ5.out; omega
          have n2 : ¬ (w.heap.size + 1 = w5.heap.size) := by have := HZ5.out; omega
          gi_region_with_o (fail)
          all_goals gi_wp2
          all_goals (try go_bits)
          all_goals
            have h3 : Three w.heap.size (.int .i64 x.e.op) (.int .i64 (nn : Int)) (.bool true) 3 3 4 _ := HTh.out.set
            refine ⟨((set3_others W).trans (KeepsOthers.drew _)).from _, ⟨⟨rfl, (set3_below' HBW.out (Nat.le_refl _)).drew⟩, HM.out.kept (fun k o h ho => ((set3_others W).trans (KeepsOthers.drew _)).same k o h ho)⟩, pre, x, ⟨rfl, HBD.out, HP.out⟩, ?_⟩
            rw [HNQ.out]
            exact ⟨h3.c1, h3.c2, h3.c3⟩
        | false =>
          gi_wp2_with (refine ⟨trivial, ?_⟩; gi_at_call 52; refine (CallsIn.inRound l (callsIn_wide.2 (HI1.out _))).mono ?_; rintro e' w' ⟨rfl, rfl⟩)
          rw [HNN.out]
          exact ⟨(KeepsOthers.setCell _ _ _).from _, KC.setCell W (by have := HZ7.out; omega) _, ⟨⟨⟨⟨set_blk HC.out, fun y hy => (List.mem_append.1 hy).elim (HP.out y) (fun e' => by rw [List.mem_singleton.1 e']; exact HBD.out)⟩, Nat.le_trans HZ.out (KeepsOthers.setCell W _ _).size⟩, HO.out.trans (OB.set W _)⟩, HM.out.kept (fun k o h ho => (KeepsOthers.setCell W _ _).same k o h ho)⟩⟩
      case done =>
        rintro D ys W hD hys ⟨⟨⟨⟨hc, hp⟩, hz⟩, hO⟩, hM⟩ hKD
        have HF : Hid (FR w w7 w5.heap.size (exprs p) (k + 1) (D :: ds) W) := by
          have hys' : ys.map Nd.op = ops (exprs p)[k] := by rw [HEK.out]; exact hys
          refine ⟨by have := HLT.out; omega, noneN_next HLT.out HREL.out.non hys' hp, hO, ?_, hM.cons ?_ hKD ?_⟩
          · rw [lenN_next HLT.out hys']; exact hc
          · have := HBB.out.size; have := HB7.out.size; omega
          · intro y hy; have := HREL.out.marks.lt y hy; omega
        clear hys hc hp hz hO hM hKD
        gi_wp2
        have hk1 : ((k + 1 : Nat) : Int) = (k : Int) + 1 := by omega
        refine ⟨⟨k + 1, D :: ds, ?u7, ?u16, ?u17, ?u18, ?u19, ?u20, ?u30, HF.out, ?fr⟩, ?ms⟩
        case fr => rw [hk1]; rfl
        case ms => simp [intOf]; omega
      case stop =>
        rintro D c pre W hD hpre ⟨⟨⟨rfl, hB⟩, hM⟩, pre', x, ⟨rfl, hx, hn⟩, hT⟩ hKD
        have hpre2 : (pre' ++ [x]).map Nd.op <+: ops (exprs p)[k] := by rw [HEK.out]; exact hpre
        have hst := stop_at (l := exprs p) hlt HREL.out.non hpre2 hn hx
        have HV : Hid (R = (x.op, ((lenN (exprs p) k + pre'.length : Nat) : Int), true)) := HR.out.trans hst
        have HM2 : Hid (Marks w.heap.size (D :: ds) W) := hM.cons (by have := HBB.out.size; have := HB7.out.size; omega) hKD (fun y hy => by have := HREL.out.marks.lt y hy; omega)
        have HB := Lib.hid hB
        have HT := Lib.hid hT
        clear hst hB hM hT hKD hpre hpre2 hn hx
        gi_wp2
        refine leave_first (R := R) (w := w) (D :: ds) HM2.out ?_ HB.out
        rw [HV.out]
        exact HT.out
    · have hend := end_at (by omega) hrel.non
      have HV : Hid (R = (0, 0, false)) := HR.out.trans hend
      have hth := HT7.out.kept2 hrel.ob (by have := HZ5.out; omega) (by have := HZ5.out; omega) (by have := HZ5.out; omega)
      have HTh := Lib.hid hth
      have q1 : wr.cell? ⟨w.heap.size + 1, 0, none⟩ = some (.int .i64 0) := cell_blk hth.c1 0
      have q2 : wr.cell? ⟨w.heap.size + 1 + 1, 0, none⟩ = some (.int .i64 0) := cell_blk hth.c2 0
      have q3 : wr.cell? ⟨w.heap.size + 1 + 1 + 1, 0, none⟩ = some (.bool false) := cell_blk hth.c3 0
      have r1 := frozen_blk hth.c1
      have r2 := frozen_blk hth.c2
      have r3 := frozen_blk hth.c3
      have HBW : Hid (Below w.heap.size w wr) := HB7.out.trans (hrel.ob.below (by have := HZ5.out; omega) HB7.out.size)
      have HM := Lib.hid hrel.marks
      clear hrel hth hend
      gi_wp2
      refine leave_first (R := R) (w := w) ds (HM.out.kept (fun k o h ho => (set3_others wr).same k o h ho)) ?_ ?_
      · rw [HV.out]; exact HTh.out.set
      · exact set3_below' HBW.out (Nat.le_refl _)
end Go.Proofs.YtgjnddjpinhkgaaDoor.N
namespace Go.Proofs.YtgjnddjpinhkgaaDoor.A.UB
open L (Str isName prt)

/-- a node, as the program visits it -/
inductive U where
  | st (s : St) (d : Nat)
  | ex (e : Ex) (d : Nat)
mutual
def nE : Ex → Nat → List U
  | .mk o n s l, d => .ex (.mk o n s l) d :: nEs l (d + 1)
def nEs : List Ex → Nat → List U
  | [], _ => []
  | e :: r, d => nE e d ++ nEs r d
end
def nR (e : Ex) : List U := if absent e then [] else nE e 1
mutual
def nS : St → Nat → List U
  | .mk o nm mx a b bd el, d => .st (.mk o nm mx a b bd el) d :: (nR a ++ (nR b ++ (nB bd (d + 1) ++ nB el (d + 1))))
def nB : List St → Nat → List U
  | [], _ => []
  | s :: r, d => nS s d ++ nB r d
end
def U.v : U → V | .st s d => .st s d | .ex e d => .ex e (decide (d = 1))
mutual
theorem nE_v : ∀ (e : Ex) (d : Nat), 1 ≤ d → (nE e d).map U.v = preE e (decide (d = 1))
  | .mk o n s l, d, h => by rw [nE, preE, List.map_cons, nEs_v l (d + 1) (by omega)]; rfl
theorem nEs_v : ∀ (l : List Ex) (d : Nat), 2 ≤ d → (nEs l d).map U.v = preEs l
  | [], _, _ => rfl
  | e :: r, d, h => by rw [nEs, preEs, List.map_append, nE_v e d (by omega), nEs_v r d h, decide_eq_false (by omega)]
end
theorem nR_v (e : Ex) : (nR e).map U.v = preR e := by
  unfold nR preR
  split
  · rfl
  · exact nE_v e 1 (Nat.le_refl _)
mutual
theorem nS_v : ∀ (s : St) (d : Nat), (nS s d).map U.v = preS s d
  | .mk o nm mx a b bd el, d => by
    rw [nS, preS, List.map_cons, List.map_append, List.map_append, List.map_append, nR_v, nR_v, nB_v bd, nB_v el]
    simp only [List.append_assoc, U.v]
theorem nB_v : ∀ (l : List St) (d : Nat), (nB l d).map U.v = preB l d
  | [], _ => rfl
  | s :: r, d => by rw [nB, preB, List.map_append, nS_v s d, nB_v r d]
end
theorem nS_parts (s : St) (d : Nat) : nS s d = .st s d :: (nR s.a ++ (nR s.b ++ (nB s.body (d + 1) ++ nB s.els (d + 1)))) := by
  obtain ⟨o, nm, mx, a, b, bd, el⟩ := s
  rw [nS]; rfl
/-- the walk of a procedure, as the program visits it -/
def walkU (p : Pr) : List U := (nB p.body 1).take 401
theorem walkU_v (p : Pr) : (walkU p).map U.v = walk p := by
  unfold walkU walk
  rw [List.map_take, nB_v]
theorem walkU_len (p : Pr) : (walkU p).length ≤ 401 := by unfold walkU; rw [List.length_take]; omega

/-! ### visiting -/

section
variable {σ : Type}
def run (g : σ → U → σ × Bool) : σ → List U → σ × Bool
  | s, [] => (s, true)
  | s, u :: r => if (g s u).2 = true then run g (g s u).1 r else ((g s u).1, false)
theorem run_nil (g : σ → U → σ × Bool) (s : σ) : run g s [] = (s, true) := rfl
theorem run_cons (g : σ → U → σ × Bool) (s : σ) (u : U) (r : List U) : run g s (u :: r) = if (g s u).2 = true then run g (g s u).1 r else ((g s u).1, false) := rfl
theorem run_true {g : σ → U → σ × Bool} {s : σ} {u : U} (h : (g s u).2 = true) (r : List U) : run g s (u :: r) = run g (g s u).1 r := by rw [run_cons, if_pos h]
theorem run_app (g : σ → U → σ × Bool) : ∀ (a b : List U) (s : σ), run g s (a ++ b) = if (run g s a).2 = true then run g (run g s a).1 b else ((run g s a).1, false)
  | [], b, s => by simp [run]
  | u :: r, b, s => by
    rw [List.cons_append, run, run]
    by_cases h : (g s u).2 = true
    · rw [if_pos h, if_pos h, run_app g r b]
    · rw [if_neg h, if_neg h]
      simp
/-- the program counts the nodes that it visits, and stops behind the limit -/
def cnt (g : σ → U → σ × Bool) (x : Int × σ) (u : U) : (Int × σ) × Bool := ((IntKind.i64.wrap (x.1 + 1), (g x.2 u).1), (g x.2 u).2 && decide (IntKind.i64.wrap (x.1 + 1) ≤ 400))
theorem wrap_small {n : Int} (h0 : 0 ≤ n) (h1 : n ≤ 1000000) : IntKind.i64.wrap n = n := by
  rw [IntKind.wrap_i64]
  omega
theorem run_cnt (g : σ → U → σ × Bool) : ∀ (l : List U) (k : Nat) (s : σ), k ≤ 400 → (run (cnt g) ((k : Int), s) l).1.2 = (run g s (l.take (401 - k))).1
  | [], k, s, _ => by simp [run]
  | u :: r, k, s, hk => by
    have hw : IntKind.i64.wrap ((k : Int) + 1) = ((k + 1 : Nat) : Int) := by rw [wrap_small (by omega) (by omega)]; rfl
    obtain ⟨m, hm⟩ : ∃ m, 401 - k = m + 1 := ⟨400 - k, by omega⟩
    rw [hm, List.take_succ_cons, run, run]
    cases hg : (g s u).2
    · rw [if_neg (by unfold cnt; simp [hg]), if_neg (by simp)]
      rfl
    · rw [if_pos rfl]
      by_cases h4 : k + 1 ≤ 400
      · rw [if_pos (by unfold cnt; simp only [hg, hw, Bool.true_and, decide_eq_true_eq]; omega)]
        have := run_cnt g r (k + 1) (g s u).1 h4
        rw [show 401 - (k + 1) = m by omega] at this
        rw [← this]
        unfold cnt
        simp only [hw]
      · rw [if_neg (by unfold cnt; simp only [hg, hw, Bool.true_and, decide_eq_true_eq]; omega)]
        obtain rfl : m = 0 := by omega
        rfl
end
theorem run_walk {σ : Type} (g : σ → U → σ × Bool) (s : σ) (p : Pr) : (run (cnt g) (0, s) (nB p.body 1)).1.2 = (run g s (walkU p)).1 := run_cnt g _ 0 s (by omega)

/-! ### a count that bounds the depth -/
section
variable {σ : Type}
/-- a count that a step raises by one, and that it lets grow to 400 at most -/
structure Cn (m : σ → Int) (g : σ → U → σ × Bool) : Prop where
  step : ∀ s u, 0 ≤ m s → m s ≤ 400 → (g s u).2 = true → m (g s u).1 = m s + 1 ∧ m (g s u).1 ≤ 400
/-- a node at depth d can be visited: so many were visited before it -/
def DB (m : σ → Int) (s : σ) (d : Nat) : Prop := 0 ≤ m s ∧ m s ≤ 400 ∧ (d : Int) ≤ m s + 1
theorem DB.lt {m : σ → Int} {s : σ} {d : Nat} (h : DB m s d) : d ≤ 1000000 := by obtain ⟨_, h2, h3⟩ := h; omega
theorem Cn.run {m : σ → Int} {g : σ → U → σ × Bool} (C : Cn m g) : ∀ (l : List U) (s : σ), 0 ≤ m s → m s ≤ 400 → (UB.run g s l).2 = true → m s ≤ m (UB.run g s l).1 ∧ m (UB.run g s l).1 ≤ 400
  | [], s, _, h4, _ => ⟨Int.le_refl _, h4⟩
  | u :: r, s, h0, h4, h => by
    rw [run_cons] at h ⊢
    cases hg : (g s u).2
    · rw [hg] at h; simp at h
    · rw [hg] at h
      simp only [if_true] at h ⊢
      obtain ⟨h1, h2⟩ := C.step s u h0 h4 hg
      have := Cn.run C r (g s u).1 (by omega) h2 h
      omega
theorem Cn.down {m : σ → Int} {g : σ → U → σ × Bool} (C : Cn m g) {s : σ} {u : U} {d : Nat} (h : DB m s d) (hg : (g s u).2 = true) : DB m (g s u).1 (d + 1) := by
  obtain ⟨h0, h4, hd⟩ := h
  obtain ⟨h1, h2⟩ := C.step s u h0 h4 hg
  exact ⟨by omega, h2, by omega⟩
theorem Cn.on {m : σ → Int} {g : σ → U → σ × Bool} (C : Cn m g) {s : σ} {l : List U} {d : Nat} (h : DB m s d) (hg : (UB.run g s l).2 = true) : DB m (UB.run g s l).1 d := by
  obtain ⟨h0, h4, hd⟩ := h
  obtain ⟨h1, h2⟩ := C.run l s h0 h4 hg
  exact ⟨by omega, h2, by omega⟩
theorem DB.up {m : σ → Int} {s : σ} {d e : Nat} (h : DB m s d) (he : e ≤ d) : DB m s e := by obtain ⟨h0, h4, hd⟩ := h; exact ⟨h0, h4, by omega⟩
theorem cn_cnt (g : σ → U → σ × Bool) : Cn (fun x : Int × σ => x.1) (cnt g) := by
  refine ⟨fun s u h0 h4 h => ?_⟩
  have hw : IntKind.i64.wrap (s.1 + 1) = s.1 + 1 := wrap_small (by have h : 0 ≤ s.1 := h0; omega) (by have h : s.1 ≤ 400 := h4; omega)
  unfold cnt at h ⊢
  simp only [Bool.and_eq_true, decide_eq_true_eq] at h
  exact ⟨hw, h.2⟩
end
/-! ### the steps -/

def gN (z : Int) (_ : U) : Int × Bool := (IntKind.i64.wrap (z + 1), true)
theorem run_N : ∀ (l : List U) (n : Nat), n + l.length ≤ 1000000 → (run gN (n : Int) l).1 = ((n + l.length : Nat) : Int)
  | [], n, _ => rfl
  | u :: r, n, h => by
    rw [List.length_cons] at h ⊢
    rw [run_true rfl]
    show (run gN (IntKind.i64.wrap ((n : Int) + 1)) r).1 = _
    rw [wrap_small (by omega) (by omega), show (n : Int) + 1 = ((n + 1 : Nat) : Int) by omega, run_N r (n + 1) (by omega)]
    congr 1; omega
theorem nodes_run (p : Pr) : (run gN 0 (walkU p)).1 = (nodes p : Int) := by
  have := run_N (walkU p) 0 (by have := walkU_len p; omega)
  rw [Nat.zero_add] at this
  unfold nodes
  rw [← walkU_v, List.length_map]
  exact this
def gV (z : Int) (u : U) : Int × Bool := match u with | .st s d => (stE s d, decide (stE s d = 0)) | .ex _ _ => (z, decide (z = 0))
theorem run_V : ∀ l : List U, (run gV 0 l).1 = firstE (l.map U.v)
  | [] => rfl
  | .st s d :: r => by
    rw [run, List.map_cons, U.v, firstE]
    show (if decide (stE s d = 0) = true then run gV (stE s d) r else (stE s d, false)).1 = _
    by_cases h : stE s d = 0
    · rw [if_pos (decide_eq_true h), if_neg (fun x => x h), h]
      exact run_V r
    · rw [if_neg (by rw [decide_eq_false h]; decide), if_pos h]
  | .ex e d :: r => by
    rw [run, List.map_cons, U.v, firstE]
    exact run_V r
theorem first_run (p : Pr) : (run gV 0 (walkU p)).1 = firstE (walk p) := by rw [run_V, walkU_v]
def rootU (u : U) : List Ex := match u with | .st _ _ => [] | .ex e d => if d = 1 then [e] else []
def gX (l : List Ex) (u : U) : List Ex × Bool := (l ++ rootU u, true)
theorem run_X : ∀ (l : List U) (m : List Ex), (run gX m l).1 = m ++ (l.map U.v).filterMap V.rooted
  | [], m => by simp [run]
  | .st s d :: r, m => by
    rw [run_true rfl, List.map_cons, U.v, List.filterMap_cons]
    show (run gX (m ++ []) r).1 = _
    rw [List.append_nil]
    exact run_X r m
  | .ex e d :: r, m => by
    rw [run_true rfl, List.map_cons, U.v, List.filterMap_cons]
    by_cases h : d = 1
    · have h1 : V.rooted (.ex e (decide (d = 1))) = some e := by rw [decide_eq_true h]; rfl
      have h2 : (gX m (U.ex e d)).1 = m ++ [e] := by show m ++ (if d = 1 then [e] else []) = _; rw [if_pos h]
      rw [h1, h2, run_X r, List.append_assoc]; rfl
    · have h1 : V.rooted (.ex e (decide (d = 1))) = none := by rw [decide_eq_false h]; rfl
      have h2 : (gX m (U.ex e d)).1 = m := by show m ++ (if d = 1 then [e] else []) = _; rw [if_neg h, List.append_nil]
      rw [h1, h2]; exact run_X r m
theorem exprs_run (p : Pr) : (run gX [] (walkU p)).1 = exprs p := by rw [run_X, walkU_v]; rfl
def declU (u : U) : List ByteArray := match u with | .st s _ => if s.op = 1 ∨ s.op = 6 then [s.name] else [] | .ex _ _ => []
def gM (l : List ByteArray) (u : U) : List ByteArray × Bool := (l ++ declU u, true)
theorem run_M : ∀ (l : List U) (m : List ByteArray), (run gM m l).1 = m ++ (l.map U.v).filterMap V.decl
  | [], m => by simp [run]
  | .ex e d :: r, m => by
    rw [run_true rfl, List.map_cons, U.v, List.filterMap_cons]
    show (run gM (m ++ []) r).1 = _
    rw [List.append_nil]
    exact run_M r m
  | .st s d :: r, m => by
    rw [run_true rfl, List.map_cons, U.v, List.filterMap_cons]
    by_cases h : s.op = 1 ∨ s.op = 6
    · have h1 : V.decl (.st s d) = some s.name := by show (if s.op = 1 ∨ s.op = 6 then some s.name else none) = _; rw [if_pos h]
      have h2 : (gM m (U.st s d)).1 = m ++ [s.name] := by show m ++ (if s.op = 1 ∨ s.op = 6 then [s.name] else []) = _; rw [if_pos h]
      rw [h1, h2, run_M r, List.append_assoc]; rfl
    · have h1 : V.decl (.st s d) = none := by show (if s.op = 1 ∨ s.op = 6 then some s.name else none) = _; rw [if_neg h]
      have h2 : (gM m (U.st s d)).1 = m := by show m ++ (if s.op = 1 ∨ s.op = 6 then [s.name] else []) = _; rw [if_neg h, List.append_nil]
      rw [h1, h2]; exact run_M r m
theorem names_run (p : Pr) : (run gM (p.params.map Pm.name) (walkU p)).1 = names p := by rw [run_M, walkU_v]; rfl
def gE (z : Int) (u : U) : Int × Bool := match u with | .st _ _ => (z, false) | .ex e d => (nodeE e d, decide (nodeE e d = 0))
mutual
theorem run_E : ∀ (e : Ex) (d : Nat) (z : Int), run gE z (nE e d) = (vE e d, decide (vE e d = 0))
  | .mk o n s l, d, z => by
    rw [nE, run, vE]
    show (if decide (nodeE (.mk o n s l) d = 0) = true then run gE (nodeE (.mk o n s l) d) (nEs l (d + 1)) else (nodeE (.mk o n s l) d, false)) = _
    by_cases h : nodeE (.mk o n s l) d = 0
    · rw [if_pos (decide_eq_true h), if_neg (fun x => x h), h, run_Es l (d + 1)]
    · rw [if_neg (by rw [decide_eq_false h]; decide), if_pos h, decide_eq_false h]
theorem run_Es : ∀ (l : List Ex) (d : Nat), run gE 0 (nEs l d) = (vEs l d, decide (vEs l d = 0))
  | [], _ => rfl
  | e :: r, d => by
    rw [nEs, run_app, run_E e d, vEs]
    by_cases h : vE e d = 0
    · simp only [h, decide_true, if_true]
      rw [if_neg (by simp), run_Es r d]
    · rw [if_neg (by simp only [decide_eq_false h]; decide), if_pos h, decide_eq_false h]
end
/-! ### lists of nodes, from an index on -/
theorem nEs_drop {l : List Ex} {k : Nat} (h : k < l.length) (d : Nat) : nEs (l.drop k) d = nE l[k] d ++ nEs (l.drop (k + 1)) d := by
  rw [List.drop_eq_getElem_cons h, nEs]
theorem nB_drop {l : List St} {k : Nat} (h : k < l.length) (d : Nat) : nB (l.drop k) d = nS l[k] d ++ nB (l.drop (k + 1)) d := by
  rw [List.drop_eq_getElem_cons h, nB]
/-! ### sizes -/
theorem cEs_get : ∀ {l : List Ex} {k : Nat} (h : k < l.length), cE l[k] ≤ cEs l
  | e :: r, 0, _ => by rw [cEs]; simp
  | e :: r, k + 1, h => by
    rw [cEs]
    have := cEs_get (l := r) (k := k) (by simpa using h)
    simp only [List.getElem_cons_succ]
    omega
theorem cB_get : ∀ {l : List St} {k : Nat} (h : k < l.length), cS l[k] ≤ cB l
  | e :: r, 0, _ => by rw [cB]; simp
  | e :: r, k + 1, h => by
    rw [cB]
    have := cB_get (l := r) (k := k) (by simpa using h)
    simp only [List.getElem_cons_succ]
    omega
theorem cE_parts (e : Ex) : cE e = 1 + e.s.size / 64 + cEs e.args := by
  obtain ⟨o, n, s, l⟩ := e
  rw [cE]; rfl
theorem cS_parts (s : St) : cS s = 1 + s.name.size / 64 + cE s.a + cE s.b + cB s.body + cB s.els := by
  obtain ⟨o, nm, mx, a, b, bd, el⟩ := s
  rw [cS]; rfl
end Go.Proofs.YtgjnddjpinhkgaaDoor.A.UB
namespace Go.Proofs.YtgjnddjpinhkgaaDoor.A.UB
open Go.RowKit
open L (Str isName prt size_len below_2 below_box ret_bool ret_int eql_eq bytes_eq)

/-- a node as the program hands it to a step -/
def nodeV (ps pe : Option Addr) (d : Nat) : Value := .agg #[.pointer ps, .pointer pe, .int .i64 (d : Int)]
def U.d : U → Nat | .st _ d => d | .ex _ d => d
/-- where a node lies -/
def UAt (w : World) : U → Option Addr → Option Addr → Prop
  | .st s _, ps, pe => ∃ b i, ps = some ⟨b, i, none⟩ ∧ pe = none ∧ StAt w s b i
  | .ex e _, ps, pe => ∃ b i, ps = none ∧ pe = some ⟨b, i, none⟩ ∧ ExAt w e b i
/-- what the reach gives of a node -/
def UOk : U → Prop
  | .st s d => okS s ∧ d ≤ 1000000
  | .ex e d => okE e ∧ d ≤ 1000000
/-- the step of ValidExpr -/
structure StepA {σ : Type} (p1 : Addr) (g : σ → U → σ × Bool) (w0 : World) (I : σ → World → Prop) : Prop where
  call : ∀ (s : σ) (e : Ex) (d b i : Nat) (w : World), I s w → Below w0.heap.size w0 w → ExAt w0 e b i → okE e → d ≤ 1000000 →
    Calls Tryd.prog 100 #[nodeV none (some ⟨b, i, none⟩) d, .pointer (some p1)] w fun e' w' => e' = .returned (.bool (g s (.ex e d)).2) ∧ I (g s (.ex e d)).1 w' ∧ Below w0.heap.size w w'
/-- what a call leaves that visits nodes -/
def GivesR {σ : Type} (w0 : World) (I : σ → World → Prop) (r : σ × Bool) (w : World) (e' : Ending) (w' : World) : Prop := e' = .returned (.bool r.2) ∧ I r.1 w' ∧ Below w0.heap.size w w'
section
variable {σ : Type} {g : σ → U → σ × Bool} {w0 : World} {I : σ → World → Prop}
def QA (p1 : Addr) (g : σ → U → σ × Bool) (w0 : World) (I : σ → World → Prop) (e : Ex) : Prop := ∀ (d b i : Nat) (s : σ) (w : World), okE e → d ≤ 13 → ExAt w0 e b i → I s w → Below w0.heap.size w0 w →
  Calls Tryd.prog 99 #[.pointer (some ⟨b, i, none⟩), .int .i64 (d : Int), .func (Fn.func 100) #[] #[.pointer (some p1)]] w fun e' w' => GivesR w0 I (run g s (nE e d)) w e' w'
set_option maxHeartbeats 4000000 in
set_option maxRecDepth 100000 in
theorem owalkExprA_any {p1 : Addr} (H : StepA p1 g w0 I) (hstop : ∀ s e d, (g s (.ex e d)).2 = true → d ≤ 12) : ∀ e, QA p1 g w0 I e := by
  refine Ex.ind (P := QA p1 g w0 I) ?_
  intro o n t l ih d b i s w hok hsz hat hI hb0
  have HC := Lib.hid (H.call s (.mk o n t l) d b i w hI hb0 hat hok (by omega))
  have hst := hstop s (.mk o n t l) d
  have hd : d ≤ 1000000 := by omega
  obtain ⟨_, hl, hoks⟩ := okE_open hok
  obtain ⟨a, c, hf, hK⟩ := hat.four
  have HK : Hid (Kids w0 a l) := hK
  have HF : Hid (w0.cell? ⟨b, i + 3, none⟩ = some (.slice a l.length c)) := hf.k3
  have hblt := hat.lt
  have HIH := Lib.hid ih
  have HOK := Lib.hid hoks
  have HB0 := Lib.hid hb0
  rw [nE, run_cons]
  obtain ⟨⟨s1, y⟩, hg⟩ : ∃ r, g s (.ex (.mk o n t l) d) = r := ⟨_, rfl⟩
  rw [hg] at HC hst ⊢
  simp only [nodeV] at HC
  clear hg hok hsz hat hf hK ih hoks hb0 hI
  cases y
  · clear hst
    simp only [Bool.false_eq_true, if_false]
    go_enter Tryd.func99, Tryd.ntmps99
    go_wp2_with fail
    refine HC.out.mono ?_; rintro e w1 ⟨rfl, hI1, hb1⟩
    have HI1 := Lib.hid hI1
    have HB1 := Lib.hid hb1
    clear hI1 hb1
    go_wp2_with fail
    go_ret
    exact ⟨rfl, HI1.out, HB1.out⟩
  · have hd12 : d ≤ 12 := hst rfl
    clear hst
    simp only [if_true]
    obtain ⟨R, hR⟩ : ∃ R, run g s1 (nEs l (d + 1)) = R := ⟨_, rfl⟩
    rw [hR]
    have HR : Hid (run g s1 (nEs (l.drop 0) (d + 1)) = R) := hR
    obtain ⟨m, hm⟩ : ∃ m, l.length = m := ⟨_, rfl⟩
    have HL := Lib.hid hm
    rw [hm] at HF hl
    clear hR hm
    go_enter Tryd.func99, Tryd.ntmps99
    go_wp2_with fail
    refine HC.out.mono ?_; rintro e w1 ⟨rfl, hI1, hb1⟩
    have HI1 := Lib.hid hI1
    have HB1 := Lib.hid hb1
    have k3 := ((HB0.out.trans hb1).cell hblt).trans HF.out
    clear hI1 hb1
    go_wp2_with fail
    go_loopw [19] (fun s19 wr => ∃ (k : Nat) (sk : σ), k ≤ m ∧ s19 = .int .i64 k ∧ Hid (run g sk (nEs (l.drop k) (d + 1)) = R) ∧ Hid (I sk wr) ∧ Hid (Below w0.heap.size w wr)) (fun s19 _ => m - (intOf s19).toNat)
    case atStart => exact ⟨0, s1, Nat.zero_le _, rfl, HR, HI1, HB1⟩
    case round =>
      obtain ⟨k, sk, hk, rfl, HX, HI, HB⟩ := hrel
      have hbr := HB0.out.trans HB.out
      by_cases hlt : k < m
      · have hlx : k < l.length := by rw [HL.out]; exact hlt
        have hx := HX.out
        rw [nEs_drop hlx, run_app] at hx
        have f3 := (hbr.cell hblt).trans HF.out
        obtain ⟨b2, i2, rfl, hat⟩ := HK.out.open hlx
        have HY := Lib.hid (HIH.out k hlx (d + 1) b2 (i2 + k * 4) sk wr (HOK.out.get k hlx) (by omega) hat HI.out hbr)
        simp only [Int.natCast_add, Int.natCast_one] at HY
        generalize run g sk (nE l[k] (d + 1)) = r at HY hx
        obtain ⟨s2, y⟩ := r
        clear hat hbr
        cases y
        · simp only [Bool.false_eq_true, if_false] at hx
          have HV := Lib.hid hx
          clear hx
          go_wp2_with fail
          refine HY.out.mono ?_; rintro e w2 ⟨rfl, hI2, hb2⟩
          have HI2 := Lib.hid hI2
          have HB2 := Lib.hid (HB.out.trans hb2)
          clear hI2 hb2
          go_wp2_with fail
          go_ret
          exact ⟨ret_bool (by rw [← HV.out]), by rw [← HV.out]; exact HI2.out, HB2.out⟩
        · simp only [if_true] at hx
          have HN := Lib.hid hx
          clear hx
          go_wp2_with fail
          refine HY.out.mono ?_; rintro e w2 ⟨rfl, hI2, hb2⟩
          have HI2 := Lib.hid hI2
          have HB2 := Lib.hid (HB.out.trans hb2)
          clear hI2 hb2
          go_wp2_with fail
          go_roundw
          case rel => exact ⟨k + 1, s2, by omega, by go_num, HN, HI2, HB2⟩
          case measure => simp [intOf]; omega
      · have HV : Hid (R = (sk, true)) := by
          show _ = _
          rw [← HX.out, List.drop_of_length_le (by rw [HL.out]; omega), nEs, run_nil]
        go_wp2_with fail
        go_ret
        exact ⟨ret_bool (by rw [HV.out]), by rw [HV.out]; exact HI.out, HB.out⟩
end

/-! ### ValidExpr -/

/-- block N holds a variable that may be written -/
structure Cell1 (N : Nat) (v : Value) (w : World) : Prop where
  lt : N < w.heap.size
  cell : w.cell? ⟨N, 0, none⟩ = some v
  free : w.frozen? ⟨N, 0, none⟩ = false
theorem Cell1.below {N B : Nat} {v : Value} {w w' : World} (h : Cell1 N v w) (hb : Below B w w') (hB : N < B) : Cell1 N v w' :=
  ⟨Nat.lt_of_lt_of_le h.lt hb.size, (hb.cell (by exact hB)).trans h.cell, (hb.frozen (by exact hB)).trans h.free⟩
theorem Cell1.later {N : Nat} {v : Value} {w w' : World} (h : Cell1 N v w) (hb : Below w.heap.size w w') : Cell1 N v w' := h.below hb h.lt
theorem Cell1.set {N : Nat} {v u : Value} {w : World} (h : Cell1 N v w) : Cell1 N u (w.setCell ⟨N, 0, none⟩ u) := by
  obtain ⟨h1, h2, h3⟩ := h
  exact ⟨by simpa using h1, by go_simp, by go_simp⟩
theorem cell1_at {N : Nat} {v : Value} {t : TypeId} {w : World} (h : w.heap.size = N) : Cell1 N v (w.alloc (.cells #[v] t)) := by
  subst h
  exact ⟨by simp, by go_simp, by go_simp⟩
theorem below_b {w w1 w2 w3 : World} (h : Below w.heap.size w w1) (h2 : Below w1.heap.size w1 w2) (h3 : Below w1.heap.size w2 w3) : Below w.heap.size w w3 := (below_2 h h2).trans (h3.mono h.size)
theorem node_deep {e : Ex} {d : Nat} (h : nodeE e d = 0) : d ≤ 12 := by
  apply Decidable.byContradiction
  intro h12
  unfold nodeE at h
  repeat' split at h
  all_goals first | omega | cases h
theorem stopE (z : Int) (e : Ex) (d : Nat) (h : (gE z (.ex e d)).2 = true) : d ≤ 12 := node_deep (of_decide_eq_true (show decide (nodeE e d = 0) = true from h))
theorem exAt_box {w : World} {e : Ex} {a : Option Addr} {c : Nat} (hK : Kids w a e.args) : ExAt (w.alloc (exO e a c)) e w.heap.size 0 := by
  obtain ⟨h0, h1, h2, h3⟩ := exO_cells w e a c
  have hk := hK.below (below_box w (exO e a c))
  obtain ⟨o, n, s, l⟩ := e
  rw [ExAt]
  exact ⟨h0, h1, h2, a, c, h3, hk⟩
set_option maxHeartbeats 2000000 in
set_option maxRecDepth 100000 in
theorem stepE {w0 : World} {N : Nat} (hN : w0.heap.size ≤ N) : StepA ⟨N, 0, none⟩ gE w0 (fun z w => Cell1 N (.int .i64 z) w) := by
  refine ⟨fun z e d b i w hI hb0 hat hok hsz => ?_⟩
  obtain ⟨a, c, hf, _⟩ := hat.four
  have hat2 := hat.below hb0
  obtain ⟨a, c, hf, _⟩ := hat2.four
  have hd : d ≤ 1000000 := hsz
  have hw := below_box w (.cells #[.pointer none, .pointer (some ⟨b, i, none⟩), .int .i64 (d : Int)] 91)
  have HC := Lib.hid (oexprError_any e b i a c d hd _ (hf.below hw))
  have HI := Lib.hid (hI.later hw)
  have HW := Lib.hid hw
  have HZ := Lib.hid hb0.size
  have HV : Hid (gE z (.ex e d) = (nodeE e d, (nodeE e d == 0))) := by
    show (nodeE e d, decide (nodeE e d = 0)) = _
    rw [Bool.beq_eq_decide_eq]
  rw [HV.out]
  unfold nodeV
  generalize nodeE e d = x at HC ⊢
  clear hI hf hat hat2 hok hsz hw HV hb0
  go_enter Tryd.func100, Tryd.ntmps100
  go_wp2_with fail
  refine HC.out.mono ?_; rintro e' w2 ⟨rfl, hb⟩
  have HI2 := Lib.hid (HI.out.later hb)
  have HB : Hid (Below w0.heap.size w w2) := (below_2 HW.out hb).mono HZ.out
  obtain ⟨j1, j2, j3⟩ := HI2.out
  clear hb
  go_wp2_with fail
  go_ret
  exact ⟨rfl, HI2.out.set, HB.out.setCell hN _⟩
set_option maxHeartbeats 2000000 in
set_option maxRecDepth 100000 in
theorem ovalidExpr_any (e : Ex) (a : Option Addr) (c : Nat) (hok : okE e) (w : World) (hK : Kids w a e.args) :
    Calls Tryd.prog 61 #[exV e a c] w fun e' w' => e' = .returned (.int .i64 (vE e 1)) ∧ Below w.heap.size w w' := by
  have hw := below_box w (exO e a c)
  have hat := exAt_box (c := c) hK
  have HA := Lib.hid hat
  have HW := Lib.hid hw
  have hz : (w.alloc (exO e a c)).heap.size = w.heap.size + 1 := by simp
  have HR := Lib.hid (run_E e 1 0)
  have hst : StepA ⟨w.heap.size + 1, 0, none⟩ gE (w.alloc (exO e a c)) (fun z w' => Cell1 (w.heap.size + 1) (.int .i64 z) w') := stepE (by omega)
  have HC := Lib.hid (fun w2 h1 h2 => owalkExprA_any hst stopE e 1 w.heap.size 0 0 w2 hok (by omega) hat h1 h2)
  rw [HR.out] at HC
  generalize vE e 1 = x at HC ⊢
  unfold exV
  unfold exO at *
  simp only [show ((1 : Nat) : Int) = 1 from rfl] at HC
  have HZ := Lib.hid hz
  clear hw hat hst hz
  go_enter Tryd.func61, Tryd.ntmps61
  go_wp2_with fail
  refine (HC.out _ (cell1_at HZ.out) (below_box _ _)).mono ?_; rintro e' w2 ⟨rfl, hI2, hb2⟩
  obtain ⟨j1, j2, j3⟩ := hI2
  have HB := Lib.hid (below_b HW.out (below_box _ _) hb2)
  clear hb2
  go_wp2_with fail
  go_ret
  exact ⟨rfl, HB.out⟩
end Go.Proofs.YtgjnddjpinhkgaaDoor.A.UB
namespace Go.Proofs.YtgjnddjpinhkgaaDoor.A.UB
open Go.RowKit
open L (Str isName prt size_len below_2 below_box ret_bool ret_int eql_eq bytes_eq)

theorem StAt.parts {w : World} {s : St} {b i : Nat} (h : StAt w s b i) : ExAt w s.a b (i + 3) ∧ ExAt w s.b b (i + 7) ∧ (∃ a c, w.cell? ⟨b, i + 11, none⟩ = some (.slice a s.body.length c) ∧ Bodies w a s.body) ∧ (∃ a c, w.cell? ⟨b, i + 12, none⟩ = some (.slice a s.els.length c) ∧ Bodies w a s.els) := by
  obtain ⟨o, nm, mx, a, b', bd, el⟩ := s
  rw [StAt] at h
  obtain ⟨h0, h1, h2, h3, h4, ⟨a5, c5, h5, g5⟩, ⟨a6, c6, h6, g6⟩⟩ := h
  exact ⟨h3, h4, ⟨a5, c5, h5, g5⟩, ⟨a6, c6, h6, g6⟩⟩
theorem Cell1.moved {N : Nat} {v : Value} {w w' : World} (h : Cell1 N v w) (hk : w'.heap[N]? = w.heap[N]?) : Cell1 N v w' :=
  ⟨by
    have h1 := h.lt
    have h2 : w.heap[N]? = some w.heap[N] := Array.getElem?_eq_getElem h1
    rw [h2] at hk
    exact (Array.getElem?_eq_some_iff.1 hk).1, (World.cell?_of_block (w := w) hk).trans h.cell, (World.frozen?_of_block (w := w) hk).trans h.free⟩
theorem Cell1.moved2 {N : Nat} {v : Value} {w w' : World} (h : Cell1 N v w) (hk : w'.heap[N]? = w.heap[N]?) : Cell1 N v w' := h.moved hk
/-- the step of walk: what holds while it goes on (true), and where it ends (false) -/
structure StepW {σ : Type} (p1 p2 : Addr) (g : σ → U → σ × Bool) (w0 : World) (I : Bool → σ → World → Prop) : Prop where
  call : ∀ (s : σ) (u : U) (ps pe : Option Addr) (w : World), I true s w → Below w0.heap.size w0 w → UAt w0 u ps pe → UOk u →
    Calls Tryd.prog 93 #[nodeV ps pe u.d, .pointer (some p1), .pointer (some p2)] w fun e w' => e = .returned (.bool (g s u).2) ∧ I (g s u).2 (g s u).1 w' ∧ Below w0.heap.size w w'
def GivesW1 {σ : Type} (w0 : World) (I : Bool → σ → World → Prop) (r : σ × Bool) (w : World) (e' : Ending) (w' : World) : Prop := e' = .returned (.bool r.2) ∧ I r.2 r.1 w' ∧ Below w0.heap.size w w'
section
variable {σ : Type} {g : σ → U → σ × Bool} {w0 : World} {I : Bool → σ → World → Prop} {p1 p2 : Addr}
def QWx (m : σ → Int) (p1 p2 : Addr) (g : σ → U → σ × Bool) (w0 : World) (I : Bool → σ → World → Prop) (e : Ex) : Prop := ∀ (d b i : Nat) (s : σ) (w : World), okE e → DB m s d → ExAt w0 e b i → I true s w → Below w0.heap.size w0 w →
  Calls Tryd.prog 99 #[.pointer (some ⟨b, i, none⟩), .int .i64 (d : Int), .func (Fn.func 93) #[] #[.pointer (some p1), .pointer (some p2)]] w fun e' w' => GivesW1 w0 I (run g s (nE e d)) w e' w'
set_option maxHeartbeats 4000000 in
set_option maxRecDepth 100000 in
theorem owalkExprW_any {m0 : σ → Int} {p1 p2 : Addr} (H : StepW p1 p2 g w0 I) (CN : Cn m0 g) : ∀ e, QWx m0 p1 p2 g w0 I e := by
  refine Ex.ind (P := QWx m0 p1 p2 g w0 I) ?_
  intro o n t l ih d b i s w hok hsz hat hI hb0
  have HC := Lib.hid (H.call s (.ex (.mk o n t l) d) none (some ⟨b, i, none⟩) w hI hb0 ⟨b, i, rfl, rfl, hat⟩ ⟨hok, hsz.lt⟩)
  have hd : d ≤ 1000000 := hsz.lt
  have hdn := fun h => CN.down (u := .ex (.mk o n t l) d) hsz h
  obtain ⟨_, hl, hoks⟩ := okE_open hok
  obtain ⟨a, c, hf, hK⟩ := hat.four
  have HK : Hid (Kids w0 a l) := hK
  have HF : Hid (w0.cell? ⟨b, i + 3, none⟩ = some (.slice a l.length c)) := hf.k3
  have hblt := hat.lt
  have HIH := Lib.hid ih
  have HOK := Lib.hid hoks
  have HB0 := Lib.hid hb0
  have HCN := Lib.hid CN
  rw [nE, run_cons]
  obtain ⟨⟨s1, y⟩, hg⟩ : ∃ r, g s (.ex (.mk o n t l) d) = r := ⟨_, rfl⟩
  rw [hg] at HC hdn ⊢
  have HDN := Lib.hid hdn
  simp only [nodeV, U.d] at HC
  clear hg hok hsz hat hf hK ih hoks hb0 hI hdn CN
  cases y
  · simp only [Bool.false_eq_true, if_false]
    go_enter Tryd.func99, Tryd.ntmps99
    go_wp2_with fail
    refine HC.out.mono ?_; rintro e w1 ⟨rfl, hI1, hb1⟩
    have HI1 := Lib.hid hI1
    have HB1 := Lib.hid hb1
    clear hI1 hb1
    go_wp2_with fail
    go_ret
    exact ⟨rfl, HI1.out, HB1.out⟩
  · simp only [if_true]
    obtain ⟨R, hR⟩ : ∃ R, run g s1 (nEs l (d + 1)) = R := ⟨_, rfl⟩
    rw [hR]
    have HR : Hid (run g s1 (nEs (l.drop 0) (d + 1)) = R) := hR
    obtain ⟨m, hm⟩ : ∃ m, l.length = m := ⟨_, rfl⟩
    have HL := Lib.hid hm
    rw [hm] at HF hl
    clear hR hm
    go_enter Tryd.func99, Tryd.ntmps99
    go_wp2_with fail
    refine HC.out.mono ?_; rintro e w1 ⟨rfl, hI1, hb1⟩
    have HI1 := Lib.hid hI1
    have HB1 := Lib.hid hb1
    have k3 := ((HB0.out.trans hb1).cell hblt).trans HF.out
    clear hI1 hb1
    go_wp2_with fail
    go_loopw [19] (fun s19 wr => ∃ (k : Nat) (sk : σ), k ≤ m ∧ s19 = .int .i64 k ∧ Hid (DB m0 sk (d + 1)) ∧ Hid (run g sk (nEs (l.drop k) (d + 1)) = R) ∧ Hid (I true sk wr) ∧ Hid (Below w0.heap.size w wr)) (fun s19 _ => m - (intOf s19).toNat)
    case atStart => exact ⟨0, s1, Nat.zero_le _, rfl, HDN.out (by trivial), HR, HI1, HB1⟩
    case round =>
      obtain ⟨k, sk, hk, rfl, HD, HX, HI, HB⟩ := hrel
      have hbr := HB0.out.trans HB.out
      by_cases hlt : k < m
      · have hlx : k < l.length := by rw [HL.out]; exact hlt
        have hx := HX.out
        rw [nEs_drop hlx, run_app] at hx
        have f3 := (hbr.cell hblt).trans HF.out
        obtain ⟨b2, i2, rfl, hat⟩ := HK.out.open hlx
        have HY := Lib.hid (HIH.out k hlx (d + 1) b2 (i2 + k * 4) sk wr (HOK.out.get k hlx) HD.out hat HI.out hbr)
        have HDk := Lib.hid (fun h => HCN.out.on (l := nE (l[k]'hlx) (d + 1)) HD.out h)
        simp only [Int.natCast_add, Int.natCast_one] at HY
        generalize run g sk (nE l[k] (d + 1)) = r at HY hx HDk
        obtain ⟨s2, y⟩ := r
        clear hat hbr
        cases y
        · simp only [Bool.false_eq_true, if_false] at hx
          have HV := Lib.hid hx
          clear hx
          go_wp2_with fail
          refine HY.out.mono ?_; rintro e w2 ⟨rfl, hI2, hb2⟩
          have HI2 := Lib.hid hI2
          have HB2 := Lib.hid (HB.out.trans hb2)
          clear hI2 hb2
          go_wp2_with fail
          go_ret
          exact ⟨ret_bool (by rw [← HV.out]), by rw [← HV.out]; exact HI2.out, HB2.out⟩
        · simp only [if_true] at hx
          have HN := Lib.hid hx
          clear hx
          go_wp2_with fail
          refine HY.out.mono ?_; rintro e w2 ⟨rfl, hI2, hb2⟩
          have HI2 := Lib.hid hI2
          have HB2 := Lib.hid (HB.out.trans hb2)
          clear hI2 hb2
          go_wp2_with fail
          go_roundw
          case rel => exact ⟨k + 1, s2, by omega, by go_num, HDk.out (by trivial), HN, HI2, HB2⟩
          case measure => simp [intOf]; omega
      · have HV : Hid (R = (sk, true)) := by
          show _ = _
          rw [← HX.out, List.drop_of_length_le (by rw [HL.out]; omega), nEs, run_nil]
        go_wp2_with fail
        go_ret
        exact ⟨ret_bool (by rw [HV.out]), by rw [HV.out]; exact HI.out, HB.out⟩

set_option maxHeartbeats 2000000 in
set_option maxRecDepth 100000 in
theorem owalkField_any {m0 : σ → Int} (H : StepW p1 p2 g w0 I) (CN : Cn m0 g) (e : Ex) (b i : Nat) (s : σ) (w : World) (hok : okE e) (hsz : DB m0 s 1) (hat : ExAt w0 e b i) (hI : I true s w) (hb0 : Below w0.heap.size w0 w) :
    Calls Tryd.prog 121 #[.pointer (some ⟨b, i, none⟩), .func (Fn.func 93) #[] #[.pointer (some p1), .pointer (some p2)]] w fun e' w' => GivesW1 w0 I (run g s (nR e)) w e' w' := by
  obtain ⟨a, c, hf, _⟩ := (hat.below hb0).four
  have HA := Lib.hid (oabsent_any e b i a c w hf)
  have HC := Lib.hid (owalkExprW_any H CN e 1 b i s w hok hsz hat hI hb0)
  have HI := Lib.hid hI
  unfold nR
  by_cases hv : absent e = true
  · rw [hv] at HA
    rw [if_pos hv, run_nil]
    clear hI hb0 hat hf hok hsz hv HC
    go_enter Tryd.func121, Tryd.ntmps121
    go_wp2_with fail
    refine HA.out.mono ?_; rintro e' w1 ⟨rfl, rfl⟩
    go_wp2_with fail
    go_ret
    exact ⟨rfl, HI.out, Below.refl _ _⟩
  · rw [if_neg hv]
    rw [Bool.eq_false_iff.2 hv] at HA
    simp only [show ((1 : Nat) : Int) = 1 from rfl] at HC
    generalize run g s (nE e 1) = r at HC ⊢
    clear hI hb0 hat hf hok hsz hv
    go_enter Tryd.func121, Tryd.ntmps121
    go_wp2_with fail
    refine HA.out.mono ?_; rintro e' w1 ⟨rfl, rfl⟩
    go_wp2_with fail
    refine HC.out.mono ?_; rintro e' w1 ⟨rfl, h1, h2⟩
    have H1 := Lib.hid h1
    have H2 := Lib.hid h2
    clear h1 h2
    go_wp2_with fail
    go_ret
    exact ⟨rfl, H1.out, H2.out⟩
def QS (m : σ → Int) (p1 p2 : Addr) (g : σ → U → σ × Bool) (w0 : World) (I : Bool → σ → World → Prop) (l : List St) : Prop := ∀ (a : Option Addr) (c d : Nat) (s : σ) (w : World), okB l → l.length ≤ 1000000000000000 → DB m s d → 1 ≤ d → Bodies w0 a l → I true s w → Below w0.heap.size w0 w →
  Calls Tryd.prog 92 #[.slice a l.length c, .int .i64 (d : Int), .func (Fn.func 93) #[] #[.pointer (some p1), .pointer (some p2)]] w fun e' w' => GivesW1 w0 I (run g s (nB l d)) w e' w'
set_option maxHeartbeats 8000000 in
set_option maxRecDepth 100000 in
theorem owalkStmts_any {m0 : σ → Int} (H : StepW p1 p2 g w0 I) (CN : Cn m0 g) : ∀ l, QS m0 p1 p2 g w0 I l := by
  refine body_ind fun l ih => ?_
  intro a c d s w hok hl hsz hd1 hK hI hb0
  have HK := Lib.hid hK
  have HIH := Lib.hid ih
  have HOK := Lib.hid hok
  have HB0 := Lib.hid hb0
  have HI0 := Lib.hid hI
  have HH := Lib.hid H
  have hd : d ≤ 1000000 := hsz.lt
  have HDz := Lib.hid hsz
  have HCN := Lib.hid CN
  obtain ⟨R, hR⟩ : ∃ R, run g s (nB l d) = R := ⟨_, rfl⟩
  rw [hR]
  have HR : Hid (run g s (nB (l.drop 0) d) = R) := hR
  obtain ⟨m, hm⟩ : ∃ m, l.length = m := ⟨_, rfl⟩
  have HL := Lib.hid hm
  rw [hm] at hl ⊢
  clear hR hm hK ih hok hb0 hI hsz H CN
  go_enter Tryd.func92, Tryd.ntmps92
  go_wp2_with fail
  go_loopw [12] (fun s12 wr => ∃ (k : Nat) (sk : σ), k ≤ m ∧ s12 = .int .i64 k ∧ Hid (DB m0 sk d) ∧ Hid (run g sk (nB (l.drop k) d) = R) ∧ Hid (I true sk wr) ∧ Hid (Below w0.heap.size w wr)) (fun s12 _ => m - (intOf s12).toNat)
  case atStart => exact ⟨0, s, Nat.zero_le _, rfl, HDz, HR, HI0, Below.refl _ _⟩
  case round =>
    obtain ⟨k, sk, hk, rfl, HD, HX, HI, HB⟩ := hrel
    by_cases hlt : k < m
    · have hlx : k < l.length := by rw [HL.out]; exact hlt
      have hx := HX.out
      rw [nB_drop hlx, run_app, nS_parts, run_cons] at hx
      obtain ⟨b2, i2, rfl, hat⟩ := HK.out.open hlx
      have ho := okS_open (HOK.out.get k hlx)
      have ho2 := HOK.out.get k hlx
      obtain ⟨q1, q2⟩ := HIH.out k hlx
      generalize l[k] = t at hat ho ho2 q1 q2 hx
      obtain ⟨hA, hBb, ⟨a3, c3, e3, hK3⟩, ⟨a4, c4, e4, hK4⟩⟩ := hat.parts
      have hblt := hat.lt
      have HC1 := Lib.hid (HH.out.call sk (.st t d) (some ⟨b2, i2 + k * 13, none⟩) none wr HI.out (HB0.out.trans HB.out) ⟨b2, i2 + k * 13, rfl, rfl, hat⟩ ⟨ho2, hd⟩)
      have HDn := Lib.hid (fun h => HCN.out.down (u := .st t d) HD.out h)
      have HC2 := Lib.hid (fun s1 w1 (hz : DB m0 s1 (d + 1)) h1 h2 => owalkField_any HH.out HCN.out t.a b2 (i2 + k * 13 + 3) s1 w1 ho.a (hz.up (by omega)) hA h1 h2)
      have HC3 := Lib.hid (fun s1 w1 (hz : DB m0 s1 (d + 1)) h1 h2 => owalkField_any HH.out HCN.out t.b b2 (i2 + k * 13 + 7) s1 w1 ho.b (hz.up (by omega)) hBb h1 h2)
      have HC4 := Lib.hid (fun s1 w1 (hz : DB m0 s1 (d + 1)) h1 h2 => q1 a3 c3 (d + 1) s1 w1 ho.body ho.bodyLen hz (by omega) hK3 h1 h2)
      have HC5 := Lib.hid (fun s1 w1 (hz : DB m0 s1 (d + 1)) h1 h2 => q2 a4 c4 (d + 1) s1 w1 ho.els ho.elsLen hz (by omega) hK4 h1 h2)
      have HE3 := Lib.hid e3
      have HE4 := Lib.hid e4
      simp only [Int.natCast_add, Int.natCast_one, nodeV, U.d] at HC1 HC4 HC5
      clear hat ho ho2 q1 q2 hA hBb hK3 hK4 e3 e4
      generalize g sk (.st t d) = r1 at HC1 hx HDn
      obtain ⟨s1, y1⟩ := r1
      cases y1
      · simp only [Bool.false_eq_true, if_false] at hx
        have HV := Lib.hid hx
        clear hx
        go_wp2_with fail
        refine HC1.out.mono ?_; rintro e w1 ⟨rfl, hI1, hb1⟩
        have HI1 := Lib.hid hI1
        have HB1 := Lib.hid (HB.out.trans hb1)
        clear hI1 hb1
        go_wp2_with fail
        go_ret
        exact ⟨ret_bool (by rw [← HV.out]), by rw [← HV.out]; exact HI1.out, HB1.out⟩
      simp only [if_true] at hx
      rw [run_app] at hx
      go_wp2_with fail
      refine HC1.out.mono ?_; rintro e w1 ⟨rfl, hI1, hb1⟩
      have hB1 := HB.out.trans hb1
      have HZ1 := Lib.hid (HDn.out (by trivial))
      have HZ2 := Lib.hid (fun h => HCN.out.on (l := nR t.a) HZ1.out h)
      have hD2 := HC2.out s1 w1 HZ1.out hI1 (HB0.out.trans hB1)
      have HB1 := Lib.hid hB1
      clear hI1 hb1 hB1
      generalize run g s1 (nR t.a) = r2 at hD2 hx HZ2
      have HD2 := Lib.hid hD2
      clear hD2
      obtain ⟨s2, y2⟩ := r2
      cases y2
      · simp only [Bool.false_eq_true, if_false] at hx
        have HV := Lib.hid hx
        clear hx
        go_wp2_with fail
        refine HD2.out.mono ?_; rintro e w2 ⟨rfl, hI2, hb2⟩
        have HI2 := Lib.hid hI2
        have HB2 := Lib.hid (HB1.out.trans hb2)
        clear hI2 hb2
        go_wp2_with fail
        go_ret
        exact ⟨ret_bool (by rw [← HV.out]), by rw [← HV.out]; exact HI2.out, HB2.out⟩
      simp only [if_true] at hx
      rw [run_app] at hx
      go_wp2_with fail
      refine HD2.out.mono ?_; rintro e w2 ⟨rfl, hI2, hb2⟩
      have hB2 := HB1.out.trans hb2
      have HZ2 := Lib.hid (HZ2.out (by trivial))
      have HZ3 := Lib.hid (fun h => HCN.out.on (l := nR t.b) HZ2.out h)
      have hD3 := HC3.out s2 w2 HZ2.out hI2 (HB0.out.trans hB2)
      have HB2 := Lib.hid hB2
      clear hI2 hb2 hB2
      generalize run g s2 (nR t.b) = r3 at hD3 hx HZ3
      have HD3 := Lib.hid hD3
      clear hD3
      obtain ⟨s3, y3⟩ := r3
      cases y3
      · simp only [Bool.false_eq_true, if_false] at hx
        have HV := Lib.hid hx
        clear hx
        go_wp2_with fail
        refine HD3.out.mono ?_; rintro e w3 ⟨rfl, hI3, hb3⟩
        have HI3 := Lib.hid hI3
        have HB3 := Lib.hid (HB2.out.trans hb3)
        clear hI3 hb3
        go_wp2_with fail
        go_ret
        exact ⟨ret_bool (by rw [← HV.out]), by rw [← HV.out]; exact HI3.out, HB3.out⟩
      simp only [if_true] at hx
      rw [run_app] at hx
      go_wp2_with fail
      refine HD3.out.mono ?_; rintro e w3 ⟨rfl, hI3, hb3⟩
      have hB3 := HB2.out.trans hb3
      have HZ3 := Lib.hid (HZ3.out (by trivial))
      have HZ4 := Lib.hid (fun h => HCN.out.on (l := nB t.body (d + 1)) HZ3.out h)
      have hD4 := HC4.out s3 w3 HZ3.out hI3 (HB0.out.trans hB3)
      have e3 := ((HB0.out.trans hB3).cell hblt).trans HE3.out
      have HB3 := Lib.hid hB3
      clear hI3 hb3 hB3
      generalize run g s3 (nB t.body (d + 1)) = r4 at hD4 hx HZ4
      generalize t.body.length = m3 at hD4 e3
      have HD4 := Lib.hid hD4
      clear hD4
      obtain ⟨s4, y4⟩ := r4
      cases y4
      · simp only [Bool.false_eq_true, if_false] at hx
        have HV := Lib.hid hx
        clear hx
        go_wp2_with fail
        refine HD4.out.mono ?_; rintro e w4 ⟨rfl, hI4, hb4⟩
        have HI4 := Lib.hid hI4
        have HB4 := Lib.hid (HB3.out.trans hb4)
        clear hI4 hb4
        go_wp2_with fail
        go_ret
        exact ⟨ret_bool (by rw [← HV.out]), by rw [← HV.out]; exact HI4.out, HB4.out⟩
      simp only [if_true] at hx
      go_wp2_with fail
      refine HD4.out.mono ?_; rintro e w4 ⟨rfl, hI4, hb4⟩
      have hB4 := HB3.out.trans hb4
      have HZ4 := Lib.hid (HZ4.out (by trivial))
      have HZ5 := Lib.hid (fun h => HCN.out.on (l := nB t.els (d + 1)) HZ4.out h)
      have hD5 := HC5.out s4 w4 HZ4.out hI4 (HB0.out.trans hB4)
      have e4 := ((HB0.out.trans hB4).cell hblt).trans HE4.out
      have HB4 := Lib.hid hB4
      clear hI4 hb4 hB4
      generalize run g s4 (nB t.els (d + 1)) = r5 at hD5 hx HZ5
      generalize t.els.length = m4 at hD5 e4
      have HD5 := Lib.hid hD5
      clear hD5
      obtain ⟨s5, y5⟩ := r5
      cases y5
      · simp only [Bool.false_eq_true, if_false] at hx
        have HV := Lib.hid hx
        clear hx
        go_wp2_with fail
        refine HD5.out.mono ?_; rintro e w5 ⟨rfl, hI5, hb5⟩
        have HI5 := Lib.hid hI5
        have HB5 := Lib.hid (HB4.out.trans hb5)
        clear hI5 hb5
        go_wp2_with fail
        go_ret
        exact ⟨ret_bool (by rw [← HV.out]), by rw [← HV.out]; exact HI5.out, HB5.out⟩
      simp only [if_true] at hx
      have HN := Lib.hid hx
      clear hx
      go_wp2_with fail
      refine HD5.out.mono ?_; rintro e w5 ⟨rfl, hI5, hb5⟩
      have HI5 := Lib.hid hI5
      have HB5 := Lib.hid (HB4.out.trans hb5)
      clear hI5 hb5
      go_wp2_with fail
      go_roundw
      case rel => exact ⟨k + 1, s5, by omega, by go_num, (HZ5.out (by trivial)).up (by omega), HN, HI5, HB5⟩
      case measure => simp [intOf]; omega
    · have HV : Hid (R = (sk, true)) := by
        show _ = _
        rw [← HX.out, List.drop_of_length_le (by rw [HL.out]; omega), nB, run_nil]
      go_wp2_with fail
      go_ret
      exact ⟨ret_bool (by rw [HV.out]), by rw [HV.out]; exact HI.out, HB.out⟩
end
end Go.Proofs.YtgjnddjpinhkgaaDoor.A.UB
