/-
  What the program's functions of layer 12 return: Pure and Reads: contracts.
  What the program's functions of layer 12 return: Pure and Reads: contracts.
  Plain mathematics of layer 12: what a valid procedure's size is bounded by.
  What First of layer 12 leaves as it was: all but one variable; the marks of its loops; how far it has come.
  What the program's functions of layer 12 return: First: its contract.
-/
import Derived.Test.YtkjefigebdbkaaaGreatDoorM19
import Derived.RangeFuncBox
import Derived.Lib.Hide
import Derived.Test.YtkjefigebdbkaaaGreatDoorM10
import Derived.Test.YtkjefigebdbkaaaGreatDoorSNPlain
import Derived.Test.YtkjefigebdbkaaaGreatDoorM11
namespace Go.Proofs.YtkjefigebdbkaaaGreatDoor.N
open Go.RowKit Go.Shelf
open A (Ex exV exO okE)
open L (below_2 below_box ret_bool)
attribute [local go_sem] Oper.semAt_some

set_option maxHeartbeats 1000000 in
theorem oisN_any (o : Int) (w : World) : Calls Tryz.prog 20 #[.int .i64 o] w fun e w' => e = .returned (.bool (isN o)) ∧ w = w' := by
  obtain ⟨R, hR⟩ : ∃ R, isN o = R := ⟨_, rfl⟩
  rw [hR]
  unfold isN at hR
  have HR := Lib.hid hR
  clear hR
  by_cases h1 : o = 25
  · subst h1
    have HV : Hid (true = R) := by show _ = _; rw [← HR.out]; rfl
    go_enter Tryz.func20, Tryz.ntmps20
    go_wp2_with fail
    go_ret
    exact ⟨ret_bool HV.out, rfl⟩
  have b1 : (o == 25) = false := beq_eq_false_iff_ne.2 h1
  by_cases h2 : o = 26
  · subst h2
    have HV : Hid (true = R) := by show _ = _; rw [← HR.out]; rfl
    clear h1 b1
    go_enter Tryz.func20, Tryz.ntmps20
    go_wp2_with fail
    go_ret
    exact ⟨ret_bool HV.out, rfl⟩
  have b2 : (o == 26) = false := beq_eq_false_iff_ne.2 h2
  have HV : Hid (decide (o = 27) = R) := by show _ = _; rw [← HR.out, decide_eq_false h1, decide_eq_false h2]; rfl
  by_cases h3 : o = 27
  · subst h3
    clear h1 h2 b1 b2
    go_enter Tryz.func20, Tryz.ntmps20
    go_wp2_with fail
    go_ret
    exact ⟨ret_bool HV.out, rfl⟩
  have b3 : (o == 27) = false := beq_eq_false_iff_ne.2 h3
  have HV2 : Hid (false = R) := by show _ = _; rw [← HV.out, decide_eq_false h3]
  clear h1 h2 h3
  go_enter Tryz.func20, Tryz.ntmps20
  go_wp2_with fail
  go_ret
  exact ⟨ret_bool HV2.out, rfl⟩
set_option maxHeartbeats 1000000 in
theorem onodes_any (e : Ex) (a : Option Addr) (c : Nat) (w : World) : Calls Tryz.prog 19 #[exV e a c] w fun e' w' => e' = .returned (.func (.func 45) #[] #[.pointer (some ⟨w.heap.size, 0, none⟩)]) ∧ w' = w.alloc (exO e a c) := by
  unfold exV exO
  go_enter Tryz.func19, Tryz.ntmps19
  go_wp2_with fail
  go_ret
  exact ⟨rfl, rfl⟩
end Go.Proofs.YtkjefigebdbkaaaGreatDoor.N
namespace Go.Proofs.YtkjefigebdbkaaaGreatDoor.N
open Go.RowKit Go.Shelf
open A (Ex exV exO okE)
open L (below_2 below_box ret_bool)
attribute [local go_sem] Oper.semAt_some

theorem own_cells {β : Type} {B k : Nat} {o : β → Obj} (ho : ∀ s, (o s).isCells = true) : OwnFrom B (fun (s : β) (W : World) => W.heap[k]? = some (o s)) := fun s X Y row hs hg hr => by
  refine (hg.block k (Array.getElem?_eq_some_iff.1 hs).1 (fun e => ?_)).trans hs
  obtain ⟨-, o2, h2, h3⟩ := hr k e.symm
  rw [hs] at h2
  cases h2
  rw [ho s] at h3
  cases h3
theorem own_size {β : Type} {B m : Nat} : OwnFrom B (fun (_ : β) (W : World) => m ≤ W.heap.size) := fun _ _ _ _ hs hg _ => Nat.le_trans hs hg.size
theorem cell_blk {W : World} {k : Nat} {cs : Array Value} {t : TypeId} (h : W.heap[k]? = some (.cells cs t)) (i : Nat) : W.cell? ⟨k, i, none⟩ = cs[i]? := by simp [World.cell?, h]
theorem set_blk {W : World} {k : Nat} {v u : Value} {t : TypeId} (h : W.heap[k]? = some (.cells #[v] t)) : (W.setCell ⟨k, 0, none⟩ u).heap[k]? = some (.cells #[u] t) := Boxed.set u h

end Go.Proofs.YtkjefigebdbkaaaGreatDoor.N
namespace Go.Proofs.YtkjefigebdbkaaaGreatDoor.N
open A (Ex St Pm Pr V absent preE preEs preR preS preB walk exprs cE cEs cS cB stE vE uN uA uB)

theorem absent_cE {e : Ex} (h : absent e = true) : cE e = 1 := by
  obtain ⟨o, n, s, l⟩ := e
  unfold absent at h
  simp only [Bool.and_eq_true, decide_eq_true_iff, List.isEmpty_iff] at h
  obtain ⟨⟨⟨-, -⟩, h3⟩, h4⟩ := h
  have h3' : s.size = 0 := h3
  have h4' : l = [] := h4
  rw [cE, h3', h4', cEs]
theorem root_cE {e : Ex} (h : absent e = true ∨ vE e 1 = 0) : cE e ≤ 1 + 2 * (preR e).length := by
  unfold preR
  cases ha : absent e
  · rw [if_neg (by decide)]
    rcases h with h | h
    · rw [ha] at h; cases h
    · have := A.vE_count e 1 true h; omega
  · rw [absent_cE ha]; omega
mutual
theorem cS_valid : ∀ (s : St) (d : Nat), (∀ t k, V.st t k ∈ preS s d → stE t k = 0) → cS s ≤ 3 * (preS s d).length
  | .mk o nm mx a b bd el, d, hg => by
    rw [preS] at hg ⊢
    have h0 := hg _ _ List.mem_cons_self
    have hgood := A.good_of h0
    have hf := hgood.form
    unfold A.badS at hf
    simp only [Bool.or_eq_false_iff, Bool.and_eq_false_iff, Bool.not_eq_false'] at hf
    obtain ⟨⟨⟨⟨⟨⟨-, hn⟩, -⟩, h1⟩, h2⟩, -⟩, -⟩ := hf
    have ha : cE a ≤ 1 + 2 * (preR a).length := root_cE (h1.elim (fun h => Or.inr (hgood.a h)) (fun h => Or.inl h))
    have hb : cE b ≤ 1 + 2 * (preR b).length := root_cE (h2.elim (fun h => Or.inr (hgood.b h)) (fun h => Or.inl h))
    have hnm : nm.size / 64 = 0 := by
      rcases hn with hn | hn
      · have := A.nam_small (hgood.name hn)
        have h3 : nm.size ≤ 16 := this
        omega
      · have h3 : nm.size = 0 := of_decide_eq_true hn
        omega
    have hbd := cB_valid bd (d + 1) fun t k ht => hg t k (List.mem_cons_of_mem _ (List.mem_append.2 (Or.inl (List.mem_append.2 (Or.inr ht)))))
    have hel := cB_valid el (d + 1) fun t k ht => hg t k (List.mem_cons_of_mem _ (List.mem_append.2 (Or.inr ht)))
    rw [cS]
    simp only [List.length_cons, List.length_append]
    omega
theorem cB_valid : ∀ (l : List St) (d : Nat), (∀ t k, V.st t k ∈ preB l d → stE t k = 0) → cB l ≤ 3 * (preB l d).length
  | [], _, _ => by rw [cB]; omega
  | s :: r, d, hg => by
    rw [preB] at hg ⊢
    rw [cB, List.length_append]
    have h1 := cS_valid s d fun t k ht => hg t k (List.mem_append.2 (Or.inl ht))
    have h2 := cB_valid r d fun t k ht => hg t k (List.mem_append.2 (Or.inr ht))
    omega
end
theorem val_cB {p : Pr} (h : A.valE p = 0) : cB p.body ≤ 1200 := by
  obtain ⟨-, -, h3, h4⟩ := A.val_parts h
  have hw := A.walk_full h4
  have hfe := fun t k ht => A.first_each h3 t k ht
  rw [hw] at hfe h4
  have := cB_valid p.body 1 hfe
  omega
end Go.Proofs.YtkjefigebdbkaaaGreatDoor.N
namespace Go.Proofs.YtkjefigebdbkaaaGreatDoor.N
open Go.RowKit Go.Shelf
open A (Ex Pr exprs exV exO okE)
open L (below_2 below_box ret_bool)

/-! ### how far it has come -/
theorem fstF_at {l r : List Int} {o : Int} (h : l.any isN = false) (ho : isN o = true) (k : Int) : fstF k (l ++ o :: r) = (o, k + l.length, true) := by
  rw [fstF_app, if_neg (by rw [h]; decide), fstF, if_pos ho]
def noneN (l : List Ex) (k : Nat) : Prop := ((l.take k).flatMap ops).any isN = false
def lenN (l : List Ex) (k : Nat) : Nat := ((l.take k).flatMap ops).length
theorem noneN_zero (l : List Ex) : noneN l 0 := rfl
theorem noneN_next {l : List Ex} {k : Nat} (hk : k < l.length) (h : noneN l k) {ys : List Nd} (hy : ys.map Nd.op = ops l[k]) (hn : ∀ y ∈ ys, isN y.op = false) : noneN l (k + 1) := by
  unfold noneN at *
  rw [take_flat hk, List.any_append, h, ← hy, List.any_map, Bool.false_or, List.any_eq_false]
  intro y hm
  simp only [Function.comp]
  rw [hn y hm]; decide
theorem lenN_next {l : List Ex} {k : Nat} (hk : k < l.length) {ys : List Nd} (hy : ys.map Nd.op = ops l[k]) : lenN l (k + 1) = lenN l k + ys.length := by
  unfold lenN
  rw [take_flat hk, List.length_append, ← hy, List.length_map]
theorem lenN_le {l : List Ex} (k : Nat) : lenN l k ≤ (l.flatMap ops).length := (take_pre l k).length_le
theorem stop_at {l : List Ex} {k : Nat} (hk : k < l.length) (h : noneN l k) {pre : List Nd} {x : Nd} (hp : (pre ++ [x]).map Nd.op <+: ops l[k]) (hn : ∀ y ∈ pre, isN y.op = false) (hx : isN x.op = true) :
    fstF 0 (l.flatMap ops) = (x.op, ((lenN l k + pre.length : Nat) : Int), true) := by
  obtain ⟨r, hr⟩ := hp
  have h1 : l.flatMap ops = ((l.take k).flatMap ops ++ pre.map Nd.op) ++ x.op :: (r ++ (l.drop (k + 1)).flatMap ops) := by
    conv => lhs; rw [← List.take_append_drop k l]
    rw [List.flatMap_append, List.drop_eq_getElem_cons hk, List.flatMap_cons, ← hr]
    simp [List.append_assoc]
  rw [h1, fstF_at _ hx, List.length_append, List.length_map]
  · unfold lenN; simp
  · unfold noneN at h
    rw [List.any_append, h, List.any_map, Bool.false_or, List.any_eq_false]
    intro y hm
    simp only [Function.comp]
    rw [hn y hm]; decide
theorem end_at {l : List Ex} {k : Nat} (hk : l.length ≤ k) (h : noneN l k) : fstF 0 (l.flatMap ops) = (0, 0, false) := by
  unfold noneN at h
  rw [List.take_of_length_le hk] at h
  exact fstF_none h 0

/-! ### all but one block -/
structure OB (b : Nat) (W W' : World) : Prop where
  os : W'.os = W.os
  tape : W'.tape = W.tape
  output : W'.output = W.output
  size : W.heap.size ≤ W'.heap.size
  block : ∀ k, k < W.heap.size → k ≠ b → W'.heap[k]? = W.heap[k]?
theorem OB.refl (b : Nat) (W : World) : OB b W W := ⟨rfl, rfl, rfl, Nat.le_refl _, fun _ _ _ => rfl⟩
theorem OB.trans {b : Nat} {X Y Z : World} (h : OB b X Y) (k : OB b Y Z) : OB b X Z :=
  ⟨k.os.trans h.os, k.tape.trans h.tape, k.output.trans h.output, Nat.le_trans h.size k.size, fun i hi hb => (k.block i (Nat.lt_of_lt_of_le hi h.size) hb).trans (h.block i hi hb)⟩
theorem OB.of_below {b : Nat} {X Y : World} (h : Below X.heap.size X Y) : OB b X Y := ⟨h.os, h.tape, h.output, h.size, fun k hk _ => h.block k hk⟩
theorem OB.set {b : Nat} (W : World) (v : Value) : OB b W (W.setCell ⟨b, 0, none⟩ v) := ⟨rfl, rfl, rfl, by simp [World.setCell], fun k _ hb => Below.heap_setCell W ⟨b, 0, none⟩ v k hb⟩
theorem OB.below {b n : Nat} {X Y : World} (h : OB b X Y) (hb : n ≤ b) (hn : n ≤ X.heap.size) : Below n X Y := ⟨h.os, h.tape, h.output, h.size, fun k hk => h.block k (by omega) (by omega)⟩
theorem OB.cells {b k : Nat} {X Y : World} {o : Obj} (h : OB b X Y) (hk : X.heap[k]? = some o) (hb : k ≠ b) : Y.heap[k]? = some o := (h.block k (Array.getElem?_eq_some_iff.1 hk).1 hb).trans hk
theorem own_OB {β : Type} {B b : Nat} {W0 : World} (hB : W0.heap.size ≤ B) : OwnFrom B (fun (_ : β) W => OB b W0 W) := fun _ X Y row hs hg hr =>
  ⟨hg.os.trans hs.os, hg.tape.trans hs.tape, hg.output.trans hs.output, Nat.le_trans hs.size hg.size, fun k hk hb => (hg.block k (Nat.lt_of_lt_of_le hk hs.size) (fun e => by
    have := (hr k e.symm).1
    omega)).trans (hs.block k hk hb)⟩
theorem ex_box {b : Nat} {W W' : World} {v : Value} {t : TypeId} (hb : W.heap[b]? = some (.cells #[v] t)) {g i : Nat} {u : Value} (h : W.cell? ⟨g, i + 1, none⟩ = some u) (hO : OB b W W') (i' : Nat) : W'.cell? ⟨g, i', none⟩ = W.cell? ⟨g, i', none⟩ := by
  have hlt := block_lt_of_cell h
  refine World.cell?_of_block (w := W) (hO.block g hlt (fun e => ?_))
  have e' : g = b := e
  subst e'
  simp [World.cell?, hb] at h
mutual
theorem exAt_other {b : Nat} {W W' : World} {v : Value} {t : TypeId} (hb : W.heap[b]? = some (.cells #[v] t)) (hO : OB b W W') : ∀ (e : Ex) {g i : Nat}, A.ExAt W e g i → A.ExAt W' e g i
  | .mk o n s l, g, i, h => by
    rw [A.ExAt] at h ⊢
    obtain ⟨h0, h1, h2, a, c, h3, h4⟩ := h
    have hx := ex_box hb h1 hO
    refine ⟨(hx _).trans h0, (hx _).trans h1, (hx _).trans h2, a, c, (hx _).trans h3, ?_⟩
    rcases h4 with h4 | ⟨b2, i2, ha, h5⟩
    · exact Or.inl h4
    · exact Or.inr ⟨b2, i2, ha, exsAt_other hb hO l h5⟩
theorem exsAt_other {b : Nat} {W W' : World} {v : Value} {t : TypeId} (hb : W.heap[b]? = some (.cells #[v] t)) (hO : OB b W W') : ∀ (l : List Ex) {g i : Nat}, A.ExsAt W l g i → A.ExsAt W' l g i
  | [], _, _, _ => by rw [A.ExsAt]; trivial
  | e :: r, g, i, h => by
    rw [A.ExsAt] at h ⊢
    exact ⟨exAt_other hb hO e h.1, exsAt_other hb hO r h.2⟩
end
theorem kids_other {b : Nat} {W W' : World} {v : Value} {t : TypeId} (hb : W.heap[b]? = some (.cells #[v] t)) (hO : OB b W W') {a : Option Addr} {l : List Ex} (h : A.Kids W a l) : A.Kids W' a l := by
  rcases h with h | ⟨g, i, ha, h⟩
  · exact Or.inl h
  · exact Or.inr ⟨g, i, ha, exsAt_other hb hO l h⟩

/-! ### the marks of the loops -/
def mark (D : Nat) : Deferred := { target := .collected D, args := #[] }
structure Marks (n : Nat) (l : List Nat) (W : World) : Prop where
  nd : l.Nodup
  each : ∀ D ∈ l, n ≤ D ∧ W.heap[D]? = some (.deferred (some []))
theorem Marks.nil (n : Nat) (W : World) : Marks n [] W := ⟨List.nodup_nil, fun _ h => absurd h List.not_mem_nil⟩
theorem Marks.cons {n : Nat} {l : List Nat} {W : World} (h : Marks n l W) {D : Nat} (hD : n ≤ D) (hk : W.heap[D]? = some (.deferred (some []))) (hn : ∀ x ∈ l, x < D) : Marks n (D :: l) W :=
  ⟨List.nodup_cons.2 ⟨fun hm => Nat.lt_irrefl _ (hn D hm), h.nd⟩, fun x hx => (List.mem_cons.1 hx).elim (fun e => by subst e; exact ⟨hD, hk⟩) (h.each x)⟩
theorem Marks.kept {n : Nat} {l : List Nat} {W W' : World} (h : Marks n l W) (hk : ∀ (k : Nat) (o : Obj), W.heap[k]? = some o → o.isCells = false → W'.heap[k]? = some o) : Marks n l W' :=
  ⟨h.nd, fun D hD => ⟨(h.each D hD).1, hk D _ (h.each D hD).2 rfl⟩⟩
theorem own_marks {β : Type} {B n : Nat} {l : List Nat} (hl : ∀ x ∈ l, x < B) : OwnFrom B (fun (_ : β) (W : World) => Marks n l W) := fun _ X Y row hs hg hr =>
  ⟨hs.nd, fun D hD => ⟨(hs.each D hD).1, (hg.block D (Array.getElem?_eq_some_iff.1 (hs.each D hD).2).1 (fun e => by have := (hr D e.symm).1; have := hl D hD; omega)).trans (hs.each D hD).2⟩⟩
theorem leaves_marks {F : Fence} {m : Nat} {P : Program} {fn : Func} {tmps : Array Value} {R : Ending → World → Prop} {n : Nat} : ∀ (l : List Nat) (W : World), Marks n l W →
    (∀ W', Below n W W' → (∀ (k : Nat) (o : Obj), W.heap[k]? = some o → o.isCells = true → W'.heap[k]? = some o) → LeavesInM F m P fn tmps R [] .returning W') → LeavesInM F m P fn tmps R (l.map mark) .returning W
  | [], W, _, h => h W (Below.refl _ _) fun _ _ h _ => h
  | D :: l, W, hM, h => by
    obtain ⟨h1, h2⟩ := hM.each D List.mem_cons_self
    have hn := List.nodup_cons.1 hM.nd
    have hb : Below n W (W.putObj D (.deferred none)) := ⟨rfl, rfl, rfl, by simp [World.putObj], fun k hk => World.putObj_heap_other (by omega)⟩
    have hc : ∀ (k : Nat) (o : Obj), W.heap[k]? = some o → o.isCells = true → (W.putObj D (.deferred none)).heap[k]? = some o := fun k o hk ho => by
      by_cases e : k = D
      · subst e; rw [h2] at hk; cases hk; cases ho
      · exact (World.putObj_heap_other e).trans hk
    refine ⟨by simp, .inl ⟨D, _, rfl, run_takeDeferred h2, ?_⟩⟩
    refine leaves_marks l _ ⟨hn.2, fun x hx => ⟨(hM.each x (List.mem_cons_of_mem _ hx)).1, ?_⟩⟩ fun W' hb' hc' => h W' (hb.trans hb') fun k o hk ho => hc' k o (hc k o hk ho) ho
    exact (World.putObj_heap_other (fun e => hn.1 (by rw [← e]; exact hx))).trans (hM.each x (List.mem_cons_of_mem _ hx)).2
structure Three (g : Nat) (x y z : Value) (t1 t2 t3 : TypeId) (W : World) : Prop where
  c1 : W.heap[g + 1]? = some (.cells #[x] t1)
  c2 : W.heap[g + 1 + 1]? = some (.cells #[y] t2)
  c3 : W.heap[g + 1 + 1 + 1]? = some (.cells #[z] t3)
theorem Three.set {g : Nat} {x y z x' y' z' : Value} {t1 t2 t3 : TypeId} {W : World} (h : Three g x y z t1 t2 t3 W) :
    Three g x' y' z' t1 t2 t3 (((W.setCell ⟨g + 1, 0, none⟩ x').setCell ⟨g + 1 + 1, 0, none⟩ y').setCell ⟨g + 1 + 1 + 1, 0, none⟩ z') :=
  ⟨(Below.heap_setCell _ _ _ _ (by show g + 1 ≠ g + 1 + 1 + 1; omega)).trans ((Below.heap_setCell _ _ _ _ (by show g + 1 ≠ g + 1 + 1; omega)).trans (set_blk h.c1)),
   (Below.heap_setCell _ _ _ _ (by show g + 1 + 1 ≠ g + 1 + 1 + 1; omega)).trans (set_blk ((Below.heap_setCell _ _ _ _ (by show g + 1 + 1 ≠ g + 1; omega)).trans h.c2)),
   set_blk ((Below.heap_setCell _ _ _ _ (by show g + 1 + 1 + 1 ≠ g + 1 + 1; omega)).trans ((Below.heap_setCell _ _ _ _ (by show g + 1 + 1 + 1 ≠ g + 1; omega)).trans h.c3))⟩
theorem set3_below' {n g : Nat} {X W : World} {x y z : Value} (h : Below n X W) (hn : n ≤ g) : Below n X (((W.setCell ⟨g + 1, 0, none⟩ x).setCell ⟨g + 1 + 1, 0, none⟩ y).setCell ⟨g + 1 + 1 + 1, 0, none⟩ z) :=
  ((h.setCell (p := ⟨g + 1, 0, none⟩) (by show n ≤ g + 1; omega) _).setCell (p := ⟨g + 1 + 1, 0, none⟩) (by show n ≤ g + 1 + 1; omega) _).setCell (p := ⟨g + 1 + 1 + 1, 0, none⟩) (by show n ≤ g + 1 + 1 + 1; omega) _
theorem set3_others {g : Nat} (W : World) {x y z : Value} : KeepsOthers W (((W.setCell ⟨g + 1, 0, none⟩ x).setCell ⟨g + 1 + 1, 0, none⟩ y).setCell ⟨g + 1 + 1 + 1, 0, none⟩ z) :=
  ((KeepsOthers.setCell _ _ _).trans (KeepsOthers.setCell _ _ _)).trans (KeepsOthers.setCell _ _ _)
theorem Three.kept {g : Nat} {x y z : Value} {t1 t2 t3 : TypeId} {W W' : World} (h : Three g x y z t1 t2 t3 W) (hk : ∀ (k : Nat) (o : Obj), W.heap[k]? = some o → o.isCells = true → W'.heap[k]? = some o) : Three g x y z t1 t2 t3 W' :=
  ⟨hk _ _ h.c1 rfl, hk _ _ h.c2 rfl, hk _ _ h.c3 rfl⟩
theorem Three.kept2 {g b : Nat} {x y z : Value} {t1 t2 t3 : TypeId} {W W' : World} (h : Three g x y z t1 t2 t3 W) (hO : OB b W W') (h1 : g + 1 ≠ b) (h2 : g + 1 + 1 ≠ b) (h3 : g + 1 + 1 + 1 ≠ b) : Three g x y z t1 t2 t3 W' :=
  ⟨hO.cells h.c1 h1, hO.cells h.c2 h2, hO.cells h.c3 h3⟩
theorem own_three {β : Type} {B g : Nat} {x y z : β → Value} {t1 t2 t3 : TypeId} : OwnFrom B (fun (s : β) (W : World) => Three g (x s) (y s) (z s) t1 t2 t3 W) := fun s X Y row hs hg hr =>
  ⟨own_cells (o := fun s => .cells #[x s] t1) (fun _ => rfl) s X Y row hs.c1 hg hr, own_cells (o := fun s => .cells #[y s] t2) (fun _ => rfl) s X Y row hs.c2 hg hr, own_cells (o := fun s => .cells #[z s] t3) (fun _ => rfl) s X Y row hs.c3 hg hr⟩
theorem frozen_blk {W : World} {k : Nat} {v : Value} {t : TypeId} (h : W.heap[k]? = some (.cells #[v] t)) : W.frozen? ⟨k, 0, none⟩ = false := Boxed.frozen (t := t) h
end Go.Proofs.YtkjefigebdbkaaaGreatDoor.N
namespace Go.Proofs.YtkjefigebdbkaaaGreatDoor.N
open Go.RowKit Go.Shelf
open A (Ex Pr exprs exV exO okE prV prO OkP PrIn GivesXs)
open L (below_2 below_box ret_bool)
attribute [local go_sem] Oper.semAt_some

set_option maxHeartbeats 2000000 in
theorem leave_first {R : Int × Int × Bool} {w W : World} (l : List Nat) {t0 t1 t5 t6 t7 t8 t9 t10 t11 t12 t13 t14 t15 t16 t17 t18 t19 t20 t21 t22 t23 t24 t25 t26 t27 t28 t29 t30 : Value} (hM : Marks w.heap.size l W) (hT : Three w.heap.size (.int .i64 R.1) (.int .i64 R.2.1) (.bool R.2.2) 3 3 4 W) (hB : Below w.heap.size w W) :
    LeavesInM Fence.wide 9 Tryz.prog Tryz.f6 #[t0, t1, .pointer (some ⟨w.heap.size + 1, 0, none⟩), .pointer (some ⟨w.heap.size + 1 + 1, 0, none⟩), .pointer (some ⟨w.heap.size + 1 + 1 + 1, 0, none⟩), t5, t6, t7, t8, t9, t10, t11, t12, t13, t14, t15, t16, t17, t18, t19, t20, t21, t22, t23, t24, t25, t26, t27, t28, t29, t30]
      (fun e' w' => e' = .returned (.tuple #[.int .i64 R.1, .int .i64 R.2.1, .bool R.2.2]) ∧ Below w.heap.size w w') (l.map mark) .returning W := by
  refine leaves_marks l W hM fun W' hb hc => ?_
  have hT' := hT.kept hc
  have c1 := cell_blk hT'.c1 0
  have c2 := cell_blk hT'.c2 0
  have c3 := cell_blk hT'.c3 0
  simp at c1 c2 c3
  refine ⟨.tuple #[.int .i64 R.1, .int .i64 R.2.1, .bool R.2.2], ?_, rfl, hB.trans hb⟩
  simp [results, Tryz.f6, go_sem, c1, c2, c3]
structure FR (w w7 : World) (b : Nat) (xs : List Ex) (k : Nat) (ds : List Nat) (wr : World) : Prop where
  le : k ≤ xs.length
  non : noneN xs k
  ob : OB b w7 wr
  box : wr.heap[b]? = some (.cells #[.int .i64 ((lenN xs k : Nat) : Int)] 3)
  marks : Marks w.heap.size ds wr
theorem Marks.lt {n : Nat} {l : List Nat} {W : World} (h : Marks n l W) : ∀ x ∈ l, x < W.heap.size := fun x hx => (Array.getElem?_eq_some_iff.1 (h.each x hx).2).1
set_option maxHeartbeats 16000000 in
set_option maxRecDepth 100000 in
theorem oFirst_any (p : Pr) (a1 a2 : Option Addr) (c1 c2 : Nat)
    (hV : ∀ w, PrIn w p a1 a2 → Calls Tryz.prog 17 #[prV p a1 c1 a2 c2] w fun e' w' => e' = .returned (.int .i64 (A.valE p)) ∧ Below w.heap.size w w')
    (hX : A.valE p = 0 → ∀ w, PrIn w p a1 a2 → Calls Tryz.prog 18 #[prV p a1 c1 a2 c2] w fun e' w' => GivesXs w (exprs p) e' w')
    (hE : A.valE p = 0 → ∀ e ∈ exprs p, okE e) (w : World) (hK : PrIn w p a1 a2) :
    Calls Tryz.prog 6 #[prV p a1 c1 a2 c2] w fun e' w' => e' = .returned (.tuple #[.int .i64 (firstN p).1, .int .i64 (firstN p).2.1, .bool (firstN p).2.2]) ∧ Below w.heap.size w w' := by
  refine (callsIn_wide (n := 9)).1 ?_
  refine callsIn_of_wp_marks Tryz.func6 rfl trivial ?_ rfl
  simp only [Tryz.ntmps6, List.size_toArray, List.length_cons, List.length_nil, Nat.reduceAdd, Nat.reduceSub, Array.replicate_succ, Array.replicate_zero, List.push_toArray, List.append_toArray, List.nil_append, List.cons_append]
  have hb1 := below_box w (prO p a1 c1 a2 c2)
  have hb2 := below_box (w.alloc (prO p a1 c1 a2 c2)) (.cells #[.int .i64 0] 3)
  have hb3 := below_box ((w.alloc (prO p a1 c1 a2 c2)).alloc (.cells #[.int .i64 0] 3)) (.cells #[.int .i64 0] 3)
  have hb4 := below_box (((w.alloc (prO p a1 c1 a2 c2)).alloc (.cells #[.int .i64 0] 3)).alloc (.cells #[.int .i64 0] 3)) (.cells #[.bool false] 4)
  have hB4 := below_2 (below_2 (below_2 hb1 hb2) hb3) hb4
  obtain ⟨W4, hW4⟩ : ∃ W4, (((w.alloc (prO p a1 c1 a2 c2)).alloc (.cells #[.int .i64 0] 3)).alloc (.cells #[.int .i64 0] 3)).alloc (.cells #[.bool false] 4) = W4 := ⟨_, rfl⟩
  have s1 : (w.alloc (prO p a1 c1 a2 c2)).heap.size = w.heap.size + 1 := by simp
  have s2 : ((w.alloc (prO p a1 c1 a2 c2)).alloc (.cells #[.int .i64 0] 3)).heap.size = w.heap.size + 1 + 1 := by simp
  have s3 : (((w.alloc (prO p a1 c1 a2 c2)).alloc (.cells #[.int .i64 0] 3)).alloc (.cells #[.int .i64 0] 3)).heap.size = w.heap.size + 1 + 1 + 1 := by simp
  have s4 : W4.heap.size = w.heap.size + 4 := by rw [← hW4]; simp
  have k0 : W4.heap[w.heap.size]? = some (prO p a1 c1 a2 c2) := by
    rw [← hW4]
    exact (hb4.block _ (by omega)).trans ((hb3.block _ (by omega)).trans ((hb2.block _ (by omega)).trans (World.alloc_heap_new w _)))
  have k1 : W4.heap[w.heap.size + 1]? = some (.cells #[.int .i64 0] 3) := by
    have := World.alloc_heap_new (w.alloc (prO p a1 c1 a2 c2)) (.cells #[.int .i64 0] 3)
    rw [s1] at this
    rw [← hW4]
    exact (hb4.block _ (by omega)).trans ((hb3.block _ (by omega)).trans this)
  have k2 : W4.heap[w.heap.size + 1 + 1]? = some (.cells #[.int .i64 0] 3) := by
    have := World.alloc_heap_new ((w.alloc (prO p a1 c1 a2 c2)).alloc (.cells #[.int .i64 0] 3)) (.cells #[.int .i64 0] 3)
    rw [s2] at this
    rw [← hW4]
    exact (hb4.block _ (by omega)).trans this
  have k3 : W4.heap[w.heap.size + 1 + 1 + 1]? = some (.cells #[.bool false] 4) := by
    have := World.alloc_heap_new (((w.alloc (prO p a1 c1 a2 c2)).alloc (.cells #[.int .i64 0] 3)).alloc (.cells #[.int .i64 0] 3)) (.cells #[.bool false] 4)
    rw [s3] at this
    rw [← hW4]
    exact this
  rw [hW4] at hB4
  have HVa := Lib.hid (hV W4 (hK.below hB4))
  have HXp := Lib.hid hX
  have HE := Lib.hid hE
  have HK4 := Lib.hid (hK.below hB4)
  have HB4 := Lib.hid hB4
  have HK0 := Lib.hid k0
  have HTh : Hid (Three w.heap.size (.int .i64 0) (.int .i64 0) (.bool false) 3 3 4 W4) := ⟨k1, k2, k3⟩
  have HS4 := Lib.hid s4
  have HFN : Hid (firstN p = if A.valE p ≠ 0 then (0, 0, false) else fstF 0 ((exprs p).flatMap ops)) := rfl
  have x0 : W4.cell? ⟨w.heap.size, 0, none⟩ = some (.string p.name) := by simpa [prO] using cell_blk (show W4.heap[w.heap.size]? = some (.cells _ _) from k0) 0
  have x1 : W4.cell? ⟨w.heap.size, 1, none⟩ = some (.slice a1 p.params.length c1) := by simpa [prO] using cell_blk (show W4.heap[w.heap.size]? = some (.cells _ _) from k0) 1
  have x2 : W4.cell? ⟨w.heap.size, 2, none⟩ = some (.slice a2 p.body.length c2) := by simpa [prO] using cell_blk (show W4.heap[w.heap.size]? = some (.cells _ _) from k0) 2
  generalize hR : firstN p = R at HFN ⊢
  unfold prV at *
  unfold prO at hW4
  rw [← hW4] at x0 x1 x2
  have HW4 := Lib.hid hW4
  clear hb1 hb2 hb3 hb4 hB4 s1 s2 s3 s4 k0 k1 k2 k3 hK hV hX hE hR hW4
  gi_wp2_with fail
  refine ⟨trivial, ?_⟩
  rw [HW4.out] at x0 x1 x2 ⊢
  refine (callsIn_wide.2 HVa.out).mono ?_; rintro e' w5 ⟨rfl, hb5⟩
  have hth5 := HTh.out.kept (W' := w5) (fun k o hk _ => (hb5.block k (Array.getElem?_eq_some_iff.1 hk).1).trans hk)
  have q1 : w5.cell? ⟨w.heap.size + 1, 0, none⟩ = some (.int .i64 0) := cell_blk hth5.c1 0
  have q2 : w5.cell? ⟨w.heap.size + 1 + 1, 0, none⟩ = some (.int .i64 0) := cell_blk hth5.c2 0
  have q3 : w5.cell? ⟨w.heap.size + 1 + 1 + 1, 0, none⟩ = some (.bool false) := cell_blk hth5.c3 0
  have r1 := frozen_blk hth5.c1
  have r2 := frozen_blk hth5.c2
  have r3 := frozen_blk hth5.c3
  have HT5 := Lib.hid hth5
  have HB5 := Lib.hid (below_2 HB4.out hb5)
  by_cases h0 : A.valE p = 0
  case neg =>
    have b1 : (A.valE p != 0) = true := bne_iff_ne.2 h0
    have HR : Hid (R = (0, 0, false)) := by show _ = _; rw [HFN.out, if_pos h0]
    clear h0 x0 x1 x2 hb5 hth5
    gi_wp2
    refine leave_first (R := R) (w := w) [] (Marks.nil _ _) ?_ ?_
    · rw [HR.out]; exact HT5.out.set
    · exact set3_below' HB5.out (Nat.le_refl _)
  have hb50 := hb5
  have hbx := below_box w5 (.cells #[.int .i64 0] 3)
  have y0 := (hb5.cell (p := ⟨w.heap.size, 0, none⟩) (by show w.heap.size < W4.heap.size; have := HS4.out; omega)).trans x0
  have y1 := (hb5.cell (p := ⟨w.heap.size, 1, none⟩) (by show w.heap.size < W4.heap.size; have := HS4.out; omega)).trans x1
  have y2 := (hb5.cell (p := ⟨w.heap.size, 2, none⟩) (by show w.heap.size < W4.heap.size; have := HS4.out; omega)).trans x2
  have HXc := Lib.hid (HXp.out h0 (w5.alloc (.cells #[.int .i64 0] 3)) ((HK4.out.below hb5).below hbx))
  have HEe := Lib.hid (HE.out h0)
  have HR : Hid (R = fstF 0 ((exprs p).flatMap ops)) := by show _ = _; rw [HFN.out, if_neg (fun x => x h0)]
  have HB6 := Lib.hid (below_2 HB5.out hbx)
  have HLN : Hid (((exprs p).flatMap ops).length ≤ 400) := allOps_len h0
  have hxl : (exprs p).length ≤ 400 := Nat.le_trans (A.exprs_count p) (A.val_parts h0).2.2.2
  rw [h0]
  have HT6 := Lib.hid (HT5.out.kept (W' := w5.alloc (.cells #[.int .i64 0] 3)) (fun k o hk _ => (Below.heap_alloc _ _ _ (Array.getElem?_eq_some_iff.1 hk).1).trans hk))
  have HBX : Hid ((w5.alloc (.cells #[.int .i64 0] 3)).heap[w5.heap.size]? = some (.cells #[.int .i64 0] 3)) := World.alloc_heap_new _ _
  have HZ5 : Hid (w.heap.size + 4 ≤ w5.heap.size) := by have h1 := hb5.size; have h2 := HS4.out; show _ ≤ _; omega
  have y0' := (hbx.cell (block_lt_of_cell y0)).trans y0
  have y1' := (hbx.cell (block_lt_of_cell y1)).trans y1
  have y2' := (hbx.cell (block_lt_of_cell y2)).trans y2
  clear x0 x1 x2 hb5 hb50 hth5 h0 q1 q2 q3 r1 r2 r3 y0 y1 y2 HVa HXp HE HK4 HK0 HTh HFN hbx
  gi_wp2_with fail
  refine ⟨trivial, ?_⟩
  refine (callsIn_wide.2 HXc.out).mono ?_
  rintro e' w7 ⟨px, qx, rfl, hk7, hb7⟩
  have HB7 := Lib.hid (below_2 HB6.out hb7)
  have HK7 := Lib.hid hk7
  have HT7 := Lib.hid (HT6.out.kept (W' := w7) (fun k o hk _ => (hb7.block k (Array.getElem?_eq_some_iff.1 hk).1).trans hk))
  have HBX7 : Hid (w7.heap[w5.heap.size]? = some (.cells #[.int .i64 0] 3)) := (hb7.block _ (Array.getElem?_eq_some_iff.1 HBX.out).1).trans HBX.out
  have HZ7 : Hid (w5.heap.size < w7.heap.size) := (Array.getElem?_eq_some_iff.1 HBX7.out).1
  clear hk7 hb7 y0' y1' y2' HXc
  have HN := Lib.hid (fun (e : Ex) (a : Option Addr) (c : Nat) (w' : World) => onodes_any e a c w')
  unfold exV exO at HN
  gi_wp2_with fail
  generalize hEP : (Value.agg #[.string p.name, .slice a1 p.params.length c1, .slice a2 p.body.length c2]) = EP
  clear hEP HW4 HB4 HS4 HT5 HB6 HT6 HBX
  refine wpIn_loop (fun a' wr => ∃ (k : Nat) (ds : List Nat) (u7 u16 u17 u18 u19 u20 u30 : Value), FR w w7 w5.heap.size (exprs p) k ds wr ∧ a' = { tmps := #[EP, .pointer (some ⟨w.heap.size, 0, none⟩), .pointer (some ⟨w.heap.size + 1, 0, none⟩), .pointer (some ⟨w.heap.size + 1 + 1, 0, none⟩), .pointer (some ⟨w.heap.size + 1 + 1 + 1, 0, none⟩), .pointer (some ⟨w5.heap.size, 0, none⟩), undef, u7, undef, EP, .int .i64 0, .bool false, EP, .slice px (exprs p).length qx, .int .i64 (exprs p).length, .int .i64 k, u16, u17, u18, u19, u20, undef, undef, undef, undef, undef, undef, undef, undef, undef, u30], defers := ds.map mark }) (fun a' _ => (exprs p).length - (intOf (a'.tmps.getD 15 undef)).toNat) ?start ?round
  case start =>
    exact ⟨0, [], undef, undef, undef, undef, undef, undef, undef, ⟨Nat.zero_le _, noneN_zero _, OB.refl _ _, HBX7.out, Marks.nil _ _⟩, rfl⟩
  case round =>
    rintro a' wr ⟨k, ds, u7, u16, u17, u18, u19, u20, u30, hrel, rfl⟩
    have hzr : w7.heap.size ≤ wr.heap.size := hrel.ob.size
    by_cases hlt : k < (exprs p).length
    · obtain ⟨b2, i2, rfl, hat⟩ := (kids_other HBX7.out hrel.ob HK7.out).open hlt
      obtain ⟨d0, d1, d2, a3, c3, d3, hk3⟩ := hat.open
      have HREL := Lib.hid hrel
      have HK3 := Lib.hid hk3
      have HOK := Lib.hid (HEe.out _ (List.getElem_mem hlt))
      have HLT := Lib.hid hlt
      have HLK : Hid (lenN (exprs p) k + (ops (exprs p)[k]).length ≤ 400) := by
        have h1 := lenN_le (l := exprs p) (k + 1)
        have h2 := HLN.out
        have h3 : lenN (exprs p) (k + 1) = lenN (exprs p) k + (ops (exprs p)[k]).length := by unfold lenN; rw [take_flat hlt]; exact List.length_append
        show _ ≤ _
        omega
      have HNe := Lib.hid (HN.out (exprs p)[k] a3 c3)
      clear hrel hat hk3
      generalize hek : (exprs p)[k] = ek at *
      have HEK := Lib.hid hek
      clear hek
      obtain ⟨eo, en, es, el⟩ := ek
      simp only [Ex.op, Ex.n, Ex.s, Ex.args] at d0 d1 d2 d3 HNe
      have hb1 := below_box wr (.cells #[.int .i64 eo, .int .i64 en, .string es, .slice a3 el.length c3] 41)
      have hb2 := below_box (wr.alloc (.cells #[.int .i64 eo, .int .i64 en, .string es, .slice a3 el.length c3] 41)) (.cells #[.int .i64 eo, .int .i64 en, .string es, .slice a3 el.length c3] 41)
      have s1 : (wr.alloc (.cells #[.int .i64 eo, .int .i64 en, .string es, .slice a3 el.length c3] 41)).heap.size = wr.heap.size + 1 := by simp
      have c3' := World.alloc_heap_new (wr.alloc (.cells #[.int .i64 eo, .int .i64 en, .string es, .slice a3 el.length c3] 41)) (.cells #[.int .i64 eo, .int .i64 en, .string es, .slice a3 el.length c3] 41)
      rw [s1] at c3'
      have hbb := below_2 hb1 hb2
      obtain ⟨W0, hW0⟩ : ∃ W0, (wr.alloc (.cells #[.int .i64 eo, .int .i64 en, .string es, .slice a3 el.length c3] 41)).alloc (.cells #[.int .i64 eo, .int .i64 en, .string es, .slice a3 el.length c3] 41) = W0 := ⟨_, rfl⟩
      have hs0 : W0.heap.size = wr.heap.size + 2 := by rw [← hW0]; simp
      rw [hW0] at c3' hbb
      have HC3 : Hid (W0.heap[wr.heap.size + 1]? = some (exO (.mk eo en es el) a3 c3)) := c3'
      have HBB := Lib.hid hbb
      have HW0 := Lib.hid hW0
      have HK0 : Hid (A.Kids W0 a3 (Ex.mk eo en es el).args) := HK3.out.below hbb
      clear hb1 hb2 s1 c3' hbb hW0
      gi_wp2_with fail
      refine ⟨trivial, ?_⟩
      refine (callsIn_wide.2 (HNe.out _)).mono ?_
      rintro e' w' ⟨rfl, rfl⟩
      gi_wp2_with fail
      rw [HW0.out]
      clear d0 d1 d2 d3 HNe HW0
      refine wpIn_rangeFunc_ownH (F := Fence.wide) (n := 9) rfl (by decide) (gf := 45) (lb := #[.pointer (some ⟨wr.heap.size + 1, 0, none⟩)]) rfl trivial (enters_of Tryz.func45 (by kernel_rfl) rfl)
        (nodes_stops (some w5.heap.size) Fence.wide rfl 8 trivial trivial rfl (wr.heap.size + 1) (.mk eo en es el) a3 c3 W0 HOK.out HC3.out HK0.out (fun g e => by cases e; exact ⟨_, _, (HBB.out.block _ (Array.getElem?_eq_some_iff.1 HREL.out.box).1).trans HREL.out.box⟩)) (fun h k => h.trans k) (KC.putObj (Nat.le_refl _)) (Below.refl _ _) (fun _ => rfl)
        (fun pre W => (((W.heap[w5.heap.size]? = some (.cells #[.int .i64 ((lenN (exprs p) k + pre.length : Nat) : Int)] 3) ∧ (∀ x ∈ pre, isN x.op = false)) ∧ W0.heap.size ≤ W.heap.size) ∧ OB w5.heap.size w7 W) ∧ Marks w.heap.size ds W)
        (fun c pre W => ((c = .ret ∧ Below w.heap.size w W) ∧ Marks w.heap.size ds W) ∧ ∃ pre' x, (pre = pre' ++ [x] ∧ isN x.op = true ∧ ∀ y ∈ pre', isN y.op = false) ∧ Three w.heap.size (.int .i64 x.op) (.int .i64 ((lenN (exprs p) k + pre'.length : Nat) : Int)) (.bool true) 3 3 4 W)
        (OwnFrom.and (OwnFrom.and (OwnFrom.and (OwnFrom.and (own_cells (o := fun (pre : List Nd) => .cells #[.int .i64 ((lenN (exprs p) k + pre.length : Nat) : Int)] 3) fun _ => rfl) (ownFrom_pure _ _)) own_size) (own_OB (by omega))) (own_marks (fun x hx => by have := HREL.out.marks.lt x hx; omega)))
        (fun c => OwnFrom.and (OwnFrom.and (OwnFrom.and (ownFrom_pure _ (fun _ => c = Code.ret)) (ownFrom_below (Nat.le_refl _) (by have := HZ5.out; have := HZ7.out; omega))) (own_marks (fun x hx => by have := HREL.out.marks.lt x hx; omega)))
          (fun s X Y row ⟨pre', x, h1, h2⟩ hg hr => ⟨pre', x, h1, own_three (x := fun (_ : Unit) => .int .i64 x.op) (y := fun _ => .int .i64 ((lenN (exprs p) k + pre'.length : Nat) : Int)) (z := fun _ => .bool true) () X Y row h2 hg hr⟩))
        ⟨⟨⟨⟨(HBB.out.block _ (Array.getElem?_eq_some_iff.1 HREL.out.box).1).trans HREL.out.box, fun x hx => absurd hx List.not_mem_nil⟩, Nat.le_refl _⟩, HREL.out.ob.trans (OB.of_below HBB.out)⟩, HREL.out.marks.kept (fun k o hk _ => (HBB.out.block k (Array.getElem?_eq_some_iff.1 hk).1).trans hk)⟩
        (fun x a' W => ∃ Bx v7 v16 v17 v18 v19 v20 v30, W.heap[Bx]? = some (exO x.e x.a x.c) ∧ a' = { tmps := #[EP, .pointer (some ⟨w.heap.size, 0, none⟩), .pointer (some ⟨w.heap.size + 1, 0, none⟩), .pointer (some ⟨w.heap.size + 1 + 1, 0, none⟩), .pointer (some ⟨w.heap.size + 1 + 1 + 1, 0, none⟩), .pointer (some ⟨w5.heap.size, 0, none⟩), undef, v7, .pointer (some ⟨Bx, 0, none⟩), EP, .int .i64 0, .bool false, EP, .slice (some ⟨b2, i2, none⟩) (exprs p).length qx, .int .i64 (exprs p).length, .int .i64 k, v16, v17, v18, v19, v20, x.v, undef, undef, undef, undef, undef, undef, undef, undef, v30], defers := [] })
        (fun x a' s X Y row ⟨Bx, v7, v16, v17, v18, v19, v20, v30, h1, h2⟩ hg hr => ⟨Bx, v7, v16, v17, v18, v19, v20, v30, own_cells (k := Bx) (o := fun (_ : Unit) => exO x.e x.a x.c) (fun _ => rfl) () X Y row h1 hg hr, h2⟩) ?assign ?body ?done ?stop
      case assign =>
        rintro l pre x W K ⟨⟨⟨⟨hc, hp⟩, hz⟩, hO⟩, hM⟩ hKK
        have HKK := Lib.hid hKK
        have HX : Hid (∀ Y, W.alloc (exO x.e x.a x.c) = Y → KeepsFrom W0.heap.size W Y ∧ KC (some w5.heap.size) W0.heap.size W0.heap.size W Y ∧ ((((Y.heap[w5.heap.size]? = some (.cells #[.int .i64 ((lenN (exprs p) k + pre.length : Nat) : Int)] 3) ∧ (∀ x ∈ pre, isN x.op = false)) ∧ W0.heap.size ≤ Y.heap.size) ∧ OB w5.heap.size w7 Y) ∧ Marks w.heap.size ds Y) ∧ Y.heap[W.heap.size]? = some (exO x.e x.a x.c)) := by
          rintro Y rfl
          have hal : ∀ (k : Nat) (o : Obj), W.heap[k]? = some o → (W.alloc (exO x.e x.a x.c)).heap[k]? = some o := fun k o h => (Below.heap_alloc _ _ _ (Array.getElem?_eq_some_iff.1 h).1).trans h
          exact ⟨(KeepsOthers.alloc _ _).from _, KC.alloc W hz _, ⟨⟨⟨⟨hal _ _ hc, hp⟩, by simp; omega⟩, hO.trans (OB.of_below (below_box W _))⟩, hM.kept fun k o h _ => hal k o h⟩, World.alloc_heap_new W _⟩
        clear hc hp hz hO hM hKK
        unfold exO at HX
        unfold Nd.v exV
        gi_wp2
        obtain ⟨h1, h2, h3, h4⟩ := HX.out _ rfl
        exact HKK.out _ _ h1 h2 h3 ⟨W.heap.size, _, _, _, _, _, _, _, h4, rfl⟩
      case body =>
        rintro l pre x a' W hl ⟨r, hr⟩ ⟨⟨⟨⟨hc, hp⟩, hz⟩, hO⟩, hM⟩ ⟨Bx, v7, v16, v17, v18, v19, v20, v30, bX, rfl⟩ hlt
        have HC := Lib.hid hc
        have HP := Lib.hid hp
        have HZ := Lib.hid hz
        have HO := Lib.hid hO
        have HM := Lib.hid hM
        have x0 : W.cell? ⟨Bx, 0, none⟩ = some (.int .i64 x.e.op) := cell_blk bX 0
        have hth := HT7.out.kept2 hO (by have := HZ5.out; omega) (by have := HZ5.out; omega) (by have := HZ5.out; omega)
        have HTh := Lib.hid hth
        have q1 : W.cell? ⟨w.heap.size + 1, 0, none⟩ = some (.int .i64 0) := cell_blk hth.c1 0
        have q2 : W.cell? ⟨w.heap.size + 1 + 1, 0, none⟩ = some (.int .i64 0) := cell_blk hth.c2 0
        have q3 : W.cell? ⟨w.heap.size + 1 + 1 + 1, 0, none⟩ = some (.bool false) := cell_blk hth.c3 0
        have r1 := frozen_blk hth.c1
        have r2 := frozen_blk hth.c2
        have r3 := frozen_blk hth.c3
        have q5 : W.cell? ⟨w5.heap.size, 0, none⟩ = some (.int .i64 ((lenN (exprs p) k + pre.length : Nat) : Int)) := cell_blk hc 0
        have r5 := frozen_blk hc
        have hbw : Below w.heap.size w W := HB7.out.trans (hO.below (by have := HZ5.out; omega) HB7.out.size)
        have HBW := Lib.hid hbw
        have HI1 := Lib.hid (fun (w' : World) => oisN_any x.e.op w')
        have hnn : lenN (exprs p) k + pre.length ≤ 400 := by have := HLK.out; omega
        have HNN : Hid ((((lenN (exprs p) k + pre.length : Nat) : Int) + 1) = ((lenN (exprs p) k + (pre ++ [x]).length : Nat) : Int)) := by
          show _ = _
          simp only [List.length_append, List.length_cons, List.length_nil]
          omega
        generalize hnq : lenN (exprs p) k + pre.length = nn at *
        have HNQ := Lib.hid hnq
        clear hnq
        have hnn0 : (0 : Int) ≤ (nn : Int) := by omega
        have hnn1 : (nn : Int) ≤ 400 := by omega
        obtain ⟨b, hb⟩ : ∃ b, isN x.e.op = b := ⟨_, rfl⟩
        rw [hb] at HI1
        have HBD : Hid (isN x.op = b) := hb
        clear hc hp hz hO hM bX hr hl hlt hth hbw hb
        cases b with
        | true =>
          have HNc : Hid (w.heap.size + 1 + 1 + 1 < w5.heap.size) := by have := HZ5.out; show _ < _; omega
          gi_wp2_with (refine ⟨trivial, ?_⟩; gi_at_call 20; refine (CallsIn.inRound l (callsIn_wide.2 (HI1.out _))).mono ?_; rintro e' w' ⟨rfl, rfl⟩)
          have hmx : Tryz.prog.follows .mixedOrders = true := by kernel_rfl
          have n1 : ¬ (w5.heap.size = w.heap.size + 1) := by have := HZ5.out; omega
          have n2 : ¬ (w.heap.size + 1 = w5.heap.size) := by have := HZ5.out; omega
          gi_region_with_o (fail)
          all_goals gi_wp2
          all_goals (try go_bits)
          all_goals
            have h3 : Three w.heap.size (.int .i64 x.e.op) (.int .i64 (nn : Int)) (.bool true) 3 3 4 _ := HTh.out.set
            refine ⟨((set3_others W).trans (KeepsOthers.drew _)).from _, ⟨⟨rfl, (set3_below' HBW.out (Nat.le_refl _)).drew⟩, HM.out.kept (fun k o h ho => ((set3_others W).trans (KeepsOthers.drew _)).same k o h ho)⟩, pre, x, ⟨rfl, HBD.out, HP.out⟩, ?_⟩
            rw [HNQ.out]
            exact ⟨h3.c1, h3.c2, h3.c3⟩
        | false =>
          gi_wp2_with (refine ⟨trivial, ?_⟩; gi_at_call 20; refine (CallsIn.inRound l (callsIn_wide.2 (HI1.out _))).mono ?_; rintro e' w' ⟨rfl, rfl⟩)
          rw [HNN.out]
          exact ⟨(KeepsOthers.setCell _ _ _).from _, KC.setCell W (by have := HZ7.out; omega) _, ⟨⟨⟨⟨set_blk HC.out, fun y hy => (List.mem_append.1 hy).elim (HP.out y) (fun e' => by rw [List.mem_singleton.1 e']; exact HBD.out)⟩, Nat.le_trans HZ.out (KeepsOthers.setCell W _ _).size⟩, HO.out.trans (OB.set W _)⟩, HM.out.kept (fun k o h ho => (KeepsOthers.setCell W _ _).same k o h ho)⟩⟩
      case done =>
        rintro D ys W hD hys ⟨⟨⟨⟨hc, hp⟩, hz⟩, hO⟩, hM⟩ hKD
        have HF : Hid (FR w w7 w5.heap.size (exprs p) (k + 1) (D :: ds) W) := by
          have hys' : ys.map Nd.op = ops (exprs p)[k] := by rw [HEK.out]; exact hys
          refine ⟨by have := HLT.out; omega, noneN_next HLT.out HREL.out.non hys' hp, hO, ?_, hM.cons ?_ hKD ?_⟩
          · rw [lenN_next HLT.out hys']; exact hc
          · have := HBB.out.size; have := HB7.out.size; omega
          · intro y hy; have := HREL.out.marks.lt y hy; omega
        clear hys hc hp hz hO hM hKD
        gi_wp2
        have hk1 : ((k + 1 : Nat) : Int) = (k : Int) + 1 := by omega
        refine ⟨⟨k + 1, D :: ds, ?u7, ?u16, ?u17, ?u18, ?u19, ?u20, ?u30, HF.out, ?fr⟩, ?ms⟩
        case fr => rw [hk1]; rfl
        case ms => simp [intOf]; omega
      case stop =>
        rintro D c pre W hD hpre ⟨⟨⟨rfl, hB⟩, hM⟩, pre', x, ⟨rfl, hx, hn⟩, hT⟩ hKD
        have hpre2 : (pre' ++ [x]).map Nd.op <+: ops (exprs p)[k] := by rw [HEK.out]; exact hpre
        have hst := stop_at (l := exprs p) hlt HREL.out.non hpre2 hn hx
        have HV : Hid (R = (x.op, ((lenN (exprs p) k + pre'.length : Nat) : Int), true)) := HR.out.trans hst
        have HM2 : Hid (Marks w.heap.size (D :: ds) W) := hM.cons (by have := HBB.out.size; have := HB7.out.size; omega) hKD (fun y hy => by have := HREL.out.marks.lt y hy; omega)
        have HB := Lib.hid hB
        have HT := Lib.hid hT
        clear hst hB hM hT hKD hpre hpre2 hn hx
        gi_wp2
        refine leave_first (R := R) (w := w) (D :: ds) HM2.out ?_ HB.out
        rw [HV.out]
        exact HT.out
    · have hend := end_at (by omega) hrel.non
      have HV : Hid (R = (0, 0, false)) := HR.out.trans hend
      have hth := HT7.out.kept2 hrel.ob (by have := HZ5.out; omega) (by have := HZ5.out; omega) (by have := HZ5.out; omega)
      have HTh := Lib.hid hth
      have q1 : wr.cell? ⟨w.heap.size + 1, 0, none⟩ = some (.int .i64 0) := cell_blk hth.c1 0
      have q2 : wr.cell? ⟨w.heap.size + 1 + 1, 0, none⟩ = some (.int .i64 0) := cell_blk hth.c2 0
      have q3 : wr.cell? ⟨w.heap.size + 1 + 1 + 1, 0, none⟩ = some (.bool false) := cell_blk hth.c3 0
      have r1 := frozen_blk hth.c1
      have r2 := frozen_blk hth.c2
      have r3 := frozen_blk hth.c3
      have HBW : Hid (Below w.heap.size w wr) := HB7.out.trans (hrel.ob.below (by have := HZ5.out; omega) HB7.out.size)
      have HM := Lib.hid hrel.marks
      clear hrel hth hend
      gi_wp2
      refine leave_first (R := R) (w := w) ds (HM.out.kept (fun k o h ho => (set3_others wr).same k o h ho)) ?_ ?_
      · rw [HV.out]; exact HTh.out.set
      · exact set3_below' HBW.out (Nat.le_refl _)
end Go.Proofs.YtkjefigebdbkaaaGreatDoor.N
