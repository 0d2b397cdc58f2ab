/-
  Trees that a call builds: rows that it owns, with what hangs on their elements in blocks of its own.
  What the program's function copiedExpr of layer 8 returns: contracts, one a function value.
  What the reference of layer 8 returns: Small: its contract.
  What the reference of layer 8 returns: EqualBody, Equal: contracts.
  What the program's functions of layer 8 return: Rename's function value, copiedStmts: contracts.
-/
import Derived.Test.YtkjefigebdbkaaaDoorM06
import Derived.Test.YtkjefigebdbkaaaDoorM05
import Derived.Laws.OwnMore
import Derived.Test.YtkjefigebdbkaaaDoorM03
import Derived.Deep.AppendLies
import Derived.Deep.RegionWith
import Derived.Deep.Cut
import Derived.Deep.CutRange
namespace Go.Proofs.YtkjefigebdbkaaaDoor.A
open Go.RowKit
open L (Str isName prt size_len below_2 below_box ret_bool ret_int)

/-! ### a world without some of its blocks -/

open Classical in
noncomputable def hollow (Z : Nat → Prop) (w : World) : World := { w with heap := w.heap.mapIdx fun k o => if Z k then .cells #[] 0 else o }
theorem hollow_cell (Z : Nat → Prop) (w : World) (b i : Nat) (v : Value) : (hollow Z w).cell? ⟨b, i, none⟩ = some v ↔ ¬ Z b ∧ w.cell? ⟨b, i, none⟩ = some v := by
  unfold World.cell? hollow
  simp only [Array.getElem?_mapIdx]
  by_cases hz : Z b
  · cases h : w.heap[b]? with
    | none => simp
    | some o => simp [hz]
  · cases h : w.heap[b]? with
    | none => simp
    | some o => simp [hz]
/-- what is read in one world is read in the other -/
def Sub (w w' : World) : Prop := ∀ b i v, w.cell? ⟨b, i, none⟩ = some v → w'.cell? ⟨b, i, none⟩ = some v
mutual
theorem ExAt.sub {w w' : World} (h : Sub w w') : ∀ (e : Ex) {b i : Nat}, ExAt w e b i → ExAt w' e b i
  | .mk o n s l, b, i, hh => by
    rw [ExAt] at hh ⊢
    obtain ⟨h0, h1, h2, a, c, h3, h4⟩ := hh
    refine ⟨h _ _ _ h0, h _ _ _ h1, h _ _ _ h2, a, c, h _ _ _ h3, ?_⟩
    rcases h4 with h4 | ⟨b2, i2, ha, h5⟩
    · exact Or.inl h4
    · exact Or.inr ⟨b2, i2, ha, ExsAt.sub h l h5⟩
theorem ExsAt.sub {w w' : World} (h : Sub w w') : ∀ (l : List Ex) {b i : Nat}, ExsAt w l b i → ExsAt w' l b i
  | [], _, _, _ => by rw [ExsAt]; trivial
  | e :: r, b, i, hh => by
    rw [ExsAt] at hh ⊢
    exact ⟨ExAt.sub h e hh.1, ExsAt.sub h r hh.2⟩
end
theorem Kids.sub {w w' : World} (h : Sub w w') {a : Option Addr} {l : List Ex} (hk : Kids w a l) : Kids w' a l := by
  rcases hk with hk | ⟨b, i, ha, hk⟩
  · exact Or.inl hk
  · exact Or.inr ⟨b, i, ha, hk.sub h⟩
mutual
theorem StAt.sub {w w' : World} (h : Sub w w') : ∀ (s : St) {b i : Nat}, StAt w s b i → StAt w' s b i
  | .mk o nm mx a b bd el, blk, i, hh => by
    rw [StAt] at hh ⊢
    obtain ⟨h0, h1, h2, h3, h4, ⟨a5, c5, h5, g5⟩, ⟨a6, c6, h6, g6⟩⟩ := hh
    refine ⟨h _ _ _ h0, h _ _ _ h1, h _ _ _ h2, h3.sub h, h4.sub h, ⟨a5, c5, h _ _ _ h5, ?_⟩, ⟨a6, c6, h _ _ _ h6, ?_⟩⟩
    · rcases g5 with g | ⟨b2, i2, ha, g⟩
      · exact Or.inl g
      · exact Or.inr ⟨b2, i2, ha, StsAt.sub h bd g⟩
    · rcases g6 with g | ⟨b2, i2, ha, g⟩
      · exact Or.inl g
      · exact Or.inr ⟨b2, i2, ha, StsAt.sub h el g⟩
theorem StsAt.sub {w w' : World} (h : Sub w w') : ∀ (l : List St) {b i : Nat}, StsAt w l b i → StsAt w' l b i
  | [], _, _, _ => by rw [StsAt]; trivial
  | e :: r, b, i, hh => by
    rw [StsAt] at hh ⊢
    exact ⟨StAt.sub h e hh.1, StsAt.sub h r hh.2⟩
end
theorem Bodies.sub {w w' : World} (h : Sub w w') {a : Option Addr} {l : List St} (hk : Bodies w a l) : Bodies w' a l := by
  rcases hk with hk | ⟨b, i, ha, hk⟩
  · exact Or.inl hk
  · exact Or.inr ⟨b, i, ha, hk.sub h⟩
theorem hollow_now (Z : Nat → Prop) (w : World) : Sub (hollow Z w) w := fun b i v h => ((hollow_cell Z w b i v).1 h).2
/-- blocks outside of Z have stayed; what is left out now was left out before, or is new -/
structure Stays (Z Z' : Nat → Prop) (w w' : World) : Prop where
  block : ∀ k, k < w.heap.size → ¬ Z k → w'.heap[k]? = w.heap[k]?
  out : ∀ k, Z' k → Z k ∨ w.heap.size ≤ k
theorem hollow_next {Z Z' : Nat → Prop} {w w' : World} (h : Stays Z Z' w w') : Sub (hollow Z w) (hollow Z' w') := by
  intro b i v hh
  obtain ⟨hz, hc⟩ := (hollow_cell Z w b i v).1 hh
  have hlt := block_lt_of_cell hc
  have hnz : ¬ Z' b := fun h2 => by
    rcases h.out b h2 with h3 | h3
    · exact hz h3
    · have h4 : b < w.heap.size := hlt
      omega
  exact (hollow_cell Z' w' b i v).2 ⟨hnz, (World.cell?_of_block (w := w) (h.block b hlt hz)).trans hc⟩
theorem Stays.below {Z Z' : Nat → Prop} {w w' : World} (hb : Below w.heap.size w w') (h : ∀ k, Z' k → Z k ∨ w.heap.size ≤ k) : Stays Z Z' w w' := ⟨fun k hk _ => hb.block k hk, h⟩
/-- the expressions of a slice, in blocks that Z leaves out -/
def KidsF (Z : Nat → Prop) (w : World) (a : Option Addr) (l : List Ex) : Prop := Kids (hollow Z w) a l
def BodiesF (Z : Nat → Prop) (w : World) (a : Option Addr) (l : List St) : Prop := Bodies (hollow Z w) a l
theorem KidsF.now {Z : Nat → Prop} {w : World} {a : Option Addr} {l : List Ex} (h : KidsF Z w a l) : Kids w a l := Kids.sub (hollow_now Z w) h
theorem BodiesF.now {Z : Nat → Prop} {w : World} {a : Option Addr} {l : List St} (h : BodiesF Z w a l) : Bodies w a l := Bodies.sub (hollow_now Z w) h
theorem KidsF.next {Z Z' : Nat → Prop} {w w' : World} {a : Option Addr} {l : List Ex} (h : KidsF Z w a l) (hs : Stays Z Z' w w') : KidsF Z' w' a l := Kids.sub (hollow_next hs) h
theorem BodiesF.next {Z Z' : Nat → Prop} {w w' : World} {a : Option Addr} {l : List St} (h : BodiesF Z w a l) (hs : Stays Z Z' w w') : BodiesF Z' w' a l := Bodies.sub (hollow_next hs) h

/-! ### rows -/

/-- a kind of elements: their cells, and what hangs on them -/
structure RowK (α : Type) where
  f : α → List Value
  size : Nat
  bytes : Nat
  t : TypeId
  e : TypeId
  z : Value
  inn : (Nat → Prop) → World → α → Prop
  und : Tryd.prog.underlying t = some (.slice e)
  info : (Tryd.prog.info? e).map (fun i => (i.zero, i.size, i.bytes)) = some (some z, size, bytes)
  len : ∀ x, (f x).length = size
  one : ∀ x, ∀ u ∈ f x, u.oneCell' = true
  pos : 0 < size
  zs : z.cells.size = size
  small : bytes ≤ 1000
  next : ∀ {Z Z' : Nat → Prop} {w w' : World} {x : α}, inn Z w x → Stays Z Z' w w' → inn Z' w' x
namespace RowK
variable {α : Type} (K : RowK α)
def cs (l : List α) : List Value := l.flatMap K.f
theorem cs_len : ∀ l : List α, (K.cs l).length = l.length * K.size
  | [] => by unfold cs; simp
  | x :: l => by
    have := cs_len l
    unfold cs at *
    rw [List.flatMap_cons, List.length_append, List.length_cons, this, K.len, Nat.add_one_mul]
    omega
theorem cs_app (a b : List α) : K.cs (a ++ b) = K.cs a ++ K.cs b := List.flatMap_append
theorem cs_one (x : α) : K.cs [x] = K.f x := by unfold cs; simp
theorem cs_get : ∀ (l : List α) (j : Nat) (hj : j < l.length) (r : Nat), r < K.size → (K.cs l)[j * K.size + r]? = (K.f l[j])[r]?
  | x :: l, 0, _, r, hr => by
    show (List.flatMap K.f (x :: l))[_]? = _
    rw [List.flatMap_cons, List.getElem?_append_left (by rw [K.len]; omega)]
    simp
  | x :: l, j + 1, hj, r, hr => by
    show (List.flatMap K.f (x :: l))[_]? = _
    rw [List.flatMap_cons, List.getElem?_append_right (by rw [K.len, Nat.add_one_mul]; omega), K.len, show (j + 1) * K.size + r - K.size = j * K.size + r by rw [Nat.add_one_mul]; omega]
    exact cs_get l j (by simpa using hj) r hr
/-- an element appended -/
theorem wpList {w : World} {ops : Array Oper} {rest : List Oper} {o : Oper} {a : Act} {Q : Exit → Act → World → Prop} (hgd : o.guard = none) (s x : Operand)
    (ho : o.op = .call { callee := .builtin .append, args := #[s, x], argTypes := #[K.t, K.t] })
    (base : Nat) (v : Value) (l : List α) (hs : a.eval s = v) (hown : w.ownsRow base K.e K.size v l.length (K.cs l)) (y : α) (cs : List Value) (hcs : cs = K.f y)
    (g : Nat) (hx : a.eval x = .slice (some ⟨g, 0, none⟩) 1 1) (hg : g = w.heap.size) (hn : l.length ≤ 1000000) (hbase : base ≤ w.heap.size)
    (h : ∀ g' cap w', w'.ownsRow base K.e K.size (.slice (some ⟨g', 0, none⟩) (l.length + 1) cap) (l ++ [y]).length (K.cs (l ++ [y])) → (w.alloc (.cells cs.toArray K.e)).grownBy w' v.ownBlock → (v.ownBlock = some g' ∨ g' = w.heap.size + 1) → Go.wpList Tryd.prog ops Q rest (a.put o.dst (.slice (some ⟨g', 0, none⟩) (l.length + 1) cap)) w') :
    Go.wpList Tryd.prog ops Q (o :: rest) a (w.alloc (.cells cs.toArray K.e)) := by
  subst hg
  obtain ⟨i0, hi, hz0, hz1, hz2⟩ := info_parts3 K.info
  have hb : (l.length + 1) * K.bytes ≤ 140737488355328 := Nat.le_trans (Nat.mul_le_mul (show l.length + 1 ≤ 1000001 by omega) K.small) (by decide)
  refine wpList_append_lies _ hgd s x K.t ho base K.e i0 _ K.size K.bytes K.und hi hz0 hz1 hz2 K.zs K.pos v l.length (K.cs l) hs (hown.alloc _) ⟨w.heap.size, 0, none⟩ 1 1 cs hx (by rw [hcs, K.len]; omega) (cells_row _ _ _) (by rw [hcs]; exact K.one y) (by decide) (by unfold maxLen; omega) hb (by simp; omega) (w.heap.size + 1) (by simp) ?_
  intro g' cap w' h1 h2 h3 _
  refine h g' cap w' ?_ h2 h3
  rw [List.length_append, K.cs_app, K.cs_one, ← hcs]
  exact h1
/-- the same at a step of a region that draws its order -/
theorem step {w : World} {ops : Array Oper} {o : Oper} {a : Act} {Kk : Act → World → Prop} {Q : Exit → Act → World → Prop} {E : Prop} (hgd : o.guard = none) (s x : Operand)
    (ho : o.op = .call { callee := .builtin .append, args := #[s, x], argTypes := #[K.t, K.t] })
    (base : Nat) (v : Value) (l : List α) (hs : a.eval s = v) (hown : w.ownsRow base K.e K.size v l.length (K.cs l)) (y : α) (cs : List Value) (hcs : cs = K.f y)
    (g : Nat) (hx : a.eval x = .slice (some ⟨g, 0, none⟩) 1 1) (hg : g = w.heap.size) (hn : l.length ≤ 1000000) (hbase : base ≤ w.heap.size)
    (h : ∀ g' cap w', w'.ownsRow base K.e K.size (.slice (some ⟨g', 0, none⟩) (l.length + 1) cap) (l ++ [y]).length (K.cs (l ++ [y])) → (w.alloc (.cells cs.toArray K.e)).grownBy w' v.ownBlock → (v.ownBlock = some g' ∨ g' = w.heap.size + 1) → Kk (a.put o.dst (.slice (some ⟨g', 0, none⟩) (l.length + 1) cap)) w') :
    if Region.wanted o (yielded ops a.tmps) = true then Oper.wp Tryd.prog o a (w.alloc (.cells cs.toArray K.e)) Kk Q else E := by
  subst hg
  obtain ⟨i0, hi, hz0, hz1, hz2⟩ := info_parts3 K.info
  have hb : (l.length + 1) * K.bytes ≤ 140737488355328 := Nat.le_trans (Nat.mul_le_mul (show l.length + 1 ≤ 1000001 by omega) K.small) (by decide)
  refine step_append_lies _ hgd s x K.t ho base K.e i0 _ K.size K.bytes K.und hi hz0 hz1 hz2 K.zs K.pos v l.length (K.cs l) hs (hown.alloc _) ⟨w.heap.size, 0, none⟩ 1 1 cs hx (by rw [hcs, K.len]; omega) (cells_row _ _ _) (by rw [hcs]; exact K.one y) (by decide) (by unfold maxLen; omega) hb (by simp; omega) (w.heap.size + 1) (by simp) ?_
  intro g' cap w' h1 h2 h3 _
  refine h g' cap w' ?_ h2 h3
  rw [List.length_append, K.cs_app, K.cs_one, ← hcs]
  exact h1
end RowK
/-- the call owns this row; what hangs on its elements lies in blocks that Z leaves out, and not in the row itself -/
structure Own1 {α : Type} (K : RowK α) (w : World) (b0 : Nat) (Z : Nat → Prop) (v : Value) (l : List α) : Prop where
  row : w.ownsRow b0 K.e K.size v l.length (K.cs l)
  off : ∀ g, v.ownBlock = some g → ¬ Z g
  each : ∀ x ∈ l, K.inn (fun k => Z k ∨ v.ownBlock = some k) w x
namespace Own1
variable {α : Type} {K : RowK α} {w w' : World} {b0 : Nat} {Z Z' : Nat → Prop} {v : Value} {l : List α}
theorem nil : Own1 K w b0 Z (.slice none 0 0) [] := ⟨⟨by simp [RowK.cs], Or.inl ⟨rfl, rfl⟩⟩, (fun g h => by cases h), (fun x h => by cases h)⟩
theorem shape (h : Own1 K w b0 Z v l) : ∃ p q, v = .slice p l.length q ∧ l.length ≤ q := by
  rcases h.row.2 with ⟨hv, h0⟩ | ⟨g, cap, cur, hv, _, _, hc, _⟩
  · exact ⟨none, 0, by rw [hv, h0], by omega⟩
  · exact ⟨_, cap, hv, hc⟩
theorem lt (h : Own1 K w b0 Z v l) : ∀ g, v.ownBlock = some g → b0 ≤ g ∧ g < w.heap.size := fun g hg => World.ownsRow.lt h.row g hg
theorem next (h : Own1 K w b0 Z v l) (hs : Stays Z Z' w w') : Own1 K w' b0 Z' v l := by
  have hZ : ∀ g, v.ownBlock = some g → ¬ Z' g := fun g hg hz => by
    rcases hs.out g hz with h1 | h1
    · exact h.off g hg h1
    · have := (h.lt g hg).2; omega
  refine ⟨⟨h.row.1, ?_⟩, hZ, fun x hx => K.next (h.each x hx) ⟨fun k hk hz => hs.block k hk (fun h2 => hz (Or.inl h2)), fun k hk => ?_⟩⟩
  · rcases h.row.2 with h0 | ⟨g, cap, cur, hv, hB, hg, r⟩
    · exact Or.inl h0
    · exact Or.inr ⟨g, cap, cur, hv, hB, (hs.block g (Array.getElem?_eq_some_iff.1 hg).1 (h.off g (by rw [hv]; rfl))).trans hg, r⟩
  · rcases hk with hk | hk
    · rcases hs.out k hk with h1 | h1
      · exact Or.inl (Or.inl h1)
      · exact Or.inr h1
    · exact Or.inl (Or.inr hk)
theorem below (h : Own1 K w b0 Z v l) (hb : Below w.heap.size w w') : Own1 K w' b0 Z v l := h.next (Stays.below hb fun _ hk => Or.inl hk)
theorem push {o : Obj} {y : α} {g' cap : Nat} (h : Own1 K w b0 Z v l) (hy : K.inn (fun k => Z k ∨ v.ownBlock = some k) w y) (hZ : ∀ k, Z k → k < w.heap.size)
    (h1 : w'.ownsRow b0 K.e K.size (.slice (some ⟨g', 0, none⟩) (l.length + 1) cap) (l ++ [y]).length (K.cs (l ++ [y]))) (h2 : (w.alloc o).grownBy w' v.ownBlock) (h3 : v.ownBlock = some g' ∨ g' = w.heap.size + 1) :
    Own1 K w' b0 Z (.slice (some ⟨g', 0, none⟩) (l.length + 1) cap) (l ++ [y]) := by
  have hblk : ∀ k, k < w.heap.size → ¬ (Z k ∨ v.ownBlock = some k) → w'.heap[k]? = w.heap[k]? := fun k hk hz =>
    (h2.block k (by simp; omega) (fun e => hz (Or.inr e.symm))).trans (Below.heap_alloc w o k hk)
  have hout : ∀ k, (Z k ∨ (Value.slice (some ⟨g', 0, none⟩) (l.length + 1) cap).ownBlock = some k) → (Z k ∨ v.ownBlock = some k) ∨ w.heap.size ≤ k := by
    intro k hk
    rcases hk with hk | hk
    · exact Or.inl (Or.inl hk)
    · have hk2 : g' = k := by injection hk
      rcases h3 with h3 | h3
      · exact Or.inl (Or.inr (by rw [h3, hk2]))
      · exact Or.inr (by omega)
  refine ⟨h1, fun g hg hz => ?_, fun x hx => ?_⟩
  · have hk2 : g' = g := by injection hg
    rcases h3 with h3 | h3
    · exact h.off g (by rw [h3, hk2]) hz
    · have := hZ g hz; omega
  · rcases List.mem_append.1 hx with hx | hx
    · exact K.next (h.each x hx) ⟨hblk, hout⟩
    · rw [List.mem_singleton] at hx
      rw [hx]
      exact K.next hy ⟨hblk, hout⟩
theorem cell {p : Option Addr} {q : Nat} (h : Own1 K w b0 Z (.slice p l.length q) l) {j : Nat} (hj : j < l.length) : ∃ g, p = some ⟨g, 0, none⟩ ∧ ¬ Z g ∧ ∀ r, r < K.size → w.cell? ⟨g, j * K.size + r, none⟩ = (K.f l[j])[r]? := by
  rcases h.row.2 with ⟨hv, h0⟩ | ⟨g, cap, cur, hv, _⟩
  · omega
  · injection hv with h1 h2 h3
    subst h1
    refine ⟨g, rfl, h.off g rfl, fun r hr => ?_⟩
    have hlt : j * K.size + r < l.length * K.size := Nat.lt_of_lt_of_le (show j * K.size + r < (j + 1) * K.size by rw [Nat.add_one_mul]; omega) (Nat.mul_le_mul_right _ hj)
    rw [World.ownsRow.cellAt h.row (j * K.size + r) hlt]
    exact K.cs_get l j hj r hr
/-- the frame: of what lay below b0 nothing has turned -/
theorem frame {w0 : World} {o : Obj} (h : Own1 K w b0 Z v l) (hb : Below b0 w0 w) (hz : b0 ≤ w.heap.size) (h2 : (w.alloc o).grownBy w' v.ownBlock) : Below b0 w0 w' :=
  (hb.alloc hz o).grown h2 (by simp; omega) (fun g hg => (h.lt g hg).1)
end Own1

/-! ### expressions in rows -/

structure ET where
  e : Ex
  a : Option Addr
  c : Nat
theorem info_e : (Tryd.prog.info? 46).map (fun i => (i.zero, i.size, i.bytes)) = some (some (.agg #[.int .i64 0, .int .i64 0, .string ⟨#[]⟩, .slice none 0 0]), 4, 56) := by kernel_rfl
def kE : RowK ET where
  f := fun x => [.int .i64 x.e.op, .int .i64 x.e.n, .string x.e.s, .slice x.a x.e.args.length x.c]
  size := 4
  bytes := 56
  t := 44
  e := 46
  z := .agg #[.int .i64 0, .int .i64 0, .string ⟨#[]⟩, .slice none 0 0]
  inn := fun Z w x => KidsF Z w x.a x.e.args
  und := Tryd.underlying44
  info := info_e
  len := fun _ => rfl
  one := fun x u hu => by simp at hu; rcases hu with rfl | rfl | rfl | rfl <;> rfl
  pos := by decide
  zs := rfl
  small := by decide
  next := fun h hs => KidsF.next h hs
theorem exs_of {W : World} {b : Nat} : ∀ (l : List ET) (i : Nat), (∀ j (h : j < l.length) r, r < 4 → W.cell? ⟨b, i + j * 4 + r, none⟩ = (kE.f l[j])[r]?) → (∀ x ∈ l, Kids W x.a x.e.args) → ExsAt W (l.map ET.e) b i
  | [], _, _, _ => by rw [List.map_nil, ExsAt]; trivial
  | x :: l, i, hc, hk => by
    rw [List.map_cons, ExsAt]
    refine ⟨?_, exs_of l (i + 4) (fun j hj r hr => ?_) fun y hy => hk y (List.mem_cons_of_mem _ hy)⟩
    · have h0 := hc 0 (by simp) 0 (by decide)
      have h1 := hc 0 (by simp) 1 (by decide)
      have h2 := hc 0 (by simp) 2 (by decide)
      have h3 := hc 0 (by simp) 3 (by decide)
      simp only [Nat.zero_mul, Nat.add_zero, List.getElem_cons_zero] at h0 h1 h2 h3
      have hk0 := hk x List.mem_cons_self
      obtain ⟨⟨o, n, s, args⟩, a, c⟩ := x
      rw [ExAt]
      exact ⟨h0, h1, h2, a, c, h3, hk0⟩
    · have := hc (j + 1) (by simpa using hj) r hr
      rw [show i + 4 + j * 4 + r = i + (j + 1) * 4 + r by omega]
      simpa using this
/-- the row as expressions in memory -/
theorem Own1.kids {w : World} {b0 : Nat} {Z : Nat → Prop} {p : Option Addr} {q : Nat} {l : List ET} (h : Own1 kE w b0 Z (.slice p l.length q) l) : KidsF Z w p (l.map ET.e) := by
  by_cases h0 : l = []
  · left; rw [h0]; rfl
  · have hpos : 0 < l.length := List.length_pos_iff.2 h0
    obtain ⟨g, rfl, hz, _⟩ := h.cell hpos
    refine Or.inr ⟨g, 0, rfl, exs_of l 0 (fun j hj r hr => ?_) fun x hx => ?_⟩
    · obtain ⟨g2, hg, hz2, hc⟩ := h.cell hj
      cases hg
      have hr2 : r < (kE.f l[j]).length := by rw [kE.len]; exact hr
      have hcr := hc r hr
      rw [List.getElem?_eq_getElem hr2] at hcr ⊢
      rw [Nat.zero_add]
      exact (hollow_cell Z w _ _ _).2 ⟨hz, hcr⟩
    · exact KidsF.next (Z' := Z) (h.each x hx) ⟨fun _ _ _ => rfl, fun k hk => Or.inl (Or.inl hk)⟩
end Go.Proofs.YtkjefigebdbkaaaDoor.A
namespace Go.Proofs.YtkjefigebdbkaaaDoor.A
open Go.RowKit
open L (Str isName prt size_len below_2 below_box ret_bool ret_int eql_eq bytes_eq)

/-- block b holds these cells, and may be written -/
def Bx (w : World) (b : Nat) (cs : Array Value) (t : TypeId) : Prop := w.heap[b]? = some (.cells cs t)
namespace Bx
variable {w w' : World} {b : Nat} {cs : Array Value} {t : TypeId}
theorem new (w : World) (cs : Array Value) (t : TypeId) : Bx (w.alloc (.cells cs t)) w.heap.size cs t := by
  show (w.heap.push _)[w.heap.size]? = _
  simp
theorem lt (h : Bx w b cs t) : b < w.heap.size := (Array.getElem?_eq_some_iff.1 h).1
theorem keep (h : Bx w b cs t) (hk : w'.heap[b]? = w.heap[b]?) : Bx w' b cs t := hk.trans h
theorem below (h : Bx w b cs t) (hb : Below w.heap.size w w') : Bx w' b cs t := (hb.block b h.lt).trans h
theorem cell (h : Bx w b cs t) (i : Nat) : w.cell? ⟨b, i, none⟩ = cs[i]? := by
  have h' : w.heap[b]? = some (.cells cs t) := h
  simp [World.cell?, h']
theorem free (h : Bx w b cs t) (i : Nat) : w.frozen? ⟨b, i, none⟩ = false := by
  have h' : w.heap[b]? = some (.cells cs t) := h
  simp [World.frozen?, h']
theorem set (h : Bx w b cs t) (i : Nat) {u : Value} : Bx (w.setCell ⟨b, i, none⟩ u) b (cs.setIfInBounds i u) t := by
  have h' : w.heap[b]? = some (.cells cs t) := h
  show (w.setCell ⟨b, i, none⟩ u).heap[b]? = _
  simp [World.setCell, Array.getElem?_modify, h']
end Bx
theorem cEs_len : ∀ l : List Ex, l.length ≤ cEs l
  | [] => Nat.zero_le _
  | e :: r => by
    have := cEs_len r
    have h := cE_parts e
    rw [cEs, List.length_cons]
    omega
theorem renEs_map (f t : ByteArray) : ∀ l : List Ex, renEs f t l = l.map (renE f t)
  | [] => rfl
  | e :: r => by rw [renEs, List.map_cons, renEs_map f t r]
/-- an expression that a call made, in blocks of its own -/
def GivesE (w : World) (x : Ex) (e' : Ending) (w' : World) : Prop := ∃ p q, e' = .returned (exV x p q) ∧ KidsF (fun k => k < w.heap.size) w' p x.args ∧ Below w.heap.size w w'
/-- what the function value returns that copiedExpr is given -/
structure NamC (w0 : World) (f t : ByteArray) : Prop where
  call : ∀ (x : ByteArray) (w : World), x.size ≤ 281474976710656 → Below w0.heap.size w0 w → Calls Tryd.prog 42 #[.string x] w fun e w' => e = .returned (.string (swap f t x)) ∧ Below w.heap.size w w'
def QCC (w0 : World) (f t : ByteArray) (e : Ex) : Prop := ∀ (a : Option Addr) (c : Nat) (w : World), okE e → cE e ≤ 1000000 → Kids w a e.args → Below w0.heap.size w0 w →
  Calls Tryd.prog 111 #[exV e a c, .func (Fn.func 42) #[] #[]] w fun e' w' => GivesE w (renE f t e) e' w'
set_option maxHeartbeats 8000000 in
set_option maxRecDepth 100000 in
theorem ocopiedExprC_any {w0 : World} {f t : ByteArray} (H : NamC w0 f t) : ∀ e, QCC w0 f t e := by
  refine Ex.ind (P := QCC w0 f t) ?_
  intro o n s l ih a c w hok hsz hK hb0
  have hok' := hok
  obtain ⟨_, hl, hoks⟩ := okE_open hok
  have hsz2 : 1 + s.size / 64 + cEs l ≤ 1000000 := by rw [cE] at hsz; exact hsz
  have hss : s.size ≤ 281474976710656 := by omega
  have HS : Hid (∀ k (h : k < l.length), cE l[k] ≤ 1000000) := fun k h => by have := cEs_get h; omega
  have hlm : l.length ≤ 1000000 := by have := cEs_len l; omega
  have HIH := Lib.hid ih
  have HOK := Lib.hid hoks
  have HK : Hid (Kids w a l) := hK
  have HB0 := Lib.hid hb0
  have hzz := hb0.size
  have hbx1 := Bx.new w #[.int .i64 o, .int .i64 n, .string s, .slice a l.length c] 46
  have hbx2 := Bx.new (w.alloc (exO (.mk o n s l) a c)) #[.int .i64 0, .int .i64 0, .string ⟨#[]⟩, .slice none 0 0] 46
  have hw2 := below_2 (below_box w (exO (.mk o n s l) a c)) (below_box (w.alloc (exO (.mk o n s l) a c)) (.cells #[.int .i64 0, .int .i64 0, .string ⟨#[]⟩, .slice none 0 0] 46))
  have hP4 : (w.alloc (exO (.mk o n s l) a c)).heap.size = w.heap.size + 1 := by simp
  have hsz3 : ((w.alloc (exO (.mk o n s l) a c)).alloc (.cells #[.int .i64 0, .int .i64 0, .string ⟨#[]⟩, .slice none 0 0] 46)).heap.size = w.heap.size + 2 := by simp
  rw [hP4] at hbx2
  have hbx1' := hbx1.below (below_box _ (.cells #[.int .i64 0, .int .i64 0, .string ⟨#[]⟩, .slice none 0 0] 46)) 
  have hx : renE f t (.mk o n s l) = .mk o n (if o = 3 then swap f t s else s) (renEs f t l) := by rw [renE]
  rw [hx]
  obtain ⟨s', hs'⟩ : ∃ s', (if o = 3 then swap f t s else s) = s' := ⟨_, rfl⟩
  rw [hs']
  have HX1 := Lib.hid hbx1'
  have HX2 := Lib.hid hbx2
  have HW2 := Lib.hid hw2
  have HZ3 := Lib.hid hsz3
  -- what the two ways of making the name have in common
  have HCs : Hid (o = 3 → ∀ w', Below w.heap.size w w' → Calls Tryd.prog 42 #[.string s] w' fun e w'' => e = .returned (.string s') ∧ Below w'.heap.size w' w'') := fun h3 w' hb => by
    have := H.call s w' hss (hb0.trans (hb.mono hzz))
    rw [if_pos h3] at hs'
    rw [hs'] at this
    exact this
  have HCc : Hid (¬ o = 3 → ∀ w', Calls Tryd.prog 42 #[.string s] w' fun e w'' => e = .returned (.string s') ∧ Below w'.heap.size w' w'') := fun h3 w' => by
    have := L.oclone_any s hss w'
    rw [if_neg h3] at hs'
    rw [← hs']
    exact this
  obtain ⟨m, hm⟩ : ∃ m, l.length = m := ⟨_, rfl⟩
  have HL := Lib.hid hm
  simp only [exV_mk, exO_mk] at HX1 HX2 HW2 HZ3 ⊢
  rw [hm] at HX1 HX2 HW2 HZ3 hlm ⊢
  clear hok hok' hoks hsz hsz2 ih hK hb0 hbx1 hbx2 hbx1' hw2 hP4 hsz3 hx hs' hm H hl hss
  by_cases h3 : o = 3
  case' pos =>
    have b3 : (o == 3) = true := beq_iff_eq.2 h3
    have HC := Lib.hid (HCs.out h3 _ HW2.out)
  case' neg =>
    have b3 : (o == 3) = false := beq_eq_false_iff_ne.2 h3
    have HC := Lib.hid (HCc.out h3 ((w.alloc (.cells #[.int .i64 o, .int .i64 n, .string s, .slice a m c] 46)).alloc (.cells #[.int .i64 0, .int .i64 0, .string ⟨#[]⟩, .slice none 0 0] 46)))
  all_goals
    clear h3 HCs HCc
    go_enter Tryd.func111, Tryd.ntmps111
    go_wp2_with fail
    refine HC.out.mono ?_; rintro e' w3 ⟨rfl, hb3⟩
    have hlt1 : w.heap.size < ((w.alloc (.cells #[.int .i64 o, .int .i64 n, .string s, .slice a m c] 46)).alloc (.cells #[.int .i64 0, .int .i64 0, .string ⟨#[]⟩, .slice none 0 0] 46)).heap.size := by rw [HZ3.out]; omega
    have hX1 := HX1.out.below hb3
    have hX2 := HX2.out.below hb3
    have hzw3 : w.heap.size + 2 ≤ w3.heap.size := by have := hb3.size; have h2 := HZ3.out; omega
    have HWA : Hid (Below w.heap.size w (w3.setCell ⟨w.heap.size, 2, none⟩ (.string s'))) := (below_2 HW2.out hb3).setCell (Nat.le_refl _) _
    have HXA := Lib.hid (hX1.set 2 (u := .string s'))
    have HXB := Lib.hid (hX2.keep (Below.heap_setCell w3 ⟨w.heap.size, 2, none⟩ (.string s') (w.heap.size + 1) (by show w.heap.size + 1 ≠ w.heap.size; omega)))
    have c0 := hX1.cell 0
    have c1 := hX1.cell 1
    have c2 := hX1.cell 2
    have c3 := hX1.cell 3
    have f2 := hX1.free 2
    have HZW : Hid (w.heap.size + 2 ≤ (w3.setCell ⟨w.heap.size, 2, none⟩ (.string s')).heap.size) := by show _ ≤ _; simpa using hzw3
    simp at c0 c1 c2 c3
    clear hb3 hX1 hX2 hlt1
    go_wp2_with fail
    go_loopw [5, 23] (fun v i wr => ∃ (k : Nat) (lt : List ET) (p : Option Addr) (q : Nat), k ≤ m ∧ i = .int .i64 k ∧ v = .slice p lt.length q ∧ Hid (Own1 kE wr (w.heap.size + 2) (fun j => j < w.heap.size + 2) (.slice p lt.length q) lt) ∧ Hid (lt.map ET.e = (l.take k).map (renE f t)) ∧ Hid (Below (w.heap.size + 2) (w3.setCell ⟨w.heap.size, 2, none⟩ (.string s')) wr)) (fun _ i _ => m - (intOf i).toNat)
    case atStart => exact ⟨0, [], none, 0, Nat.zero_le _, rfl, rfl, Own1.nil, rfl, Below.refl _ _⟩
    case round =>
      obtain ⟨k, lt, p, q, hk, rfl, rfl, HO, HX, HB⟩ := hrel
      have HBB := Lib.hid (HWA.out.trans (HB.out.mono (Nat.le_add_right _ _)))
      have hll : lt.length ≤ k := by have := congrArg List.length HX.out; rw [List.length_map, List.length_map, List.length_take] at this; omega
      by_cases hlt : k < m
      · have hlx : k < l.length := by rw [HL.out]; exact hlt
        obtain ⟨b2, i2, rfl, hat⟩ := (HK.out.below HBB.out).open hlx
        obtain ⟨d0, d1, d2, a4, c4, d3, hk4⟩ := hat.open
        have hbx := below_box wr (exO l[k] a4 c4)
        have HC := Lib.hid (HIH.out k hlx a4 c4 _ (HOK.out.get k hlx) (HS.out k hlx) (hk4.below hbx) (HB0.out.trans ((HBB.out.trans (hbx.mono HBB.out.size)).mono hzz)))
        have HN : Hid ((l.take (k + 1)).map (renE f t) = (l.take k).map (renE f t) ++ [renE f t l[k]]) := by
          show _ = _
          rw [List.take_succ_eq_append_getElem hlx, List.map_append]; rfl
        have HBX := Lib.hid hbx
        have hzr : w.heap.size + 2 ≤ wr.heap.size := by have := HB.out.size; have := HZW.out; omega
        clear hat hk4 hbx
        generalize renE f t l[k] = y at HC HN
        unfold exV at HC
        unfold exO at HC HBX
        generalize l[k].args.length = m2 at *
        generalize l[k].op = o2 at *
        generalize l[k].n = n2 at *
        generalize l[k].s = s2 at *
        go_wp2_with fail
        refine HC.out.mono ?_; rintro e' w5 ⟨p5, q5, rfl, hk5, hb5⟩
        have HK5 := Lib.hid hk5
        have HB5 := Lib.hid (below_2 HBX.out hb5)
        have HO5 := Lib.hid (HO.out.below HB5.out)
        have hz5 := HB5.out.size
        have hzb : (wr.alloc (.cells #[.int .i64 o2, .int .i64 n2, .string s2, .slice a4 m2 c4] 46)).heap.size = wr.heap.size + 1 := by simp
        have HZB := Lib.hid hzb
        clear hk5 hb5 hzb
        unfold exV
        go_wp2_with (at_builtin; refine kE.wpList rfl (.tmp 27) (.tmp 31) rfl (w.heap.size + 2) (.slice p lt.length q) lt rfl HO5.out.row ⟨y, p5, q5⟩ _ rfl w5.heap.size rfl rfl (by omega) (by omega) ?_; intro g6 cap6 w6 hown6 hgrow6 hlie6)
        have hK6 : kE.inn (fun j => j < w.heap.size + 2 ∨ (Value.slice p lt.length q).ownBlock = some j) w5 ⟨y, p5, q5⟩ := KidsF.next HK5.out ⟨fun _ _ _ => rfl, fun j hj => by
          rcases hj with hj | hj
          · left; rw [HZB.out]; omega
          · left; have := (HO.out.lt j hj).2; rw [HZB.out]; omega⟩
        have HO6 := Lib.hid (HO5.out.push hK6 (fun j hj => by omega) hown6 hgrow6 hlie6)
        have HB6 := Lib.hid (HO5.out.frame (HB.out.trans (HB5.out.mono hzr)) (by omega) hgrow6)
        have HX6 : Hid ((lt ++ [(⟨y, p5, q5⟩ : ET)]).map ET.e = (l.take (k + 1)).map (renE f t)) := by show _ = _; rw [HN.out, List.map_append, HX.out]; rfl
        have hl6 : (lt ++ [(⟨y, p5, q5⟩ : ET)]).length = lt.length + 1 := by simp
        have HL6 := Lib.hid hl6
        clear hK6 hown6 hgrow6 hlie6 hl6
        go_wp2_with fail
        go_roundw
        case rel =>
          exact ⟨k + 1, lt ++ [(⟨y, p5, q5⟩ : ET)], some ⟨g6, 0, none⟩, cap6, by omega, by go_num, by rw [HL6.out], by show Own1 _ _ _ _ _ _; rw [HL6.out]; exact HO6.out, HX6.out, HB6.out⟩
        case measure => simp [intOf]; omega
      · have HXE : Hid (lt.map ET.e = renEs f t l) := by
          show _ = _
          rw [HX.out, renEs_map, List.take_of_length_le (by rw [HL.out]; omega)]
        have hK := HO.out.kids
        have HXA2 := HXA.out.keep (HB.out.block w.heap.size (by omega))
        have HXB2 := HXB.out.keep (HB.out.block (w.heap.size + 1) (by omega))
        have k0 := HXA2.cell 0
        have k1 := HXA2.cell 1
        have k2 := HXA2.cell 2
        have k3 := HXA2.cell 3
        have f3 := HXA2.free 3
        have e0 := HXB2.cell 0
        have e1 := HXB2.cell 1
        have e2 := HXB2.cell 2
        have e3 := HXB2.cell 3
        have f4 := HXB2.free 0
        have f5 := HXB2.free 1
        have f6 := HXB2.free 2
        have f7 := HXB2.free 3
        simp at k0 k1 k2 k3 e0 e1 e2 e3
        have hXB3 := HXB2.keep (Below.heap_setCell wr ⟨w.heap.size, 3, none⟩ (.slice p lt.length q) (w.heap.size + 1) (by show w.heap.size + 1 ≠ w.heap.size; omega))
        have hXB7 := (((hXB3.set 0 (u := .int .i64 o)).set 1 (u := .int .i64 n)).set 2 (u := .string s')).set 3 (u := .slice p lt.length q)
        have q0 := hXB7.cell 0
        have q1 := hXB7.cell 1
        have q2 := hXB7.cell 2
        have q3 := hXB7.cell 3
        simp at q0 q1 q2 q3
        have hlen : lt.length = (renEs f t l).length := by rw [← HXE.out, List.length_map]
        have HV : Hid (GivesE w (.mk o n s' (renEs f t l)) (.returned (.agg #[.int .i64 o, .int .i64 n, .string s', .slice p lt.length q])) (((((wr.setCell ⟨w.heap.size, 3, none⟩ (.slice p lt.length q)).setCell ⟨w.heap.size + 1, 0, none⟩ (.int .i64 o)).setCell ⟨w.heap.size + 1, 1, none⟩ (.int .i64 n)).setCell ⟨w.heap.size + 1, 2, none⟩ (.string s')).setCell ⟨w.heap.size + 1, 3, none⟩ (.slice p lt.length q))) := by
          refine ⟨p, q, ?_, ?_, ?_⟩
          · rw [exV_mk, hlen]
          · show KidsF _ _ p (renEs f t l)
            rw [← HXE.out]
            refine hK.next ⟨fun j hj hz => ?_, fun j hj => Or.inl (by omega)⟩
            rw [Below.heap_setCell _ _ _ _ (by show j ≠ w.heap.size + 1; omega), Below.heap_setCell _ _ _ _ (by show j ≠ w.heap.size + 1; omega), Below.heap_setCell _ _ _ _ (by show j ≠ w.heap.size + 1; omega), Below.heap_setCell _ _ _ _ (by show j ≠ w.heap.size + 1; omega), Below.heap_setCell _ _ _ _ (by show j ≠ w.heap.size; omega)]
          · exact ((((HBB.out.setCell (p := ⟨w.heap.size, 3, none⟩) (Nat.le_refl _) _).setCell (p := ⟨w.heap.size + 1, 0, none⟩) (Nat.le_succ _) _).setCell (p := ⟨w.heap.size + 1, 1, none⟩) (Nat.le_succ _) _).setCell (p := ⟨w.heap.size + 1, 2, none⟩) (Nat.le_succ _) _).setCell (p := ⟨w.heap.size + 1, 3, none⟩) (Nat.le_succ _) _
        clear hK HXA2 HXB2 hXB3 hXB7 hlen HXE
        go_wp2_with fail
        refine bodyPost_ret (v := .agg #[.int .i64 o, .int .i64 n, .string s', .slice p lt.length q]) (by simp [results, Tryd.results111, go_sem, q0, q1, q2, q3]) rfl ?_
        exact HV.out
/-- what the function value returns that copiedExpr is given -/
structure NamR (p1 : Addr) (p2 : Addr) (w0 : World) (f t : ByteArray) : Prop where
  call : ∀ (x : ByteArray) (w : World), x.size ≤ 281474976710656 → Below w0.heap.size w0 w → Calls Tryd.prog 41 #[.string x, .pointer (some p1), .pointer (some p2)] w fun e w' => e = .returned (.string (swap f t x)) ∧ Below w.heap.size w w'
def QCR (p1 : Addr) (p2 : Addr) (w0 : World) (f t : ByteArray) (e : Ex) : Prop := ∀ (a : Option Addr) (c : Nat) (w : World), okE e → cE e ≤ 1000000 → Kids w a e.args → Below w0.heap.size w0 w →
  Calls Tryd.prog 111 #[exV e a c, .func (Fn.func 41) #[] #[.pointer (some p1), .pointer (some p2)]] w fun e' w' => GivesE w (renE f t e) e' w'
set_option maxHeartbeats 8000000 in
set_option maxRecDepth 100000 in
theorem ocopiedExprR_any {p1 p2 : Addr} {w0 : World} {f t : ByteArray} (H : NamR p1 p2 w0 f t) : ∀ e, QCR p1 p2 w0 f t e := by
  refine Ex.ind (P := QCR p1 p2 w0 f t) ?_
  intro o n s l ih a c w hok hsz hK hb0
  have hok' := hok
  obtain ⟨_, hl, hoks⟩ := okE_open hok
  have hsz2 : 1 + s.size / 64 + cEs l ≤ 1000000 := by rw [cE] at hsz; exact hsz
  have hss : s.size ≤ 281474976710656 := by omega
  have HS : Hid (∀ k (h : k < l.length), cE l[k] ≤ 1000000) := fun k h => by have := cEs_get h; omega
  have hlm : l.length ≤ 1000000 := by have := cEs_len l; omega
  have HIH := Lib.hid ih
  have HOK := Lib.hid hoks
  have HK : Hid (Kids w a l) := hK
  have HB0 := Lib.hid hb0
  have hzz := hb0.size
  have hbx1 := Bx.new w #[.int .i64 o, .int .i64 n, .string s, .slice a l.length c] 46
  have hbx2 := Bx.new (w.alloc (exO (.mk o n s l) a c)) #[.int .i64 0, .int .i64 0, .string ⟨#[]⟩, .slice none 0 0] 46
  have hw2 := below_2 (below_box w (exO (.mk o n s l) a c)) (below_box (w.alloc (exO (.mk o n s l) a c)) (.cells #[.int .i64 0, .int .i64 0, .string ⟨#[]⟩, .slice none 0 0] 46))
  have hP4 : (w.alloc (exO (.mk o n s l) a c)).heap.size = w.heap.size + 1 := by simp
  have hsz3 : ((w.alloc (exO (.mk o n s l) a c)).alloc (.cells #[.int .i64 0, .int .i64 0, .string ⟨#[]⟩, .slice none 0 0] 46)).heap.size = w.heap.size + 2 := by simp
  rw [hP4] at hbx2
  have hbx1' := hbx1.below (below_box _ (.cells #[.int .i64 0, .int .i64 0, .string ⟨#[]⟩, .slice none 0 0] 46)) 
  have hx : renE f t (.mk o n s l) = .mk o n (if o = 3 then swap f t s else s) (renEs f t l) := by rw [renE]
  rw [hx]
  obtain ⟨s', hs'⟩ : ∃ s', (if o = 3 then swap f t s else s) = s' := ⟨_, rfl⟩
  rw [hs']
  have HX1 := Lib.hid hbx1'
  have HX2 := Lib.hid hbx2
  have HW2 := Lib.hid hw2
  have HZ3 := Lib.hid hsz3
  -- what the two ways of making the name have in common
  have HCs : Hid (o = 3 → ∀ w', Below w.heap.size w w' → Calls Tryd.prog 41 #[.string s, .pointer (some p1), .pointer (some p2)] w' fun e w'' => e = .returned (.string s') ∧ Below w'.heap.size w' w'') := fun h3 w' hb => by
    have := H.call s w' hss (hb0.trans (hb.mono hzz))
    rw [if_pos h3] at hs'
    rw [hs'] at this
    exact this
  have HCc : Hid (¬ o = 3 → ∀ w', Calls Tryd.prog 42 #[.string s] w' fun e w'' => e = .returned (.string s') ∧ Below w'.heap.size w' w'') := fun h3 w' => by
    have := L.oclone_any s hss w'
    rw [if_neg h3] at hs'
    rw [← hs']
    exact this
  obtain ⟨m, hm⟩ : ∃ m, l.length = m := ⟨_, rfl⟩
  have HL := Lib.hid hm
  simp only [exV_mk, exO_mk] at HX1 HX2 HW2 HZ3 ⊢
  rw [hm] at HX1 HX2 HW2 HZ3 hlm ⊢
  clear hok hok' hoks hsz hsz2 ih hK hb0 hbx1 hbx2 hbx1' hw2 hP4 hsz3 hx hs' hm H hl hss
  by_cases h3 : o = 3
  case' pos =>
    have b3 : (o == 3) = true := beq_iff_eq.2 h3
    have HC := Lib.hid (HCs.out h3 _ HW2.out)
  case' neg =>
    have b3 : (o == 3) = false := beq_eq_false_iff_ne.2 h3
    have HC := Lib.hid (HCc.out h3 ((w.alloc (.cells #[.int .i64 o, .int .i64 n, .string s, .slice a m c] 46)).alloc (.cells #[.int .i64 0, .int .i64 0, .string ⟨#[]⟩, .slice none 0 0] 46)))
  all_goals
    clear h3 HCs HCc
    go_enter Tryd.func111, Tryd.ntmps111
    go_wp2_with fail
    refine HC.out.mono ?_; rintro e' w3 ⟨rfl, hb3⟩
    have hlt1 : w.heap.size < ((w.alloc (.cells #[.int .i64 o, .int .i64 n, .string s, .slice a m c] 46)).alloc (.cells #[.int .i64 0, .int .i64 0, .string ⟨#[]⟩, .slice none 0 0] 46)).heap.size := by rw [HZ3.out]; omega
    have hX1 := HX1.out.below hb3
    have hX2 := HX2.out.below hb3
    have hzw3 : w.heap.size + 2 ≤ w3.heap.size := by have := hb3.size; have h2 := HZ3.out; omega
    have HWA : Hid (Below w.heap.size w (w3.setCell ⟨w.heap.size, 2, none⟩ (.string s'))) := (below_2 HW2.out hb3).setCell (Nat.le_refl _) _
    have HXA := Lib.hid (hX1.set 2 (u := .string s'))
    have HXB := Lib.hid (hX2.keep (Below.heap_setCell w3 ⟨w.heap.size, 2, none⟩ (.string s') (w.heap.size + 1) (by show w.heap.size + 1 ≠ w.heap.size; omega)))
    have c0 := hX1.cell 0
    have c1 := hX1.cell 1
    have c2 := hX1.cell 2
    have c3 := hX1.cell 3
    have f2 := hX1.free 2
    have HZW : Hid (w.heap.size + 2 ≤ (w3.setCell ⟨w.heap.size, 2, none⟩ (.string s')).heap.size) := by show _ ≤ _; simpa using hzw3
    simp at c0 c1 c2 c3
    clear hb3 hX1 hX2 hlt1
    go_wp2_with fail
    go_loopw [5, 23] (fun v i wr => ∃ (k : Nat) (lt : List ET) (p : Option Addr) (q : Nat), k ≤ m ∧ i = .int .i64 k ∧ v = .slice p lt.length q ∧ Hid (Own1 kE wr (w.heap.size + 2) (fun j => j < w.heap.size + 2) (.slice p lt.length q) lt) ∧ Hid (lt.map ET.e = (l.take k).map (renE f t)) ∧ Hid (Below (w.heap.size + 2) (w3.setCell ⟨w.heap.size, 2, none⟩ (.string s')) wr)) (fun _ i _ => m - (intOf i).toNat)
    case atStart => exact ⟨0, [], none, 0, Nat.zero_le _, rfl, rfl, Own1.nil, rfl, Below.refl _ _⟩
    case round =>
      obtain ⟨k, lt, p, q, hk, rfl, rfl, HO, HX, HB⟩ := hrel
      have HBB := Lib.hid (HWA.out.trans (HB.out.mono (Nat.le_add_right _ _)))
      have hll : lt.length ≤ k := by have := congrArg List.length HX.out; rw [List.length_map, List.length_map, List.length_take] at this; omega
      by_cases hlt : k < m
      · have hlx : k < l.length := by rw [HL.out]; exact hlt
        obtain ⟨b2, i2, rfl, hat⟩ := (HK.out.below HBB.out).open hlx
        obtain ⟨d0, d1, d2, a4, c4, d3, hk4⟩ := hat.open
        have hbx := below_box wr (exO l[k] a4 c4)
        have HC := Lib.hid (HIH.out k hlx a4 c4 _ (HOK.out.get k hlx) (HS.out k hlx) (hk4.below hbx) (HB0.out.trans ((HBB.out.trans (hbx.mono HBB.out.size)).mono hzz)))
        have HN : Hid ((l.take (k + 1)).map (renE f t) = (l.take k).map (renE f t) ++ [renE f t l[k]]) := by
          show _ = _
          rw [List.take_succ_eq_append_getElem hlx, List.map_append]; rfl
        have HBX := Lib.hid hbx
        have hzr : w.heap.size + 2 ≤ wr.heap.size := by have := HB.out.size; have := HZW.out; omega
        clear hat hk4 hbx
        generalize renE f t l[k] = y at HC HN
        unfold exV at HC
        unfold exO at HC HBX
        generalize l[k].args.length = m2 at *
        generalize l[k].op = o2 at *
        generalize l[k].n = n2 at *
        generalize l[k].s = s2 at *
        go_wp2_with fail
        refine HC.out.mono ?_; rintro e' w5 ⟨p5, q5, rfl, hk5, hb5⟩
        have HK5 := Lib.hid hk5
        have HB5 := Lib.hid (below_2 HBX.out hb5)
        have HO5 := Lib.hid (HO.out.below HB5.out)
        have hz5 := HB5.out.size
        have hzb : (wr.alloc (.cells #[.int .i64 o2, .int .i64 n2, .string s2, .slice a4 m2 c4] 46)).heap.size = wr.heap.size + 1 := by simp
        have HZB := Lib.hid hzb
        clear hk5 hb5 hzb
        unfold exV
        go_wp2_with (at_builtin; refine kE.wpList rfl (.tmp 27) (.tmp 31) rfl (w.heap.size + 2) (.slice p lt.length q) lt rfl HO5.out.row ⟨y, p5, q5⟩ _ rfl w5.heap.size rfl rfl (by omega) (by omega) ?_; intro g6 cap6 w6 hown6 hgrow6 hlie6)
        have hK6 : kE.inn (fun j => j < w.heap.size + 2 ∨ (Value.slice p lt.length q).ownBlock = some j) w5 ⟨y, p5, q5⟩ := KidsF.next HK5.out ⟨fun _ _ _ => rfl, fun j hj => by
          rcases hj with hj | hj
          · left; rw [HZB.out]; omega
          · left; have := (HO.out.lt j hj).2; rw [HZB.out]; omega⟩
        have HO6 := Lib.hid (HO5.out.push hK6 (fun j hj => by omega) hown6 hgrow6 hlie6)
        have HB6 := Lib.hid (HO5.out.frame (HB.out.trans (HB5.out.mono hzr)) (by omega) hgrow6)
        have HX6 : Hid ((lt ++ [(⟨y, p5, q5⟩ : ET)]).map ET.e = (l.take (k + 1)).map (renE f t)) := by show _ = _; rw [HN.out, List.map_append, HX.out]; rfl
        have hl6 : (lt ++ [(⟨y, p5, q5⟩ : ET)]).length = lt.length + 1 := by simp
        have HL6 := Lib.hid hl6
        clear hK6 hown6 hgrow6 hlie6 hl6
        go_wp2_with fail
        go_roundw
        case rel =>
          exact ⟨k + 1, lt ++ [(⟨y, p5, q5⟩ : ET)], some ⟨g6, 0, none⟩, cap6, by omega, by go_num, by rw [HL6.out], by show Own1 _ _ _ _ _ _; rw [HL6.out]; exact HO6.out, HX6.out, HB6.out⟩
        case measure => simp [intOf]; omega
      · have HXE : Hid (lt.map ET.e = renEs f t l) := by
          show _ = _
          rw [HX.out, renEs_map, List.take_of_length_le (by rw [HL.out]; omega)]
        have hK := HO.out.kids
        have HXA2 := HXA.out.keep (HB.out.block w.heap.size (by omega))
        have HXB2 := HXB.out.keep (HB.out.block (w.heap.size + 1) (by omega))
        have k0 := HXA2.cell 0
        have k1 := HXA2.cell 1
        have k2 := HXA2.cell 2
        have k3 := HXA2.cell 3
        have f3 := HXA2.free 3
        have e0 := HXB2.cell 0
        have e1 := HXB2.cell 1
        have e2 := HXB2.cell 2
        have e3 := HXB2.cell 3
        have f4 := HXB2.free 0
        have f5 := HXB2.free 1
        have f6 := HXB2.free 2
        have f7 := HXB2.free 3
        simp at k0 k1 k2 k3 e0 e1 e2 e3
        have hXB3 := HXB2.keep (Below.heap_setCell wr ⟨w.heap.size, 3, none⟩ (.slice p lt.length q) (w.heap.size + 1) (by show w.heap.size + 1 ≠ w.heap.size; omega))
        have hXB7 := (((hXB3.set 0 (u := .int .i64 o)).set 1 (u := .int .i64 n)).set 2 (u := .string s')).set 3 (u := .slice p lt.length q)
        have q0 := hXB7.cell 0
        have q1 := hXB7.cell 1
        have q2 := hXB7.cell 2
        have q3 := hXB7.cell 3
        simp at q0 q1 q2 q3
        have hlen : lt.length = (renEs f t l).length := by rw [← HXE.out, List.length_map]
        have HV : Hid (GivesE w (.mk o n s' (renEs f t l)) (.returned (.agg #[.int .i64 o, .int .i64 n, .string s', .slice p lt.length q])) (((((wr.setCell ⟨w.heap.size, 3, none⟩ (.slice p lt.length q)).setCell ⟨w.heap.size + 1, 0, none⟩ (.int .i64 o)).setCell ⟨w.heap.size + 1, 1, none⟩ (.int .i64 n)).setCell ⟨w.heap.size + 1, 2, none⟩ (.string s')).setCell ⟨w.heap.size + 1, 3, none⟩ (.slice p lt.length q))) := by
          refine ⟨p, q, ?_, ?_, ?_⟩
          · rw [exV_mk, hlen]
          · show KidsF _ _ p (renEs f t l)
            rw [← HXE.out]
            refine hK.next ⟨fun j hj hz => ?_, fun j hj => Or.inl (by omega)⟩
            rw [Below.heap_setCell _ _ _ _ (by show j ≠ w.heap.size + 1; omega), Below.heap_setCell _ _ _ _ (by show j ≠ w.heap.size + 1; omega), Below.heap_setCell _ _ _ _ (by show j ≠ w.heap.size + 1; omega), Below.heap_setCell _ _ _ _ (by show j ≠ w.heap.size + 1; omega), Below.heap_setCell _ _ _ _ (by show j ≠ w.heap.size; omega)]
          · exact ((((HBB.out.setCell (p := ⟨w.heap.size, 3, none⟩) (Nat.le_refl _) _).setCell (p := ⟨w.heap.size + 1, 0, none⟩) (Nat.le_succ _) _).setCell (p := ⟨w.heap.size + 1, 1, none⟩) (Nat.le_succ _) _).setCell (p := ⟨w.heap.size + 1, 2, none⟩) (Nat.le_succ _) _).setCell (p := ⟨w.heap.size + 1, 3, none⟩) (Nat.le_succ _) _
        clear hK HXA2 HXB2 hXB3 hXB7 hlen HXE
        go_wp2_with fail
        refine bodyPost_ret (v := .agg #[.int .i64 o, .int .i64 n, .string s', .slice p lt.length q]) (by simp [results, Tryd.results111, go_sem, q0, q1, q2, q3]) rfl ?_
        exact HV.out
end Go.Proofs.YtkjefigebdbkaaaDoor.A
namespace Go.Proofs.YtkjefigebdbkaaaDoor.A
open Go.RowKit
open L (Str isName prt size_len below_2 below_box ret_bool ret_int eql_eq bytes_eq)

theorem small_bad {p : Pr} {m k : Nat} (h : k < p.params.length) (h2 : 200 < p.params[k].name.size) : small p m = false := by
  unfold small
  have : p.params.all (fun q => decide (q.name.size ≤ 200)) = false := List.all_eq_false.2 ⟨p.params[k], List.getElem_mem h, by rw [decide_eq_false (by omega)]; decide⟩
  rw [this]; simp
theorem small_long {p : Pr} {m : Nat} (h : 40 < p.params.length) : small p m = false := by unfold small; rw [decide_eq_false (by omega)]; rfl
theorem small_name {p : Pr} {m : Nat} (h : 200 < p.name.size) : small p m = false := by unfold small; rw [decide_eq_false (show ¬ p.name.size ≤ 200 by omega)]; simp
theorem small_end {p : Pr} {m : Nat} (h1 : ¬ 40 < p.params.length) (h2 : ¬ 200 < p.name.size) (h3 : ∀ j (h : j < p.params.length), ¬ 200 < p.params[j].name.size) : small p m = decide (cB p.body ≤ m) := by
  unfold small
  have : p.params.all (fun q => decide (q.name.size ≤ 200)) = true := by
    rw [List.all_eq_true]
    intro q hq
    obtain ⟨j, hj, rfl⟩ := List.getElem_of_mem hq
    exact decide_eq_true (by have := h3 j hj; omega)
  rw [this, decide_eq_true (by omega), decide_eq_true (by omega)]; rfl
set_option maxHeartbeats 4000000 in
set_option maxRecDepth 100000 in
theorem rsmall_any (p : Pr) (a1 : Option Addr) (c1 : Nat) (a2 : Option Addr) (c2 : Nat) (m : Nat) (hm : m ≤ 1000000) (hok : OkP p) (w : World) (hK : PrIn w p a1 a2) :
    Calls Tryd.prog 7 #[prV p a1 c1 a2 c2, .int .i64 (m : Int)] w fun e' w' => e' = .returned (.bool (small p m)) ∧ Below w.heap.size w w' := by
  have hw := below_box w (prO p a1 c1 a2 c2)
  have HW := Lib.hid hw
  have HBL := Lib.hid (fun w' hb => proc_later (w := w) (w' := w') (p := p) (a1 := a1) (a2 := a2) (c1 := c1) (c2 := c2) hb)
  have HKK := Lib.hid hK
  have HC := Lib.hid (fun w hK => rcountBody_any p.body a2 c2 m (by omega) (by omega) hok.bodyLen hok.body w hK)
  have HEa := Lib.hid hok.each
  have hpl := hok.params
  have hnm := hok.name
  have s1 := @small_long p m
  have s2 := @small_name p m
  have s3 : ∀ k (h : k < p.params.length), 200 < p.params[k].name.size → small p m = false := fun k h h2 => small_bad h h2
  have S3 := Lib.hid s3
  have S4 := Lib.hid (@small_end p m)
  obtain ⟨g, hg⟩ : ∃ g, p.params.length = g := ⟨_, rfl⟩
  have HL := Lib.hid hg
  unfold prV prO at *
  rw [hg] at HW HBL hpl s1 ⊢
  clear hw hK hok hg s3
  by_cases h40 : 40 < g
  · have HV := Lib.hid (s1 h40)
    have b1 : decide (40 < (g : Int)) = true := decide_eq_true (by omega)
    clear s1 s2 h40
    go_enter Tryd.func7, Tryd.ntmps7
    go_wp2_with fail
    go_ret
    exact ⟨ret_bool HV.out.symm, HW.out⟩
  · have b1 : decide (40 < (g : Int)) = false := decide_eq_false (by omega)
    by_cases h200 : 200 < p.name.size
    · have HV := Lib.hid (s2 h200)
      have b2 : decide (200 < (p.name.size : Int)) = true := decide_eq_true (by omega)
      clear s1 s2 h200
      go_enter Tryd.func7, Tryd.ntmps7
      go_wp2_with fail
      go_ret
      exact ⟨ret_bool HV.out.symm, HW.out⟩
    · have b2 : decide (200 < (p.name.size : Int)) = false := decide_eq_false (by omega)
      have S5 := Lib.hid (S4.out (by rw [HL.out]; exact h40) h200)
      clear s1 s2
      go_enter Tryd.func7, Tryd.ntmps7
      go_wp2_with fail
      go_loopw [5] (fun s5 wr => ∃ k : Nat, k ≤ g ∧ s5 = .int .i64 k ∧ Hid (∀ j (h : j < p.params.length), j < k → ¬ 200 < p.params[j].name.size) ∧ Hid (Below (w.alloc (.cells #[.string p.name, .slice a1 g c1, .slice a2 p.body.length c2] 25)).heap.size (w.alloc (.cells #[.string p.name, .slice a1 g c1, .slice a2 p.body.length c2] 25)) wr)) (fun s5 _ => g - (intOf s5).toNat)
      case atStart => exact ⟨0, Nat.zero_le _, rfl, fun j _ h => absurd h (Nat.not_lt_zero _), Below.refl _ _⟩
      case round =>
        obtain ⟨k, hk, rfl, HX, HB⟩ := hrel
        obtain ⟨c0', c1', c2'⟩ := HBL.out _ HB.out
        have HBB := Lib.hid (below_2 HW.out HB.out)
        by_cases hlt : k < g
        · have hlx : k < p.params.length := by rw [HL.out]; exact hlt
          obtain ⟨b3, i3, rfl, hc⟩ := (HKK.out.below HBB.out).params.open hlx
          obtain ⟨d0, d1⟩ := hc k hlx
          have hz := HEa.out k hlx
          by_cases hq : 200 < p.params[k].name.size
          · have HV := Lib.hid (S3.out k hlx hq)
            generalize p.params[k] = q at d0 d1 hz hq
            have b3 : decide (200 < (q.name.size : Int)) = true := decide_eq_true (by omega)
            clear hc hq
            go_wp2_with fail
            go_ret
            exact ⟨ret_bool HV.out.symm, HBB.out⟩
          · have HN : Hid (∀ j (h : j < p.params.length), j < k + 1 → ¬ 200 < p.params[j].name.size) := by
              intro j h hj
              by_cases e : j = k
              · subst e; exact hq
              · exact HX.out j h (by omega)
            generalize p.params[k] = q at d0 d1 hz hq
            have b3 : decide (200 < (q.name.size : Int)) = false := decide_eq_false (by omega)
            clear hc hq
            go_wp2_with fail
            go_roundw
            case rel => exact ⟨k + 1, by omega, by go_num, HN, HB.out⟩
            case measure => simp [intOf]; omega
        · have HVs := Lib.hid (S5.out fun j h => HX.out j h (by have := HL.out; omega))
          have HC2 := Lib.hid (HC.out _ (HKK.out.below HBB.out).body)
          generalize cB p.body = x at HC2 HVs
          go_wp2_with fail
          refine HC2.out.mono ?_; rintro e w2 ⟨⟨r, rfl, hr⟩, hb2⟩
          have HV : Hid (decide (r ≤ (m : Int)) = decide (x ≤ m)) := by
            show _ = _
            refine decide_eq_decide.2 ⟨fun h => ?_, fun h => ?_⟩
            · apply Decidable.byContradiction; intro h2; have := hr.core.gt (by omega); omega
            · have := hr.core.eq (by omega); omega
          clear hr
          go_wp2_with fail
          go_ret
          exact ⟨ret_bool (HV.out.trans HVs.out.symm), below_2 HBB.out hb2⟩
end Go.Proofs.YtkjefigebdbkaaaDoor.A
namespace Go.Proofs.YtkjefigebdbkaaaDoor.A
open Go.RowKit
open L (Str isName prt size_len below_2 below_box below_drew ret_bool ret_int eql_eq bytes_eq)

/-- a statement's box -/
def stO (s : St) (a1 : Option Addr) (c1 : Nat) (a2 : Option Addr) (c2 : Nat) (a3 : Option Addr) (c3 : Nat) (a4 : Option Addr) (c4 : Nat) : Obj :=
  .cells #[.int .i64 s.op, .string s.name, .int .i64 s.mx, .int .i64 s.a.op, .int .i64 s.a.n, .string s.a.s, .slice a1 s.a.args.length c1, .int .i64 s.b.op, .int .i64 s.b.n, .string s.b.s, .slice a2 s.b.args.length c2, .slice a3 s.body.length c3, .slice a4 s.els.length c4] 48
end Go.Proofs.YtkjefigebdbkaaaDoor.A
namespace Go.Proofs.YtkjefigebdbkaaaDoor.A
open Go.RowKit
open L (Str isName prt size_len below_2 below_box ret_bool ret_int eql_eq bytes_eq)

theorem swap_same (f x : ByteArray) : swap f f x = x := by
  unfold swap
  split
  · rename_i h; exact h.symm
  · rfl
theorem namC (w0 : World) (f : ByteArray) : NamC w0 f f := ⟨fun x w hx _ => by rw [swap_same]; exact L.oclone_any x hx w⟩
set_option maxHeartbeats 2000000 in
set_option maxRecDepth 100000 in
theorem namR {w0 : World} {N1 N2 : Nat} {f t : ByteArray} (h1 : w0.cell? ⟨N1, 0, none⟩ = some (.string f)) (h2 : w0.cell? ⟨N2, 0, none⟩ = some (.string t)) (ht : t.size ≤ 281474976710656) : NamR ⟨N1, 0, none⟩ ⟨N2, 0, none⟩ w0 f t := by
  refine ⟨fun x w hx hb => ?_⟩
  have g1 := (hb.cell (block_lt_of_cell h1)).trans h1
  have g2 := (hb.cell (block_lt_of_cell h2)).trans h2
  have he := bytes_dec x f
  by_cases h : x = f
  · have HV : Hid (swap f t x = t) := by show _ = _; unfold swap; rw [if_pos h]
    rw [decide_eq_true h] at he
    have HC := Lib.hid (L.oclone_any t ht w)
    rw [HV.out]
    clear h hb
    go_enter Tryd.func41, Tryd.ntmps41
    go_wp2_with fail
    refine HC.out.mono ?_; rintro e' w2 ⟨rfl, hb2⟩
    have HB := Lib.hid hb2
    clear hb2
    go_wp2_with fail
    go_ret
    exact ⟨rfl, HB.out⟩
  · have HV : Hid (swap f t x = x) := by show _ = _; unfold swap; rw [if_neg h]
    rw [decide_eq_false h] at he
    have HC := Lib.hid (L.oclone_any x hx w)
    rw [HV.out]
    clear h hb
    go_enter Tryd.func41, Tryd.ntmps41
    go_wp2_with fail
    refine HC.out.mono ?_; rintro e' w2 ⟨rfl, hb2⟩
    have HB := Lib.hid hb2
    clear hb2
    go_wp2_with fail
    go_ret
    exact ⟨rfl, HB.out⟩

/-! ### statements in rows -/

structure SX where
  s : St
  a1 : Option Addr
  c1 : Nat
  a2 : Option Addr
  c2 : Nat
  a3 : Option Addr
  c3 : Nat
  a4 : Option Addr
  c4 : Nat
theorem info_s : (Tryd.prog.info? 48).map (fun i => (i.zero, i.size, i.bytes)) = some (some (.agg #[.int .i64 0, .string ⟨#[]⟩, .int .i64 0, .int .i64 0, .int .i64 0, .string ⟨#[]⟩, .slice none 0 0, .int .i64 0, .int .i64 0, .string ⟨#[]⟩, .slice none 0 0, .slice none 0 0, .slice none 0 0]), 13, 192) := by kernel_rfl
def kS : RowK SX where
  f := fun x => [.int .i64 x.s.op, .string x.s.name, .int .i64 x.s.mx, .int .i64 x.s.a.op, .int .i64 x.s.a.n, .string x.s.a.s, .slice x.a1 x.s.a.args.length x.c1, .int .i64 x.s.b.op, .int .i64 x.s.b.n, .string x.s.b.s, .slice x.a2 x.s.b.args.length x.c2, .slice x.a3 x.s.body.length x.c3, .slice x.a4 x.s.els.length x.c4]
  size := 13
  bytes := 192
  t := 23
  e := 48
  z := .agg #[.int .i64 0, .string ⟨#[]⟩, .int .i64 0, .int .i64 0, .int .i64 0, .string ⟨#[]⟩, .slice none 0 0, .int .i64 0, .int .i64 0, .string ⟨#[]⟩, .slice none 0 0, .slice none 0 0, .slice none 0 0]
  inn := fun Z w x => KidsF Z w x.a1 x.s.a.args ∧ KidsF Z w x.a2 x.s.b.args ∧ BodiesF Z w x.a3 x.s.body ∧ BodiesF Z w x.a4 x.s.els
  und := Tryd.underlying23
  info := info_s
  len := fun _ => rfl
  one := fun x u hu => by simp at hu; rcases hu with rfl | rfl | rfl | rfl | rfl | rfl | rfl | rfl | rfl | rfl | rfl | rfl | rfl <;> rfl
  pos := by decide
  zs := rfl
  small := by decide
  next := fun h hs => ⟨KidsF.next h.1 hs, KidsF.next h.2.1 hs, BodiesF.next h.2.2.1 hs, BodiesF.next h.2.2.2 hs⟩
theorem sts_of {W : World} {b : Nat} : ∀ (l : List SX) (i : Nat), (∀ j (h : j < l.length) r, r < 13 → W.cell? ⟨b, i + j * 13 + r, none⟩ = (kS.f l[j])[r]?) → (∀ x ∈ l, Kids W x.a1 x.s.a.args ∧ Kids W x.a2 x.s.b.args ∧ Bodies W x.a3 x.s.body ∧ Bodies W x.a4 x.s.els) → StsAt W (l.map SX.s) b i
  | [], _, _, _ => by rw [List.map_nil, StsAt]; trivial
  | x :: l, i, hc, hk => by
    rw [List.map_cons, StsAt]
    refine ⟨?_, sts_of l (i + 13) (fun j hj r hr => ?_) fun y hy => hk y (List.mem_cons_of_mem _ hy)⟩
    · have hh : ∀ r, r < 13 → W.cell? ⟨b, i + r, none⟩ = (kS.f x)[r]? := fun r hr => by
        have := hc 0 (by simp) r hr
        simpa using this
      have h0 := hh 0 (by decide)
      have h1 := hh 1 (by decide)
      have h2 := hh 2 (by decide)
      have h3 := hh 3 (by decide)
      have h4 := hh 4 (by decide)
      have h5 := hh 5 (by decide)
      have h6 := hh 6 (by decide)
      have h7 := hh 7 (by decide)
      have h8 := hh 8 (by decide)
      have h9 := hh 9 (by decide)
      have h10 := hh 10 (by decide)
      have h11 := hh 11 (by decide)
      have h12 := hh 12 (by decide)
      obtain ⟨g1, g2, g3, g4⟩ := hk x List.mem_cons_self
      obtain ⟨⟨o, nm, mx, ⟨oa, na, sa, la⟩, ⟨ob, nb, sb, lb⟩, bd, el⟩, a1, c1, a2, c2, a3, c3, a4, c4⟩ := x
      rw [StAt]
      refine ⟨h0, h1, h2, ?_, ?_, ⟨a3, c3, h11, g3⟩, ⟨a4, c4, h12, g4⟩⟩
      · rw [ExAt]; exact ⟨h3, h4, h5, a1, c1, h6, g1⟩
      · rw [ExAt]; exact ⟨h7, h8, h9, a2, c2, h10, g2⟩
    · have := hc (j + 1) (by simpa using hj) r hr
      rw [show i + 13 + j * 13 + r = i + (j + 1) * 13 + r by omega]
      simpa using this
theorem Own1.bodies {w : World} {b0 : Nat} {Z : Nat → Prop} {p : Option Addr} {q : Nat} {l : List SX} (h : Own1 kS w b0 Z (.slice p l.length q) l) : BodiesF Z w p (l.map SX.s) := by
  by_cases h0 : l = []
  · left; rw [h0]; rfl
  · have hpos : 0 < l.length := List.length_pos_iff.2 h0
    obtain ⟨g, rfl, hz, _⟩ := h.cell hpos
    refine Or.inr ⟨g, 0, rfl, sts_of l 0 (fun j hj r hr => ?_) fun x hx => ?_⟩
    · obtain ⟨g2, hg, hz2, hc⟩ := h.cell hj
      cases hg
      have hr2 : r < (kS.f l[j]).length := by rw [kS.len]; exact hr
      have hcr := hc r hr
      rw [List.getElem?_eq_getElem hr2] at hcr ⊢
      rw [Nat.zero_add]
      exact (hollow_cell Z w _ _ _).2 ⟨hz, hcr⟩
    · exact kS.next (Z' := Z) (h.each x hx) ⟨fun _ _ _ => rfl, fun k hk => Or.inl (Or.inl hk)⟩
theorem renB_map (f t : ByteArray) : ∀ l : List St, renB f t l = l.map (renS f t)
  | [] => rfl
  | e :: r => by rw [renB, List.map_cons, renB_map f t r]
theorem renB_len (f t : ByteArray) (l : List St) : (renB f t l).length = l.length := by rw [renB_map, List.length_map]
theorem cB_len : ∀ l : List St, l.length ≤ cB l
  | [] => Nat.zero_le _
  | e :: r => by
    have := cB_len r
    have h := cS_parts e
    rw [cB, List.length_cons]
    omega
/-- statements that a call made, in blocks of its own -/
def GivesS (w : World) (x : List St) (e' : Ending) (w' : World) : Prop := ∃ p q, e' = .returned (.slice p x.length q) ∧ BodiesF (fun k => k < w.heap.size) w' p x ∧ Below w.heap.size w w'
def QTR (p1 : Addr) (p2 : Addr) (w0 : World) (f t : ByteArray) (l : List St) : Prop := ∀ (a : Option Addr) (c : Nat) (w : World), okB l → l.length ≤ 1000000000000000 → cB l ≤ 1000000 → Bodies w a l → Below w0.heap.size w0 w →
  Calls Tryd.prog 76 #[.slice a l.length c, .func (Fn.func 41) #[] #[.pointer (some p1), .pointer (some p2)]] w fun e' w' => GivesS w (l.map (renS f t)) e' w'
set_option maxHeartbeats 16000000 in
set_option maxRecDepth 100000 in
theorem ocopiedStmtsR_any {p1 p2 : Addr} {w0 : World} {f t : ByteArray} (H : NamR p1 p2 w0 f t) : ∀ l, QTR p1 p2 w0 f t l := by
  refine body_ind fun l ih => ?_
  intro a c w hok hl hsz hK hb0
  have HIH := Lib.hid ih
  have HOK := Lib.hid hok
  have HK := Lib.hid hK
  have HB0 := Lib.hid hb0
  have HH := Lib.hid H
  have hzz := hb0.size
  have HS : Hid (∀ k (h : k < l.length), cS l[k] ≤ 1000000) := fun k h => by have := cB_get h; omega
  have hlm : l.length ≤ 1000000 := by have := cB_len l; omega
  obtain ⟨m, hm⟩ : ∃ m, l.length = m := ⟨_, rfl⟩
  have HL := Lib.hid hm
  rw [hm] at hlm ⊢
  clear hok hsz ih hK hb0 hm H hl
  go_enter Tryd.func76, Tryd.ntmps76
  go_wp2_with fail
  go_loopw [5, 10] (fun v i wr => ∃ (k : Nat) (lt : List SX) (p : Option Addr) (q : Nat), k ≤ m ∧ i = .int .i64 k ∧ v = .slice p lt.length q ∧ Hid (Own1 kS wr w.heap.size (fun j => j < w.heap.size) (.slice p lt.length q) lt) ∧ Hid (lt.map SX.s = (l.take k).map (renS f t)) ∧ Hid (Below w.heap.size w wr)) (fun _ i _ => m - (intOf i).toNat)
  case atStart => exact ⟨0, [], none, 0, Nat.zero_le _, rfl, rfl, Own1.nil, rfl, Below.refl _ _⟩
  case round =>
    obtain ⟨k, lt, p, q, hk, rfl, rfl, HO, HX, HB⟩ := hrel
    have hll : lt.length ≤ k := by have := congrArg List.length HX.out; rw [List.length_map, List.length_map, List.length_take] at this; omega
    by_cases hlt : k < m
    · have hlx : k < l.length := by rw [HL.out]; exact hlt
      obtain ⟨b2, i2, rfl, hat⟩ := (HK.out.below HB.out).open hlx
      have ho := okS_open (HOK.out.get k hlx)
      have hcs := HS.out k hlx
      obtain ⟨q1, q2⟩ := HIH.out k hlx
      have HN : Hid ((l.take (k + 1)).map (renS f t) = (l.take k).map (renS f t) ++ [renS f t l[k]]) := by
        show _ = _
        rw [List.take_succ_eq_append_getElem hlx, List.map_append]; rfl
      generalize l[k] = s at hat ho hcs q1 q2 HN
      have hsp := cS_parts s
      have hnm : s.name.size ≤ 281474976710656 := by omega
      obtain ⟨a1, c1, a2, c2, a3, c3, a4, c4, hcc, hks⟩ := hat.open
      have hbx := below_box wr (stO s a1 c1 a2 c2 a3 c3 a4 c4)
      have hX := Bx.new wr #[.int .i64 s.op, .string s.name, .int .i64 s.mx, .int .i64 s.a.op, .int .i64 s.a.n, .string s.a.s, .slice a1 s.a.args.length c1, .int .i64 s.b.op, .int .i64 s.b.n, .string s.b.s, .slice a2 s.b.args.length c2, .slice a3 s.body.length c3, .slice a4 s.els.length c4] 48
      have hC1 := HH.out.call s.name (wr.alloc (stO s a1 c1 a2 c2 a3 c3 a4 c4)) hnm (HB0.out.trans ((HB.out.trans (hbx.mono HB.out.size)).mono hzz))
      have hz : w.heap.size ≤ wr.heap.size := HB.out.size
      have hcA := fun w' (hb : Below wr.heap.size wr w') => ocopiedExprR_any HH.out s.a a1 c1 w' ho.a (by omega) (hks.below hb).a (HB0.out.trans ((HB.out.trans (hb.mono hz)).mono hzz))
      have hcB := fun w' (hb : Below wr.heap.size wr w') => ocopiedExprR_any HH.out s.b a2 c2 w' ho.b (by omega) (hks.below hb).b (HB0.out.trans ((HB.out.trans (hb.mono hz)).mono hzz))
      have hcC := fun w' (hb : Below wr.heap.size wr w') => q1 a3 c3 w' ho.body ho.bodyLen (by omega) (hks.below hb).body (HB0.out.trans ((HB.out.trans (hb.mono hz)).mono hzz))
      have hcD := fun w' (hb : Below wr.heap.size wr w') => q2 a4 c4 w' ho.els ho.elsLen (by omega) (hks.below hb).els (HB0.out.trans ((HB.out.trans (hb.mono hz)).mono hzz))
      have HCA := Lib.hid hcA
      have HCB := Lib.hid hcB
      have HQ1 := Lib.hid hcC
      have HQ2 := Lib.hid hcD
      have HS2 : Hid (renS f t s = .mk s.op (swap f t s.name) s.mx (renE f t s.a) (renE f t s.b) (renB f t s.body) (renB f t s.els)) := by
        show _ = _
        obtain ⟨o, nm, mx, a, b, bd, el⟩ := s
        rw [renS]; rfl
      have HBX := Lib.hid hbx
      have HXX := Lib.hid hX
      obtain ⟨k0, k1, k2, k3, k4, k5, k6, k7, k8, k9, k10, k11, k12⟩ := hcc
      unfold stO at hC1 HBX
      have HC1 := Lib.hid hC1
      unfold exV at HCA HCB
      clear hat ho hcs q1 q2 hsp hnm hks hbx hX hC1 hcA hcB hcC hcD
      go_wp2_with fail
      refine HC1.out.mono ?_; rintro e' w3 ⟨rfl, hb3⟩
      have hX3 := HXX.out.below hb3
      have n1 := hX3.cell 1
      have f1 := hX3.free 1
      simp at n1
      have hX4 := hX3.set 1 (u := .string (swap f t s.name))
      have hB4 : Below wr.heap.size wr (w3.setCell ⟨wr.heap.size, 1, none⟩ (.string (swap f t s.name))) := (below_2 HBX.out hb3).setCell (Nat.le_refl _) _
      clear hb3 hX3
      go_wp2_with fail
      generalize w3.setCell ⟨wr.heap.size, 1, none⟩ (.string (swap f t s.name)) = w4 at *
      simp only [List.setIfInBounds_toArray, List.set_cons_succ, List.set_cons_zero] at hX4
      have HX4 := Lib.hid hX4
      have HB4 := Lib.hid hB4
      have j3 := hX4.cell 3
      have j4 := hX4.cell 4
      have j5 := hX4.cell 5
      have j6 := hX4.cell 6
      have j7 := hX4.cell 7
      have j8 := hX4.cell 8
      have j9 := hX4.cell 9
      have j10 := hX4.cell 10
      simp at j3 j4 j5 j6 j7 j8 j9 j10
      clear hX4 hB4 n1 f1 k0 k1 k2 k3 k4 k5 k6 k7 k8 k9 k10 k11 k12
      go_upto_region 6 with fail
      go_cut [10] from 10 to 43 (fun v10 wx => v10 = .int .i64 (k : Int) ∧ ∃ pA qA pB qB, Hid (Bx wx wr.heap.size #[.int .i64 s.op, .string (swap f t s.name), .int .i64 s.mx, .int .i64 (renE f t s.a).op, .int .i64 (renE f t s.a).n, .string (renE f t s.a).s, .slice pA (renE f t s.a).args.length qA, .int .i64 (renE f t s.b).op, .int .i64 (renE f t s.b).n, .string (renE f t s.b).s, .slice pB (renE f t s.b).args.length qB, .slice a3 s.body.length c3, .slice a4 s.els.length c4] 48) ∧ Hid (Below wr.heap.size wr wx) ∧ Hid (KidsF (fun j => j < wr.heap.size + 1) wx pA (renE f t s.a).args) ∧ Hid (KidsF (fun j => j < wr.heap.size + 1) wx pB (renE f t s.b).args))
      case first =>
        go_region_with
        (first
          | (go_at_call 111; (with_reducible refine (HCA.out _ HB4.out.drew).mono ?_); rintro e' wA ⟨pA, qA, rfl, hkA, hbA⟩; have HKA := Lib.hid hkA; have HBA := Lib.hid hbA; have HBa := Lib.hid (HB4.out.drew.trans (hbA.mono HB4.out.drew.size)); have hXA := Bx.below (w := w4.drew) HX4.out hbA; have HXA := Lib.hid hXA; have l3 := hXA.cell 3; have l4 := hXA.cell 4; have l5 := hXA.cell 5; have l6 := hXA.cell 6; have l7 := hXA.cell 7; have l8 := hXA.cell 8; have l9 := hXA.cell 9; have l10 := hXA.cell 10; simp at l3 l4 l5 l6 l7 l8 l9 l10; clear hkA hbA hXA; unfold exV)
          | (go_at_call 111; (with_reducible refine (HCB.out _ HBa.out).mono ?_); rintro e' wB ⟨pB, qB, rfl, hkB, hbB⟩; have HKB := Lib.hid hkB; have HBB := Lib.hid hbB; have HBb := Lib.hid (HBa.out.trans (hbB.mono HBa.out.size)); have hXB := HXA.out.below hbB; have HXB := Lib.hid hXB; have o3 := hXB.cell 3; have o4 := hXB.cell 4; have o5 := hXB.cell 5; have o6 := hXB.cell 6; have o7 := hXB.cell 7; have o8 := hXB.cell 8; have o9 := hXB.cell 9; have o10 := hXB.cell 10; have f3 := hXB.free 3; have f4 := hXB.free 4; have f5 := hXB.free 5; have f6 := hXB.free 6; have f7 := hXB.free 7; have f8 := hXB.free 8; have f9 := hXB.free 9; have f10 := hXB.free 10; simp at o3 o4 o5 o6 o7 o8 o9 o10; clear hkB hbB hXB; unfold exV))
        all_goals
          have hX9 := (((((((HXB.out.set 3 (u := .int .i64 (renE f t s.a).op)).set 4 (u := .int .i64 (renE f t s.a).n)).set 5 (u := .string (renE f t s.a).s)).set 6 (u := .slice pA (renE f t s.a).args.length qA)).set 7 (u := .int .i64 (renE f t s.b).op)).set 8 (u := .int .i64 (renE f t s.b).n)).set 9 (u := .string (renE f t s.b).s)).set 10 (u := .slice pB (renE f t s.b).args.length qB)
          simp only [List.setIfInBounds_toArray, List.set_cons_succ, List.set_cons_zero] at hX9
          have HX9 := Lib.hid hX9
          have hsz4 : wr.heap.size < w4.heap.size := HX4.out.lt
          have hszA : wr.heap.size < wA.heap.size := HXA.out.lt
          have HB9 := Lib.hid (((((((((HBb.out.setCell (p := ⟨wr.heap.size, 3, none⟩) (Nat.le_refl _) (.int .i64 (renE f t s.a).op)).setCell (p := ⟨wr.heap.size, 4, none⟩) (Nat.le_refl _) (.int .i64 (renE f t s.a).n)).setCell (p := ⟨wr.heap.size, 5, none⟩) (Nat.le_refl _) (.string (renE f t s.a).s)).setCell (p := ⟨wr.heap.size, 6, none⟩) (Nat.le_refl _) (.slice pA (renE f t s.a).args.length qA)).setCell (p := ⟨wr.heap.size, 7, none⟩) (Nat.le_refl _) (.int .i64 (renE f t s.b).op)).setCell (p := ⟨wr.heap.size, 8, none⟩) (Nat.le_refl _) (.int .i64 (renE f t s.b).n)).setCell (p := ⟨wr.heap.size, 9, none⟩) (Nat.le_refl _) (.string (renE f t s.b).s)).setCell (p := ⟨wr.heap.size, 10, none⟩) (Nat.le_refl _) (.slice pB (renE f t s.b).args.length qB)))
          have HKA2 := Lib.hid (HKA.out.next (Z' := fun j => j < wr.heap.size + 1) (w' := wB) ⟨fun j hj _ => HBB.out.block j hj, fun j hj => Or.inl (show j < w4.heap.size by omega)⟩)
          have HKB2 := Lib.hid (HKB.out.next (Z' := fun j => j < wr.heap.size + 1) (w' := wB) ⟨fun _ _ _ => rfl, fun j hj => Or.inl (show j < wA.heap.size by omega)⟩)
          go_wp2_with fail
          go_meet
          case rel =>
            refine ⟨rfl, pA, qA, pB, qB, HX9.out, HB9.out, HKA2.out.next ⟨fun j _ hz => ?_, fun j hj => Or.inl hj⟩, HKB2.out.next ⟨fun j _ hz => ?_, fun j hj => Or.inl hj⟩⟩
            all_goals
              have hne : j ≠ wr.heap.size := by omega
              repeat rw [Below.heap_setCell _ _ _ _ (by exact hne)]
      case rest =>
        obtain ⟨rfl, pA, qA, pB, qB, HX9, HB9, HKA, HKB⟩ := hcut
        have l11 := HX9.out.cell 11
        have l12 := HX9.out.cell 12
        simp at l11 l12
        clear j3 j4 j5 j6 j7 j8 j9 j10
        go_upto_region 7 with fail
        go_cut [10] from 10 to 43 (fun v10 wx => v10 = .int .i64 (k : Int) ∧ ∃ pC qC pD qD, Hid (Bx wx wr.heap.size #[.int .i64 s.op, .string (swap f t s.name), .int .i64 s.mx, .int .i64 (renE f t s.a).op, .int .i64 (renE f t s.a).n, .string (renE f t s.a).s, .slice pA (renE f t s.a).args.length qA, .int .i64 (renE f t s.b).op, .int .i64 (renE f t s.b).n, .string (renE f t s.b).s, .slice pB (renE f t s.b).args.length qB, .slice pC s.body.length qC, .slice pD s.els.length qD] 48) ∧ Hid (Below wr.heap.size wr wx) ∧ Hid (KidsF (fun j => j < wr.heap.size + 1) wx pA (renE f t s.a).args) ∧ Hid (KidsF (fun j => j < wr.heap.size + 1) wx pB (renE f t s.b).args) ∧ Hid (BodiesF (fun j => j < wr.heap.size + 1) wx pC (renB f t s.body)) ∧ Hid (BodiesF (fun j => j < wr.heap.size + 1) wx pD (renB f t s.els)))
        case first =>
          go_region_with
            (first
              | (go_at_call 76; (with_reducible refine (HQ1.out _ HB9.out.drew).mono ?_); rintro e' wC ⟨pC, qC, rfl, hkC, hbC⟩; have HKC := Lib.hid hkC; have HBC := Lib.hid hbC; have HBc := Lib.hid (HB9.out.drew.trans (hbC.mono HB9.out.drew.size)); have hXC := Bx.below (w := wc.drew) HX9.out hbC; have HXC := Lib.hid hXC; have m11 := hXC.cell 11; have m12 := hXC.cell 12; simp at m11 m12; clear hkC hbC hXC)
              | (go_at_call 76; (with_reducible refine (HQ2.out _ HBc.out).mono ?_); rintro e' wD ⟨pD, qD, rfl, hkD, hbD⟩; have HKD := Lib.hid hkD; have HBD := Lib.hid hbD; have HBd := Lib.hid (HBc.out.trans (hbD.mono HBc.out.size)); have hXD := HXC.out.below hbD; have HXD := Lib.hid hXD; have o11 := hXD.cell 11; have o12 := hXD.cell 12; have f11 := hXD.free 11; have f12 := hXD.free 12; simp at o11 o12; clear hkD hbD hXD))
          all_goals
            have hmB : (s.body.map (renS f t)) = renB f t s.body := (renB_map f t s.body).symm
            have hmE : (s.els.map (renS f t)) = renB f t s.els := (renB_map f t s.els).symm
            rw [hmB] at HKC
            rw [hmE] at HKD
            have hX10 := (HXD.out.set 11 (u := .slice pC s.body.length qC)).set 12 (u := .slice pD s.els.length qD)
            simp only [List.setIfInBounds_toArray, List.set_cons_succ, List.set_cons_zero] at hX10
            have HX10 := Lib.hid hX10
            have hsz9 : wr.heap.size < wc.heap.size := HX9.out.lt
            have hszC : wr.heap.size < wC.heap.size := HXC.out.lt
            have HB10 := Lib.hid ((HBd.out.setCell (p := ⟨wr.heap.size, 11, none⟩) (Nat.le_refl _) (.slice pC s.body.length qC)).setCell (p := ⟨wr.heap.size, 12, none⟩) (Nat.le_refl _) (.slice pD s.els.length qD))
            have HBCD := Lib.hid (below_2 (w := wc.drew) HBC.out HBD.out)
            have HKA2 := Lib.hid (HKA.out.next (Z' := fun j => j < wr.heap.size + 1) (w' := wD) ⟨fun j hj _ => HBCD.out.block j hj, fun j hj => Or.inl hj⟩)
            have HKB2 := Lib.hid (HKB.out.next (Z' := fun j => j < wr.heap.size + 1) (w' := wD) ⟨fun j hj _ => HBCD.out.block j hj, fun j hj => Or.inl hj⟩)
            have HKC2 := Lib.hid (HKC.out.next (Z' := fun j => j < wr.heap.size + 1) (w' := wD) ⟨fun j hj _ => HBD.out.block j hj, fun j hj => Or.inl (show j < wc.heap.size by omega)⟩)
            have HKD2 := Lib.hid (HKD.out.next (Z' := fun j => j < wr.heap.size + 1) (w' := wD) ⟨fun _ _ _ => rfl, fun j hj => Or.inl (show j < wC.heap.size by omega)⟩)
            go_wp2_with fail
            go_meet
            case rel =>
              refine ⟨rfl, pC, qC, pD, qD, HX10.out, HB10.out, HKA2.out.next ⟨fun j _ hz => ?_, fun j hj => Or.inl hj⟩, HKB2.out.next ⟨fun j _ hz => ?_, fun j hj => Or.inl hj⟩, HKC2.out.next ⟨fun j _ hz => ?_, fun j hj => Or.inl hj⟩, HKD2.out.next ⟨fun j _ hz => ?_, fun j hj => Or.inl hj⟩⟩
              all_goals
                have hne : j ≠ wr.heap.size := by omega
                repeat rw [Below.heap_setCell _ _ _ _ (by exact hne)]
        case rest =>
          obtain ⟨rfl, pC, qC, pD, qD, HX10, HB10, HKA1, HKB1, HKC1, HKD1⟩ := hcut
          have HO10 := Lib.hid (HO.out.below HB10.out)
          have hzz10 := HB10.out.size
          obtain ⟨y, hy⟩ : ∃ y : SX, y = ⟨.mk s.op (swap f t s.name) s.mx (renE f t s.a) (renE f t s.b) (renB f t s.body) (renB f t s.els), pA, qA, pB, qB, pC, qC, pD, qD⟩ := ⟨_, rfl⟩
          have hK6 : kS.inn (fun j => j < w.heap.size ∨ (Value.slice p lt.length q).ownBlock = some j) wc y := by
            have hst : Stays (fun j => j < wr.heap.size + 1) (fun j => j < w.heap.size ∨ (Value.slice p lt.length q).ownBlock = some j) wc wc := ⟨fun _ _ _ => rfl, fun j hj => by
              rcases hj with hj | hj
              · left; omega
              · left; have := (HO.out.lt j hj).2; omega⟩
            rw [hy]
            exact ⟨HKA1.out.next hst, HKB1.out.next hst, HKC1.out.next hst, HKD1.out.next hst⟩
          have HK6 := Lib.hid hK6
          have HY := Lib.hid hy
          have c0 := HX10.out.cell 0
          have c1 := HX10.out.cell 1
          have c2 := HX10.out.cell 2
          have c3 := HX10.out.cell 3
          have c4 := HX10.out.cell 4
          have c5 := HX10.out.cell 5
          have c6 := HX10.out.cell 6
          have c7 := HX10.out.cell 7
          have c8 := HX10.out.cell 8
          have c9 := HX10.out.cell 9
          have c10 := HX10.out.cell 10
          have c11 := HX10.out.cell 11
          have c12 := HX10.out.cell 12
          simp at c0 c1 c2 c3 c4 c5 c6 c7 c8 c9 c10 c11 c12
          have HCS : Hid ([.int .i64 s.op, .string (swap f t s.name), .int .i64 s.mx, .int .i64 (renE f t s.a).op, .int .i64 (renE f t s.a).n, .string (renE f t s.a).s, .slice pA (renE f t s.a).args.length qA, .int .i64 (renE f t s.b).op, .int .i64 (renE f t s.b).n, .string (renE f t s.b).s, .slice pB (renE f t s.b).args.length qB, .slice pC s.body.length qC, .slice pD s.els.length qD] = kS.f y) := by
            show _ = _
            rw [hy, ← renB_len f t s.body, ← renB_len f t s.els]
            rfl
          have HYS : Hid (y.s = renS f t s) := by show _ = _; rw [hy, HS2.out]
          clear hK6 hy l11 l12
          go_wp2_with (at_builtin; refine kS.wpList rfl (.tmp 39) (.tmp 41) rfl w.heap.size (.slice p lt.length q) lt rfl HO10.out.row y _ HCS.out wc.heap.size rfl rfl (by omega) (by omega) ?_; intro g6 cap6 w6 hown6 hgrow6 hlie6)
          have HO6 := Lib.hid (HO10.out.push HK6.out (fun j hj => by omega) hown6 hgrow6 hlie6)
          have HB6 := Lib.hid (HO10.out.frame (HB.out.trans (HB10.out.mono hz)) (by omega) hgrow6)
          have HX6 : Hid ((lt ++ [y]).map SX.s = (l.take (k + 1)).map (renS f t)) := by show _ = _; rw [HN.out, List.map_append, HX.out, List.map_singleton, HYS.out]
          have HL6 : Hid ((lt ++ [y]).length = lt.length + 1) := by show _ = _; simp
          clear hown6 hgrow6 hlie6
          go_wp2_with fail
          go_roundw
          case rel =>
            exact ⟨k + 1, lt ++ [y], some ⟨g6, 0, none⟩, cap6, by omega, by go_num, by rw [HL6.out], by show Own1 _ _ _ _ _ _; rw [HL6.out]; exact HO6.out, HX6.out, HB6.out⟩
          case measure => simp [intOf]; omega
    · have HXE : Hid (lt.map SX.s = l.map (renS f t)) := by
        show _ = _
        rw [HX.out, List.take_of_length_le (by rw [HL.out]; omega)]
      have hK := HO.out.bodies
      have hlen : lt.length = (l.map (renS f t)).length := by rw [← HXE.out, List.length_map]
      have HV : Hid (GivesS w (l.map (renS f t)) (.returned (.slice p lt.length q)) wr) := by
        refine ⟨p, q, by rw [hlen], ?_, HB.out⟩
        rw [← HXE.out]
        exact hK
      clear hK hlen
      go_wp2_with fail
      go_ret
      exact HV.out
end Go.Proofs.YtkjefigebdbkaaaDoor.A
