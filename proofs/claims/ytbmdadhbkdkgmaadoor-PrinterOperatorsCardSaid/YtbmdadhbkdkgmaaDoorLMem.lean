/-
  Lists of tokens in memory.
-/
import Derived.Test.YtbmdadhbkdkgmaaDoorLRefsC
import Derived.OwnWalk
import Derived.Laws.AppendOwnNone
import Derived.Deep.AppendLies
import Derived.Laws.MakeOwn
namespace Go.Proofs.YtbmdadhbkdkgmaaDoor.L
open Go.RowKit

/-- a token, as the program has it -/
structure T where
  k : Int
  t : ByteArray
  n : Int
  line : Int
/-- the token that it stands for -/
def T.tok (p : T) : Tok := ⟨p.k, p.t.data.toList, p.n, p.line⟩
def T.val (p : T) : Value := .agg #[.int .i64 p.k, .string p.t, .int .i64 p.n, .int .i64 p.line]
def T.cells (p : T) : List Value := [.int .i64 p.k, .string p.t, .int .i64 p.n, .int .i64 p.line]
def toks (xs : List T) : List Tok := xs.map T.tok
theorem toks_len (xs : List T) : (toks xs).length = xs.length := List.length_map _
/-- the four cells of a pair -/
structure At (w : World) (b o : Nat) (p : T) : Prop where
  key : w.cell? ⟨b, o, none⟩ = some (.int .i64 p.k)
  kind : w.cell? ⟨b, o + 1, none⟩ = some (.string p.t)
  num : w.cell? ⟨b, o + 2, none⟩ = some (.int .i64 p.n)
  str : w.cell? ⟨b, o + 3, none⟩ = some (.int .i64 p.line)
/-- the slice at a holds the pairs xs -/
def Tks (w : World) (a : Option Addr) (xs : List T) : Prop :=
  xs = [] ∨ ∃ b o, a = some ⟨b, o, none⟩ ∧ ∀ j (h : j < xs.length), At w b (o + j * 4) xs[j]
theorem At.below {w w' : World} {b o B : Nat} {p : T} (h : At w b o p) (hb : Below B w w') (hB : b < B) : At w' b o p :=
  ⟨(hb.cell (by exact hB)).trans h.key, (hb.cell (by exact hB)).trans h.kind, (hb.cell (by exact hB)).trans h.num, (hb.cell (by exact hB)).trans h.str⟩
theorem At.lt {w : World} {b o : Nat} {p : T} (h : At w b o p) : b < w.heap.size := block_lt_of_cell h.key
theorem Tks.below {w w' : World} {a : Option Addr} {xs : List T} (h : Tks w a xs) (hb : Below w.heap.size w w') : Tks w' a xs := by
  rcases h with h | ⟨b, o, rfl, h⟩
  · exact Or.inl h
  · exact Or.inr ⟨b, o, rfl, fun j hj => (h j hj).below hb (h j hj).lt⟩
theorem Tks.nil (w : World) (a : Option Addr) : Tks w a [] := Or.inl rfl
theorem Tks.open {w : World} {a : Option Addr} {xs : List T} (h : Tks w a xs) {k : Nat} (hk : k < xs.length) : ∃ b o, a = some ⟨b, o, none⟩ ∧ ∀ j (h : j < xs.length), At w b (o + j * 4) xs[j] :=
  h.resolve_left (fun e => by rw [e] at hk; exact absurd hk (Nat.not_lt_zero _))

theorem grownW {f : FuncId} {args : Array Value} {v : Value} {W : World} (h : ∀ w, Calls Tryd.prog f args w fun e w' => e = .returned v ∧ Below w.heap.size w w') (d : Nat) (os : Array Obj) :
    Calls Tryd.prog f args (Sort.grow (redrawn W d) os) fun e w'' => e = .returned v ∧ ∃ p : Regrown, w'' = Sort.grow (redrawn W p.d) p.os := Calls.regrown_of (h _)
theorem grownS {f : FuncId} {args : Array Value} {v : Value} {W : World} (h : ∀ w, Calls Tryd.prog f args w fun e w' => e = .returned v ∧ w' = w) (d : Nat) (os : Array Obj) :
    Calls Tryd.prog f args (Sort.grow (redrawn W d) os) fun e w'' => e = .returned v ∧ ∃ p : Regrown, w'' = Sort.grow (redrawn W p.d) p.os :=
  Calls.regrown_of ((h _).mono fun _ _ ⟨a, b⟩ => ⟨a, by rw [b]; exact Below.refl _ _⟩)
theorem grownP {f : FuncId} {args : Array Value} {v : Value} {W : World} {a : Option Addr} {xs : List T} (hP : Tks W a xs) (h : ∀ w, Tks w a xs → Calls Tryd.prog f args w fun e w' => e = .returned v ∧ Below w.heap.size w w') (d : Nat) (os : Array Obj) :
    Calls Tryd.prog f args (Sort.grow (redrawn W d) os) fun e w'' => e = .returned v ∧ ∃ p : Regrown, w'' = Sort.grow (redrawn W p.d) p.os := Calls.regrown_of (h _ (hP.below (below_regrown W d os)))
theorem At.grown {W : World} {b o : Nat} {p : T} (h : At W b o p) : (∀ (d : Nat) (os : Array Obj), (Sort.grow (redrawn W d) os).cell? ⟨b, o, none⟩ = some (.int .i64 p.k)) ∧ (∀ (d : Nat) (os : Array Obj), (Sort.grow (redrawn W d) os).cell? ⟨b, o + 1, none⟩ = some (.string p.t)) ∧
    (∀ (d : Nat) (os : Array Obj), (Sort.grow (redrawn W d) os).cell? ⟨b, o + 2, none⟩ = some (.int .i64 p.n)) ∧ (∀ (d : Nat) (os : Array Obj), (Sort.grow (redrawn W d) os).cell? ⟨b, o + 3, none⟩ = some (.int .i64 p.line)) :=
  ⟨fun d os => cell_regrown h.key d os, fun d os => cell_regrown h.kind d os, fun d os => cell_regrown h.num d os, fun d os => cell_regrown h.str d os⟩
/-- the cells of a list of pairs -/
def pc (xs : List T) : List Value := xs.flatMap T.cells
theorem pc_len : ∀ xs : List T, (pc xs).length = xs.length * 4
  | [] => rfl
  | p :: xs => by
    unfold pc
    rw [List.flatMap_cons, List.length_append, List.length_cons]
    have := pc_len xs
    unfold pc at this
    rw [this]
    show 4 + _ = _
    omega
theorem pc_append (xs ys : List T) : pc (xs ++ ys) = pc xs ++ pc ys := List.flatMap_append
theorem pc_one (p : T) : pc [p] = [.int .i64 p.k, .string p.t, .int .i64 p.n, .int .i64 p.line] := rfl
theorem pc_get : ∀ (xs : List T) (k : Nat) (h : k < xs.length) (r : Nat), r < 4 → (pc xs)[k * 4 + r]? = xs[k].cells[r]?
  | p :: xs, 0, _, r, hr => by
    unfold pc
    rw [List.flatMap_cons, List.getElem?_append_left (by show 0 * 4 + r < 4; omega)]
    simp
  | p :: xs, k + 1, h, r, hr => by
    have ih := pc_get xs k (by simpa using h) r hr
    unfold pc at *
    rw [List.flatMap_cons, List.getElem?_append_right (by show 4 ≤ _; omega)]
    have e : (k + 1) * 4 + r - (T.cells p).length = k * 4 + r := by show (k + 1) * 4 + r - 4 = _; omega
    rw [e, ih]
    simp
/-- the slice at a, of capacity c, holds the pairs xs -/
structure Sl (w : World) (a : Option Addr) (c : Nat) (xs : List T) : Prop where
  cap : xs.length ≤ c
  nil : a = none → c = 0
  pos : c ≠ 0 → ∃ b o, a = some ⟨b, o, none⟩ ∧ ∀ j (h : j < xs.length), At w b (o + j * 4) xs[j]
theorem Sl.prs {w : World} {a : Option Addr} {c : Nat} {xs : List T} (h : Sl w a c xs) : Tks w a xs := by
  by_cases hc : c = 0
  · exact Or.inl (List.length_eq_zero_iff.1 (by have := h.cap; omega))
  · exact Or.inr (h.pos hc)
theorem Sl.below {w w' : World} {a : Option Addr} {c : Nat} {xs : List T} (h : Sl w a c xs) (hb : Below w.heap.size w w') : Sl w' a c xs :=
  ⟨h.cap, h.nil, fun hc => by
    obtain ⟨b, o, e, h1⟩ := h.pos hc
    exact ⟨b, o, e, fun j hj => (h1 j hj).below hb (h1 j hj).lt⟩⟩
theorem Sl.alloc {w : World} {a : Option Addr} {c : Nat} {xs : List T} (h : Sl w a c xs) (o : Obj) : Sl (w.alloc o) a c xs := h.below (below_box w o)
theorem Sl.belowN {w w' : World} {o : Obj} {a : Option Addr} {c : Nat} {xs : List T} (h : Sl (w.alloc o) a c xs) (hb : Below (w.heap.size + 1) (w.alloc o) w') : Sl w' a c xs := h.below (by simpa using hb)
theorem Sl.empty (w : World) : Sl w none 0 [] := ⟨Nat.le_refl _, fun _ => rfl, fun h => absurd rfl h⟩
/-- the cells of a slice, one after the other -/
theorem Sl.cells {w : World} {b o : Nat} {xs : List T} (h : ∀ j (h : j < xs.length), At w b (o + j * 4) xs[j]) : ∀ j u, (pc xs)[j]? = some u → w.cell? ((⟨b, o, none⟩ : Addr).add j) = some u := by
  intro j u hu
  have hj : j < xs.length * 4 := by rw [← pc_len]; exact (List.getElem?_eq_some_iff.1 hu).1
  obtain ⟨k, r, rfl, hr⟩ : ∃ k r, j = k * 4 + r ∧ r < 4 := ⟨j / 4, j % 4, by omega, by omega⟩
  have hk : k < xs.length := by omega
  rw [pc_get xs k hk r hr] at hu
  rw [Addr.add_lit]
  obtain ⟨c0, c1, c2, c3⟩ := h k hk
  match r, hr with
  | 0, _ => rw [show o + (k * 4 + 0) = o + k * 4 by omega, c0]; exact hu
  | 1, _ => rw [show o + (k * 4 + 1) = o + k * 4 + 1 by omega, c1]; exact hu
  | 2, _ => rw [show o + (k * 4 + 2) = o + k * 4 + 2 by omega, c2]; exact hu
  | 3, _ => rw [show o + (k * 4 + 3) = o + k * 4 + 3 by omega, c3]; exact hu
theorem own_belowO {w w' : World} {B n size : Nat} {e : TypeId} {v : Value} {xs : List Value} (h : w.ownsRow B e size v n xs) (hb : Below w.heap.size w w') : w'.ownsRow B e size v n xs := by
  refine ⟨h.1, ?_⟩
  rcases h.2 with h0 | ⟨g, cap, cur, hv, hB, hg, r⟩
  · exact Or.inl h0
  · exact Or.inr ⟨g, cap, cur, hv, hB, (hb.block g (Array.getElem?_eq_some_iff.1 hg).1).trans hg, r⟩
theorem cells_new (w : World) (t : TypeId) (a b c d : Value) : ∀ j u, [a, b, c, d][j]? = some u → (w.alloc (.cells #[a, b, c, d] t)).cell? ((⟨w.heap.size, 0, none⟩ : Addr).add j) = some u := by
  intro j u hu
  have hj : j < 4 := (List.getElem?_eq_some_iff.1 hu).1
  rw [Addr.add_lit, Nat.zero_add]
  have h1 : (w.alloc (.cells #[a, b, c, d] t)).heap[w.heap.size]? = some (.cells #[a, b, c, d] t) := by
    show (w.heap.push _)[w.heap.size]? = _
    simp
  rw [cell_of_row _ _ _ _ _ _ h1, ← Array.getElem?_toList]
  exact hu
theorem one_cells {p : T} : ∀ u ∈ p.cells, u.oneCell' = true := by
  intro u hu
  simp [T.cells] at hu
  rcases hu with rfl | rfl | rfl | rfl <;> rfl
theorem below_app {B : Nat} {w1 wr w2 : World} {o : Obj} {v : Value} (hb : Below B w1 wr) (hB : B ≤ wr.heap.size) (hg : (wr.alloc o).grownBy w2 v.ownBlock) (hv : ∀ g, v.ownBlock = some g → B ≤ g) : Below B w1 w2 :=
  (hb.alloc hB o).grown hg (by simp; omega) hv
theorem below_grown {B : Nat} {w1 wr w2 : World} {v : Value} (hb : Below B w1 wr) (hB : B ≤ wr.heap.size) (hg : wr.grownBy w2 v.ownBlock) (hv : ∀ g, v.ownBlock = some g → B ≤ g) : Below B w1 w2 :=
  hb.grown hg hB hv
theorem own_ge {w : World} {B n size : Nat} {e : TypeId} {v : Value} {xs : List Value} (h : w.ownsRow B e size v n xs) : ∀ g, v.ownBlock = some g → B ≤ g := by
  intro g hg
  rcases h.2 with ⟨rfl, _⟩ | ⟨g', cap, cur, rfl, hb, _⟩
  · cases hg
  · cases hg; exact hb
theorem grown_self (w : World) (r : Option Nat) : w.grownBy w r := ⟨rfl, rfl, rfl, Nat.le_refl _, fun _ _ _ => rfl⟩
theorem own_lt {w : World} {B n size : Nat} {e : TypeId} {v : Value} {xs : List Value} (h : w.ownsRow B e size v n xs) : ∀ g, v.ownBlock = some g → g < w.heap.size := by
  intro g hg
  rcases h.2 with ⟨rfl, _⟩ | ⟨g', cap, cur, rfl, _, hh, _⟩
  · cases hg
  · cases hg; exact (Array.getElem?_eq_some_iff.1 hh).1
theorem at_far {w3 w4 : World} {b o : Nat} {p : T} {ob : Obj} {r : Option Nat} (h : At w3 b o p) (hg : (w3.alloc ob).grownBy w4 r) (hne : r ≠ some b) : At w4 b o p := by
  have h' : At (w3.alloc ob) b o p := h.below (below_box w3 ob) h.lt
  exact ⟨(hg.cell_far _ h'.lt (fun e => hne e.symm)).trans h'.key, (hg.cell_far _ h'.lt (fun e => hne e.symm)).trans h'.kind, (hg.cell_far _ h'.lt (fun e => hne e.symm)).trans h'.num, (hg.cell_far _ h'.lt (fun e => hne e.symm)).trans h'.str⟩
/-- block b is the call's own, holds a pair and may be written -/
structure MineT (w : World) (b : Nat) : Prop where
  cells : ∃ p, At w b 0 p
  free : w.frozen? ⟨b, 0, none⟩ = false ∧ w.frozen? ⟨b, 1, none⟩ = false ∧ w.frozen? ⟨b, 2, none⟩ = false ∧ w.frozen? ⟨b, 3, none⟩ = false
theorem MineT.below {w w' : World} {b B : Nat} (h : MineT w b) (hb : Below B w w') (hB : b < B) : MineT w' b := by
  obtain ⟨⟨p, h1⟩, h2, h3, h4, h5⟩ := h
  exact ⟨⟨p, h1.below hb hB⟩, (hb.frozen (by exact hB)).trans h2, (hb.frozen (by exact hB)).trans h3, (hb.frozen (by exact hB)).trans h4, (hb.frozen (by exact hB)).trans h5⟩
theorem MineT.lt {w : World} {b : Nat} (h : MineT w b) : b < w.heap.size := by
  obtain ⟨⟨p, h1⟩, _⟩ := h
  exact h1.lt
def zeroT   : T := ⟨0, ⟨#[]⟩, 0, 0⟩
theorem storedT {w : World} {b : Nat} {p : T} (h : At w b 0 p) (q : T) :
    At ((((w.setCell ⟨b, 0, none⟩ (.int .i64 q.k)).setCell ⟨b, 1, none⟩ (.string q.t)).setCell ⟨b, 2, none⟩ (.int .i64 q.n)).setCell ⟨b, 3, none⟩ (.int .i64 q.line)) b 0 q := by
  obtain ⟨h1, h2, h3, h4⟩ := h
  simp only [Nat.zero_add] at h1 h2 h3 h4
  exact ⟨by go_simp, by go_simp, by go_simp, by go_simp⟩
theorem storedT_below {w w1 : World} {b B : Nat} (h : Below B w w1) (hb : B ≤ b) (x y z u : Value) : Below B w ((((w1.setCell ⟨b, 0, none⟩ x).setCell ⟨b, 1, none⟩ y).setCell ⟨b, 2, none⟩ z).setCell ⟨b, 3, none⟩ u) :=
  (((h.setCell hb _).setCell hb _).setCell hb _).setCell hb _
theorem own_setCell {w : World} {B n size b o : Nat} {e : TypeId} {v u : Value} {xs : List Value} (h : w.ownsRow B e size v n xs) (hne : v.ownBlock ≠ some b) : (w.setCell ⟨b, o, none⟩ u).ownsRow B e size v n xs := by
  refine ⟨h.1, ?_⟩
  rcases h.2 with h0 | ⟨g, cap, cur, rfl, hB, hg, r⟩
  · exact Or.inl h0
  · exact Or.inr ⟨g, cap, cur, rfl, hB, (Below.heap_setCell _ _ _ _ (fun e => hne (by show some g = some b; rw [e]))).trans hg, r⟩
theorem own_stored {w : World} {B n size b : Nat} {e : TypeId} {v x y z u : Value} {xs : List Value} (h : w.ownsRow B e size v n xs) (hne : v.ownBlock ≠ some b) :
    ((((w.setCell ⟨b, 0, none⟩ x).setCell ⟨b, 1, none⟩ y).setCell ⟨b, 2, none⟩ z).setCell ⟨b, 3, none⟩ u).ownsRow B e size v n xs := own_setCell (own_setCell (own_setCell (own_setCell h hne) hne) hne) hne
theorem at_far0 {w3 w4 : World} {b o : Nat} {p : T} {r : Option Nat} (h : At w3 b o p) (hg : w3.grownBy w4 r) (hne : r ≠ some b) : At w4 b o p :=
  ⟨(hg.cell_far _ h.lt (fun e => hne e.symm)).trans h.key, (hg.cell_far _ h.lt (fun e => hne e.symm)).trans h.kind, (hg.cell_far _ h.lt (fun e => hne e.symm)).trans h.num, (hg.cell_far _ h.lt (fun e => hne e.symm)).trans h.str⟩
end Go.Proofs.YtbmdadhbkdkgmaaDoor.L
