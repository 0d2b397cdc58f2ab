/-
  Lists of pairs that the program gathers: rows that a call owns, appended to.
-/
import Derived.Test.YtieloegadhgipaaSSames
import Derived.Laws.AppendOwnNone
namespace Go.Proofs.Ytieloegadhgipaa.S
open Go.RowKit
open Go.Proofs.Ytieloegadhgipaa.V (ret_bool ret_int ret_string below_2 below_box below_box2)

/-- the cells of a list of pairs -/
def pc (xs : List P) : List Value := xs.flatMap P.cells
theorem pc_len : ∀ xs : List P, (pc xs).length = xs.length * 4
  | [] => rfl
  | p :: xs => by
    unfold pc
    rw [List.flatMap_cons, List.length_append, List.length_cons]
    have := pc_len xs
    unfold pc at this
    rw [this]
    show 4 + _ = _
    omega
theorem pc_append (xs ys : List P) : pc (xs ++ ys) = pc xs ++ pc ys := List.flatMap_append
theorem pc_one (p : P) : pc [p] = [.string p.key, .int .i64 p.k, .int .i64 p.n, .string p.s] := rfl
theorem pc_get : ∀ (xs : List P) (k : Nat) (h : k < xs.length) (r : Nat), r < 4 → (pc xs)[k * 4 + r]? = xs[k].cells[r]?
  | p :: xs, 0, _, r, hr => by
    unfold pc
    rw [List.flatMap_cons, List.getElem?_append_left (by show 0 * 4 + r < 4; omega)]
    simp
  | p :: xs, k + 1, h, r, hr => by
    have ih := pc_get xs k (by simpa using h) r hr
    unfold pc at *
    rw [List.flatMap_cons, List.getElem?_append_right (by show 4 ≤ _; omega)]
    have e : (k + 1) * 4 + r - (P.cells p).length = k * 4 + r := by show (k + 1) * 4 + r - 4 = _; omega
    rw [e, ih]
    simp
/-- the slice at a, of capacity c, holds the pairs xs -/
structure Sl (w : World) (a : Option Addr) (c : Nat) (xs : List P) : Prop where
  cap : xs.length ≤ c
  nil : a = none → c = 0
  pos : c ≠ 0 → ∃ b o, a = some ⟨b, o, none⟩ ∧ ∀ j (h : j < xs.length), At w b (o + j * 4) xs[j]
theorem Sl.prs {w : World} {a : Option Addr} {c : Nat} {xs : List P} (h : Sl w a c xs) : Prs w a xs := by
  by_cases hc : c = 0
  · exact Or.inl (List.length_eq_zero_iff.1 (by have := h.cap; omega))
  · exact Or.inr (h.pos hc)
theorem Sl.below {w w' : World} {a : Option Addr} {c : Nat} {xs : List P} (h : Sl w a c xs) (hb : Below w.heap.size w w') : Sl w' a c xs :=
  ⟨h.cap, h.nil, fun hc => by
    obtain ⟨b, o, e, h1⟩ := h.pos hc
    exact ⟨b, o, e, fun j hj => (h1 j hj).below hb (h1 j hj).lt⟩⟩
theorem Sl.alloc {w : World} {a : Option Addr} {c : Nat} {xs : List P} (h : Sl w a c xs) (o : Obj) : Sl (w.alloc o) a c xs := h.below (below_box w o)
theorem Sl.belowN {w w' : World} {o : Obj} {a : Option Addr} {c : Nat} {xs : List P} (h : Sl (w.alloc o) a c xs) (hb : Below (w.heap.size + 1) (w.alloc o) w') : Sl w' a c xs := h.below (by simpa using hb)
theorem Sl.empty (w : World) : Sl w none 0 [] := ⟨Nat.le_refl _, fun _ => rfl, fun h => absurd rfl h⟩
/-- the cells of a slice, one after the other -/
theorem Sl.cells {w : World} {b o : Nat} {xs : List P} (h : ∀ j (h : j < xs.length), At w b (o + j * 4) xs[j]) : ∀ j u, (pc xs)[j]? = some u → w.cell? ((⟨b, o, none⟩ : Addr).add j) = some u := by
  intro j u hu
  have hj : j < xs.length * 4 := by rw [← pc_len]; exact (List.getElem?_eq_some_iff.1 hu).1
  obtain ⟨k, r, rfl, hr⟩ : ∃ k r, j = k * 4 + r ∧ r < 4 := ⟨j / 4, j % 4, by omega, by omega⟩
  have hk : k < xs.length := by omega
  rw [pc_get xs k hk r hr] at hu
  rw [Addr.add_lit]
  obtain ⟨c0, c1, c2, c3⟩ := h k hk
  match r, hr with
  | 0, _ => rw [show o + (k * 4 + 0) = o + k * 4 by omega, c0]; exact hu
  | 1, _ => rw [show o + (k * 4 + 1) = o + k * 4 + 1 by omega, c1]; exact hu
  | 2, _ => rw [show o + (k * 4 + 2) = o + k * 4 + 2 by omega, c2]; exact hu
  | 3, _ => rw [show o + (k * 4 + 3) = o + k * 4 + 3 by omega, c3]; exact hu
/-- what the call owns can be read -/
theorem own_sl {w : World} {B : Nat} {v : Value} {xs : List P} (h : w.ownsRow B 33 4 v xs.length (pc xs)) : ∃ a c, v = .slice a xs.length c ∧ Sl w a c xs := by
  rcases h.2 with ⟨rfl, h0⟩ | ⟨g, cap, cur, rfl, hb, hg, hn, hm, hs, ht⟩
  · have : xs = [] := List.length_eq_zero_iff.1 h0
    subst this
    exact ⟨none, 0, rfl, Sl.empty w⟩
  · refine ⟨some ⟨g, 0, none⟩, cap, rfl, ⟨hn, (fun h => by cases h), fun hc => ⟨g, 0, rfl, fun j hj => ?_⟩⟩⟩
    have key : ∀ r, r < 4 → w.cell? ⟨g, 0 + j * 4 + r, none⟩ = xs[j].cells[r]? := by
      intro r hr
      have := h.cellAt (0 + j * 4 + r) (by omega)
      rw [this, Nat.zero_add]
      exact pc_get xs j hj r hr
    exact ⟨key 0 (by omega), key 1 (by omega), key 2 (by omega), key 3 (by omega)⟩
theorem own_belowO {w w' : World} {B n size : Nat} {e : TypeId} {v : Value} {xs : List Value} (h : w.ownsRow B e size v n xs) (hb : Below w.heap.size w w') : w'.ownsRow B e size v n xs := by
  refine ⟨h.1, ?_⟩
  rcases h.2 with h0 | ⟨g, cap, cur, hv, hB, hg, r⟩
  · exact Or.inl h0
  · exact Or.inr ⟨g, cap, cur, hv, hB, (hb.block g (Array.getElem?_eq_some_iff.1 hg).1).trans hg, r⟩
theorem info_pair : (Try.prog.info? 33).map (fun i => (i.zero, i.size, i.bytes)) = some (some (.agg #[.string ⟨#[]⟩, .int .i64 0, .int .i64 0, .string ⟨#[]⟩]), 4, 48) := by kernel_rfl
theorem cells_new (w : World) (t : TypeId) (a b c d : Value) : ∀ j u, [a, b, c, d][j]? = some u → (w.alloc (.cells #[a, b, c, d] t)).cell? ((⟨w.heap.size, 0, none⟩ : Addr).add j) = some u := by
  intro j u hu
  have hj : j < 4 := (List.getElem?_eq_some_iff.1 hu).1
  rw [Addr.add_lit, Nat.zero_add]
  have h1 : (w.alloc (.cells #[a, b, c, d] t)).heap[w.heap.size]? = some (.cells #[a, b, c, d] t) := by
    show (w.heap.push _)[w.heap.size]? = _
    simp
  rw [cell_of_row _ _ _ _ _ _ h1, ← Array.getElem?_toList]
  exact hu
theorem one_cells {p : P} : ∀ u ∈ p.cells, u.oneCell' = true := by
  intro u hu
  simp [P.cells] at hu
  rcases hu with rfl | rfl | rfl | rfl <;> rfl
theorem below_app {B : Nat} {w1 wr w2 : World} {o : Obj} {v : Value} (hb : Below B w1 wr) (hB : B ≤ wr.heap.size) (hg : (wr.alloc o).grownBy w2 v.ownBlock) (hv : ∀ g, v.ownBlock = some g → B ≤ g) : Below B w1 w2 :=
  (hb.alloc hB o).grown hg (by simp; omega) hv
theorem below_grown {B : Nat} {w1 wr w2 : World} {v : Value} (hb : Below B w1 wr) (hB : B ≤ wr.heap.size) (hg : wr.grownBy w2 v.ownBlock) (hv : ∀ g, v.ownBlock = some g → B ≤ g) : Below B w1 w2 :=
  hb.grown hg hB hv
theorem own_ge {w : World} {B n size : Nat} {e : TypeId} {v : Value} {xs : List Value} (h : w.ownsRow B e size v n xs) : ∀ g, v.ownBlock = some g → B ≤ g := by
  intro g hg
  rcases h.2 with ⟨rfl, _⟩ | ⟨g', cap, cur, rfl, hb, _⟩
  · cases hg
  · cases hg; exact hb
theorem grown_self (w : World) (r : Option Nat) : w.grownBy w r := ⟨rfl, rfl, rfl, Nat.le_refl _, fun _ _ _ => rfl⟩
/-- a pair appended -/
theorem wpList_append_pair {w : World} {ops : Array Oper} {rest : List Oper} {o : Oper} {a : Act} {Q : Exit → Act → World → Prop} (hgd : o.guard = none) (s x : Operand)
    (ho : o.op = .call { callee := .builtin .append, args := #[s, x], argTypes := #[22, 22] })
    (base : Nat) (v : Value) (xs : List P) (hs : a.eval s = v) (p : P) (hown : w.ownsRow base 33 4 v xs.length (pc xs))
    (hx : a.eval x = .slice (some ⟨w.heap.size, 0, none⟩) 1 1) (hn : xs.length ≤ 2932031007401) (hbase : base ≤ w.heap.size)
    (h : ∀ v' w', w'.ownsRow base 33 4 v' (xs ++ [p]).length (pc (xs ++ [p])) → (w.alloc (.cells #[.string p.key, .int .i64 p.k, .int .i64 p.n, .string p.s] 33)).grownBy w' v.ownBlock → wpList Try.prog ops Q rest (a.put o.dst v') w') :
    wpList Try.prog ops Q (o :: rest) a (w.alloc (.cells #[.string p.key, .int .i64 p.k, .int .i64 p.n, .string p.s] 33)) := by
  obtain ⟨i0, hi, hz0, hz1, hz2⟩ := info_parts info_pair
  refine wpList_append_own _ hgd s x 22 ho base 33 i0 _ 4 48 Try.underlying22 hi hz0 hz1 hz2 rfl (by decide) v xs.length (pc xs) hs (hown.alloc _) ⟨w.heap.size, 0, none⟩ 1 1 [.string p.key, .int .i64 p.k, .int .i64 p.n, .string p.s] hx rfl (cells_new _ _ _ _ _ _) (one_cells (p := p)) (by unfold maxLen; omega) (by omega) (by simp; omega) ?_
  intro v' w' h1 h2 _
  refine h v' w' ?_ h2
  rw [List.length_append, pc_append, pc_one]
  exact h1
/-- a pair appended, its cell's block spelled otherwise -/
theorem wpList_append_pair_at {w : World} {ops : Array Oper} {rest : List Oper} {o : Oper} {a : Act} {Q : Exit → Act → World → Prop} (hgd : o.guard = none) (s x : Operand)
    (ho : o.op = .call { callee := .builtin .append, args := #[s, x], argTypes := #[22, 22] })
    (base : Nat) (v : Value) (xs : List P) (hs : a.eval s = v) (p : P) (hown : w.ownsRow base 33 4 v xs.length (pc xs))
    (g : Nat) (hx : a.eval x = .slice (some ⟨g, 0, none⟩) 1 1) (hg : g = w.heap.size) (hn : xs.length ≤ 2932031007401) (hbase : base ≤ w.heap.size)
    (h : ∀ v' w', w'.ownsRow base 33 4 v' (xs ++ [p]).length (pc (xs ++ [p])) → (w.alloc (.cells #[.string p.key, .int .i64 p.k, .int .i64 p.n, .string p.s] 33)).grownBy w' v.ownBlock → wpList Try.prog ops Q rest (a.put o.dst v') w') :
    wpList Try.prog ops Q (o :: rest) a (w.alloc (.cells #[.string p.key, .int .i64 p.k, .int .i64 p.n, .string p.s] 33)) := by
  subst hg
  exact wpList_append_pair hgd s x ho base v xs hs p hown hx hn hbase h
/-- a slice of pairs appended -/
theorem wpList_append_pairs {w : World} {ops : Array Oper} {rest : List Oper} {o : Oper} {a : Act} {Q : Exit → Act → World → Prop} (hgd : o.guard = none) (s x : Operand)
    (ho : o.op = .call { callee := .builtin .append, args := #[s, x], argTypes := #[22, 22] })
    (base : Nat) (v : Value) (xs : List P) (hs : a.eval s = v) (hown : w.ownsRow base 33 4 v xs.length (pc xs))
    (b : Option Addr) (c : Nat) (ys : List P) (hx : a.eval x = .slice b ys.length c) (hS : Sl w b c ys) (hn : xs.length + ys.length ≤ 2932031007402) (hbase : base ≤ w.heap.size)
    (h : ∀ v' w', w'.ownsRow base 33 4 v' (xs ++ ys).length (pc (xs ++ ys)) → w.grownBy w' v.ownBlock → wpList Try.prog ops Q rest (a.put o.dst v') w') :
    wpList Try.prog ops Q (o :: rest) a w := by
  obtain ⟨i0, hi, hz0, hz1, hz2⟩ := info_parts info_pair
  have hsome : ∀ ad, b = some ad → (∀ j u, (pc ys)[j]? = some u → w.cell? (ad.add j) = some u) → wpList Try.prog ops Q (o :: rest) a w := by
    intro ad hb hc
    subst hb
    refine wpList_append_own _ hgd s x 22 ho base 33 i0 _ 4 48 Try.underlying22 hi hz0 hz1 hz2 rfl (by decide) v xs.length (pc xs) hs hown ad ys.length c (pc ys) hx (pc_len ys) hc ?_ (by unfold maxLen; omega) (by omega) hbase ?_
    · intro u hu
      unfold pc at hu
      obtain ⟨p, _, hp⟩ := List.mem_flatMap.1 hu
      exact one_cells u hp
    · intro v' w' h1 h2 _
      refine h v' w' ?_ h2
      rw [List.length_append, pc_append]
      exact h1
  cases b with
  | none =>
    have hc := hS.nil rfl
    subst hc
    have : ys = [] := List.length_eq_zero_iff.1 (by have := hS.cap; omega)
    subst this
    refine wpList_append_own_none hgd s x 22 ho base 33 i0 4 Try.underlying22 hi v xs.length (pc xs) hs hown hx ?_
    refine h v w ?_ (grown_self w _)
    rw [List.append_nil]
    exact hown
  | some ad =>
    by_cases hc : c = 0
    · have : ys = [] := List.length_eq_zero_iff.1 (by have := hS.cap; omega)
      subst this
      exact hsome ad rfl fun j u hu => by cases hu
    · obtain ⟨b1, o1, e, hcl⟩ := hS.pos hc
      cases e
      exact hsome _ rfl (Sl.cells hcl)
end Go.Proofs.Ytieloegadhgipaa.S
