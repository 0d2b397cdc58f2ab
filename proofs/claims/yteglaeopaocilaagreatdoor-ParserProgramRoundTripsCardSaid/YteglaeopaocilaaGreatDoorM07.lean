/-
  What the reference of layer 7 returns: literal, Word: contracts, one a function.
  Lists of tokens in memory.
  What the program's own functions of layer 7 return: IsName, Quote, leadingMark.
  What the reference of layer 7 returns: Word, token: contracts, one a function.
  What the reference of layer 7 returns: token: its contract.
-/
import Derived.Test.YteglaeopaocilaaGreatDoorM06
import Derived.OwnWalk
import Derived.Laws.AppendOwnNone
import Derived.Deep.AppendLies
import Derived.Laws.MakeOwn
namespace Go.Proofs.YteglaeopaocilaaGreatDoor.L
open Go.RowKit

/-- a literal's rest read: the text, where it ends, the error -/
def GivesX (e : Ending) (s : ByteArray) (r : Str × Str × Int) : Prop :=
  ∃ E : Int, e = .returned (.tuple #[.string ⟨r.1.toArray⟩, .int .i64 E, .int .i64 r.2.2]) ∧ (r.2.2 = 0 → E = ((s.size - r.2.1.length : Nat) : Int))
theorem GivesX.err {e : Ending} {s : ByteArray} {r : Str × Str × Int} {x : Int} {E : Int} (h : r = ([], [], x)) (hx : x ≠ 0) (he : e = .returned (.tuple #[.string ⟨#[]⟩, .int .i64 E, .int .i64 x])) : GivesX e s r := by
  subst h; exact ⟨E, he, fun h => absurd h hx⟩
theorem GivesX.ok {e : Ending} {s T : ByteArray} {r : Str × Str × Int} {k : Nat} (h : r = (T.data.toList, s.data.toList.drop k, 0)) (hk : k ≤ s.size) (he : e = .returned (.tuple #[.string T, .int .i64 (k : Int), .int .i64 0])) : GivesX e s r := by
  subst h
  refine ⟨k, he, fun _ => ?_⟩
  show (k : Int) = ((s.size - (s.data.toList.drop k).length : Nat) : Int)
  rw [List.length_drop, ← size_len]
  omega
end Go.Proofs.YteglaeopaocilaaGreatDoor.L
namespace Go.Proofs.YteglaeopaocilaaGreatDoor.L
open Go.RowKit

/-- a token, as the program has it -/
structure T where
  k : Int
  t : ByteArray
  n : Int
  line : Int
/-- the token that it stands for -/
def T.tok (p : T) : Tok := ⟨p.k, p.t.data.toList, p.n, p.line⟩
def T.val (p : T) : Value := .agg #[.int .i64 p.k, .string p.t, .int .i64 p.n, .int .i64 p.line]
def T.cells (p : T) : List Value := [.int .i64 p.k, .string p.t, .int .i64 p.n, .int .i64 p.line]
def toks (xs : List T) : List Tok := xs.map T.tok
theorem toks_len (xs : List T) : (toks xs).length = xs.length := List.length_map _
/-- the four cells of a pair -/
structure At (w : World) (b o : Nat) (p : T) : Prop where
  key : w.cell? ⟨b, o, none⟩ = some (.int .i64 p.k)
  kind : w.cell? ⟨b, o + 1, none⟩ = some (.string p.t)
  num : w.cell? ⟨b, o + 2, none⟩ = some (.int .i64 p.n)
  str : w.cell? ⟨b, o + 3, none⟩ = some (.int .i64 p.line)
/-- the slice at a holds the pairs xs -/
def Tks (w : World) (a : Option Addr) (xs : List T) : Prop :=
  xs = [] ∨ ∃ b o, a = some ⟨b, o, none⟩ ∧ ∀ j (h : j < xs.length), At w b (o + j * 4) xs[j]
theorem At.below {w w' : World} {b o B : Nat} {p : T} (h : At w b o p) (hb : Below B w w') (hB : b < B) : At w' b o p :=
  ⟨(hb.cell (by exact hB)).trans h.key, (hb.cell (by exact hB)).trans h.kind, (hb.cell (by exact hB)).trans h.num, (hb.cell (by exact hB)).trans h.str⟩
theorem At.lt {w : World} {b o : Nat} {p : T} (h : At w b o p) : b < w.heap.size := block_lt_of_cell h.key
theorem Tks.below {w w' : World} {a : Option Addr} {xs : List T} (h : Tks w a xs) (hb : Below w.heap.size w w') : Tks w' a xs := by
  rcases h with h | ⟨b, o, rfl, h⟩
  · exact Or.inl h
  · exact Or.inr ⟨b, o, rfl, fun j hj => (h j hj).below hb (h j hj).lt⟩
theorem Tks.nil (w : World) (a : Option Addr) : Tks w a [] := Or.inl rfl
theorem Tks.open {w : World} {a : Option Addr} {xs : List T} (h : Tks w a xs) {k : Nat} (hk : k < xs.length) : ∃ b o, a = some ⟨b, o, none⟩ ∧ ∀ j (h : j < xs.length), At w b (o + j * 4) xs[j] :=
  h.resolve_left (fun e => by rw [e] at hk; exact absurd hk (Nat.not_lt_zero _))

theorem At.grown {W : World} {b o : Nat} {p : T} (h : At W b o p) : (∀ (d : Nat) (os : Array Obj), (Sort.grow (redrawn W d) os).cell? ⟨b, o, none⟩ = some (.int .i64 p.k)) ∧ (∀ (d : Nat) (os : Array Obj), (Sort.grow (redrawn W d) os).cell? ⟨b, o + 1, none⟩ = some (.string p.t)) ∧
    (∀ (d : Nat) (os : Array Obj), (Sort.grow (redrawn W d) os).cell? ⟨b, o + 2, none⟩ = some (.int .i64 p.n)) ∧ (∀ (d : Nat) (os : Array Obj), (Sort.grow (redrawn W d) os).cell? ⟨b, o + 3, none⟩ = some (.int .i64 p.line)) :=
  ⟨fun d os => cell_regrown h.key d os, fun d os => cell_regrown h.kind d os, fun d os => cell_regrown h.num d os, fun d os => cell_regrown h.str d os⟩
/-- the cells of a list of pairs -/
def pc (xs : List T) : List Value := xs.flatMap T.cells
theorem pc_len : ∀ xs : List T, (pc xs).length = xs.length * 4
  | [] => rfl
  | p :: xs => by
    unfold pc
    rw [List.flatMap_cons, List.length_append, List.length_cons]
    have := pc_len xs
    unfold pc at this
    rw [this]
    show 4 + _ = _
    omega
theorem pc_append (xs ys : List T) : pc (xs ++ ys) = pc xs ++ pc ys := List.flatMap_append
theorem pc_one (p : T) : pc [p] = [.int .i64 p.k, .string p.t, .int .i64 p.n, .int .i64 p.line] := rfl
theorem pc_get : ∀ (xs : List T) (k : Nat) (h : k < xs.length) (r : Nat), r < 4 → (pc xs)[k * 4 + r]? = xs[k].cells[r]?
  | p :: xs, 0, _, r, hr => by
    unfold pc
    rw [List.flatMap_cons, List.getElem?_append_left (by show 0 * 4 + r < 4; omega)]
    simp
  | p :: xs, k + 1, h, r, hr => by
    have ih := pc_get xs k (by simpa using h) r hr
    unfold pc at *
    rw [List.flatMap_cons, List.getElem?_append_right (by show 4 ≤ _; omega)]
    have e : (k + 1) * 4 + r - (T.cells p).length = k * 4 + r := by show (k + 1) * 4 + r - 4 = _; omega
    rw [e, ih]
    simp
/-- the slice at a, of capacity c, holds the pairs xs -/
structure Sl (w : World) (a : Option Addr) (c : Nat) (xs : List T) : Prop where
  cap : xs.length ≤ c
  nil : a = none → c = 0
  pos : c ≠ 0 → ∃ b o, a = some ⟨b, o, none⟩ ∧ ∀ j (h : j < xs.length), At w b (o + j * 4) xs[j]
theorem Sl.prs {w : World} {a : Option Addr} {c : Nat} {xs : List T} (h : Sl w a c xs) : Tks w a xs := by
  by_cases hc : c = 0
  · exact Or.inl (List.length_eq_zero_iff.1 (by have := h.cap; omega))
  · exact Or.inr (h.pos hc)
theorem Sl.below {w w' : World} {a : Option Addr} {c : Nat} {xs : List T} (h : Sl w a c xs) (hb : Below w.heap.size w w') : Sl w' a c xs :=
  ⟨h.cap, h.nil, fun hc => by
    obtain ⟨b, o, e, h1⟩ := h.pos hc
    exact ⟨b, o, e, fun j hj => (h1 j hj).below hb (h1 j hj).lt⟩⟩
theorem Sl.alloc {w : World} {a : Option Addr} {c : Nat} {xs : List T} (h : Sl w a c xs) (o : Obj) : Sl (w.alloc o) a c xs := h.below (below_box w o)
theorem Sl.empty (w : World) : Sl w none 0 [] := ⟨Nat.le_refl _, fun _ => rfl, fun h => absurd rfl h⟩
/-- the cells of a slice, one after the other -/
theorem Sl.cells {w : World} {b o : Nat} {xs : List T} (h : ∀ j (h : j < xs.length), At w b (o + j * 4) xs[j]) : ∀ j u, (pc xs)[j]? = some u → w.cell? ((⟨b, o, none⟩ : Addr).add j) = some u := by
  intro j u hu
  have hj : j < xs.length * 4 := by rw [← pc_len]; exact (List.getElem?_eq_some_iff.1 hu).1
  obtain ⟨k, r, rfl, hr⟩ : ∃ k r, j = k * 4 + r ∧ r < 4 := ⟨j / 4, j % 4, by omega, by omega⟩
  have hk : k < xs.length := by omega
  rw [pc_get xs k hk r hr] at hu
  rw [Addr.add_lit]
  obtain ⟨c0, c1, c2, c3⟩ := h k hk
  match r, hr with
  | 0, _ => rw [show o + (k * 4 + 0) = o + k * 4 by omega, c0]; exact hu
  | 1, _ => rw [show o + (k * 4 + 1) = o + k * 4 + 1 by omega, c1]; exact hu
  | 2, _ => rw [show o + (k * 4 + 2) = o + k * 4 + 2 by omega, c2]; exact hu
  | 3, _ => rw [show o + (k * 4 + 3) = o + k * 4 + 3 by omega, c3]; exact hu
/-- what the call owns can be read -/
theorem own_sl {w : World} {B : Nat} {v : Value} {xs : List T} (h : w.ownsRow B 101 4 v xs.length (pc xs)) : ∃ a c, v = .slice a xs.length c ∧ Sl w a c xs := by
  rcases h.2 with ⟨rfl, h0⟩ | ⟨g, cap, cur, rfl, hb, hg, hn, hm, hs, ht⟩
  · have : xs = [] := List.length_eq_zero_iff.1 h0
    subst this
    exact ⟨none, 0, rfl, Sl.empty w⟩
  · refine ⟨some ⟨g, 0, none⟩, cap, rfl, ⟨hn, (fun h => by cases h), fun hc => ⟨g, 0, rfl, fun j hj => ?_⟩⟩⟩
    have key : ∀ r, r < 4 → w.cell? ⟨g, 0 + j * 4 + r, none⟩ = xs[j].cells[r]? := by
      intro r hr
      have := h.cellAt (0 + j * 4 + r) (by omega)
      rw [this, Nat.zero_add]
      exact pc_get xs j hj r hr
    exact ⟨key 0 (by omega), key 1 (by omega), key 2 (by omega), key 3 (by omega)⟩
theorem own_belowO {w w' : World} {B n size : Nat} {e : TypeId} {v : Value} {xs : List Value} (h : w.ownsRow B e size v n xs) (hb : Below w.heap.size w w') : w'.ownsRow B e size v n xs := by
  refine ⟨h.1, ?_⟩
  rcases h.2 with h0 | ⟨g, cap, cur, hv, hB, hg, r⟩
  · exact Or.inl h0
  · exact Or.inr ⟨g, cap, cur, hv, hB, (hb.block g (Array.getElem?_eq_some_iff.1 hg).1).trans hg, r⟩
theorem info_pair : (Tryz.prog.info? 101).map (fun i => (i.zero, i.size, i.bytes)) = some (some (.agg #[.int .i64 0, .string ⟨#[]⟩, .int .i64 0, .int .i64 0]), 4, 40) := by kernel_rfl
theorem cells_new (w : World) (t : TypeId) (a b c d : Value) : ∀ j u, [a, b, c, d][j]? = some u → (w.alloc (.cells #[a, b, c, d] t)).cell? ((⟨w.heap.size, 0, none⟩ : Addr).add j) = some u := by
  intro j u hu
  have hj : j < 4 := (List.getElem?_eq_some_iff.1 hu).1
  rw [Addr.add_lit, Nat.zero_add]
  have h1 : (w.alloc (.cells #[a, b, c, d] t)).heap[w.heap.size]? = some (.cells #[a, b, c, d] t) := by
    show (w.heap.push _)[w.heap.size]? = _
    simp
  rw [cell_of_row _ _ _ _ _ _ h1, ← Array.getElem?_toList]
  exact hu
theorem one_cells {p : T} : ∀ u ∈ p.cells, u.oneCell' = true := by
  intro u hu
  simp [T.cells] at hu
  rcases hu with rfl | rfl | rfl | rfl <;> rfl
theorem below_app {B : Nat} {w1 wr w2 : World} {o : Obj} {v : Value} (hb : Below B w1 wr) (hB : B ≤ wr.heap.size) (hg : (wr.alloc o).grownBy w2 v.ownBlock) (hv : ∀ g, v.ownBlock = some g → B ≤ g) : Below B w1 w2 :=
  (hb.alloc hB o).grown hg (by simp; omega) hv
theorem own_ge {w : World} {B n size : Nat} {e : TypeId} {v : Value} {xs : List Value} (h : w.ownsRow B e size v n xs) : ∀ g, v.ownBlock = some g → B ≤ g := by
  intro g hg
  rcases h.2 with ⟨rfl, _⟩ | ⟨g', cap, cur, rfl, hb, _⟩
  · cases hg
  · cases hg; exact hb
/-- a pair appended -/
theorem wpList_append_pair {w : World} {ops : Array Oper} {rest : List Oper} {o : Oper} {a : Act} {Q : Exit → Act → World → Prop} (hgd : o.guard = none) (s x : Operand)
    (ho : o.op = .call { callee := .builtin .append, args := #[s, x], argTypes := #[52, 52] })
    (base : Nat) (v : Value) (xs : List T) (hs : a.eval s = v) (p : T) (hown : w.ownsRow base 101 4 v xs.length (pc xs))
    (hx : a.eval x = .slice (some ⟨w.heap.size, 0, none⟩) 1 1) (hn : xs.length ≤ 2932031007401) (hbase : base ≤ w.heap.size)
    (h : ∀ v' w', w'.ownsRow base 101 4 v' (xs ++ [p]).length (pc (xs ++ [p])) → (w.alloc (.cells #[.int .i64 p.k, .string p.t, .int .i64 p.n, .int .i64 p.line] 101)).grownBy w' v.ownBlock → wpList Tryz.prog ops Q rest (a.put o.dst v') w') :
    wpList Tryz.prog ops Q (o :: rest) a (w.alloc (.cells #[.int .i64 p.k, .string p.t, .int .i64 p.n, .int .i64 p.line] 101)) := by
  obtain ⟨i0, hi, hz0, hz1, hz2⟩ := info_parts info_pair
  refine wpList_append_own _ hgd s x 52 ho base 101 i0 _ 4 40 Tryz.underlying52 hi hz0 hz1 hz2 rfl (by decide) v xs.length (pc xs) hs (hown.alloc _) ⟨w.heap.size, 0, none⟩ 1 1 [.int .i64 p.k, .string p.t, .int .i64 p.n, .int .i64 p.line] hx rfl (cells_new _ _ _ _ _ _) (one_cells (p := p)) (by unfold maxLen; omega) (by omega) (by simp; omega) ?_
  intro v' w' h1 h2 _
  refine h v' w' ?_ h2
  rw [List.length_append, pc_append, pc_one]
  exact h1
/-- a pair appended, its cell's block spelled otherwise -/
theorem wpList_append_pair_at {w : World} {ops : Array Oper} {rest : List Oper} {o : Oper} {a : Act} {Q : Exit → Act → World → Prop} (hgd : o.guard = none) (s x : Operand)
    (ho : o.op = .call { callee := .builtin .append, args := #[s, x], argTypes := #[52, 52] })
    (base : Nat) (v : Value) (xs : List T) (hs : a.eval s = v) (p : T) (hown : w.ownsRow base 101 4 v xs.length (pc xs))
    (g : Nat) (hx : a.eval x = .slice (some ⟨g, 0, none⟩) 1 1) (hg : g = w.heap.size) (hn : xs.length ≤ 2932031007401) (hbase : base ≤ w.heap.size)
    (h : ∀ v' w', w'.ownsRow base 101 4 v' (xs ++ [p]).length (pc (xs ++ [p])) → (w.alloc (.cells #[.int .i64 p.k, .string p.t, .int .i64 p.n, .int .i64 p.line] 101)).grownBy w' v.ownBlock → wpList Tryz.prog ops Q rest (a.put o.dst v') w') :
    wpList Tryz.prog ops Q (o :: rest) a (w.alloc (.cells #[.int .i64 p.k, .string p.t, .int .i64 p.n, .int .i64 p.line] 101)) := by
  subst hg
  exact wpList_append_pair hgd s x ho base v xs hs p hown hx hn hbase h
theorem at_box (w : World) (p : T) : At (w.alloc (.cells #[.int .i64 p.k, .string p.t, .int .i64 p.n, .int .i64 p.line] 101)) w.heap.size 0 p := ⟨by go_simp, by go_simp, by go_simp, by go_simp⟩
/-- block b is the call's own, holds a pair and may be written -/
structure MineT (w : World) (b : Nat) : Prop where
  cells : ∃ p, At w b 0 p
  free : w.frozen? ⟨b, 0, none⟩ = false ∧ w.frozen? ⟨b, 1, none⟩ = false ∧ w.frozen? ⟨b, 2, none⟩ = false ∧ w.frozen? ⟨b, 3, none⟩ = false
theorem MineT.below {w w' : World} {b B : Nat} (h : MineT w b) (hb : Below B w w') (hB : b < B) : MineT w' b := by
  obtain ⟨⟨p, h1⟩, h2, h3, h4, h5⟩ := h
  exact ⟨⟨p, h1.below hb hB⟩, (hb.frozen (by exact hB)).trans h2, (hb.frozen (by exact hB)).trans h3, (hb.frozen (by exact hB)).trans h4, (hb.frozen (by exact hB)).trans h5⟩
theorem MineT.lt {w : World} {b : Nat} (h : MineT w b) : b < w.heap.size := by
  obtain ⟨⟨p, h1⟩, _⟩ := h
  exact h1.lt
theorem MineT.new (w : World) (p : T) : MineT (w.alloc (.cells #[.int .i64 p.k, .string p.t, .int .i64 p.n, .int .i64 p.line] 101)) w.heap.size := ⟨⟨p, at_box w p⟩, by go_simp, by go_simp, by go_simp, by go_simp⟩
def zeroT   : T := ⟨0, ⟨#[]⟩, 0, 0⟩
theorem MineT.zero (w : World) : MineT (w.alloc (.cells #[.int .i64 0, .string ⟨#[]⟩, .int .i64 0, .int .i64 0] 101)) w.heap.size := MineT.new w zeroT
theorem storedT {w : World} {b : Nat} {p : T} (h : At w b 0 p) (q : T) :
    At ((((w.setCell ⟨b, 0, none⟩ (.int .i64 q.k)).setCell ⟨b, 1, none⟩ (.string q.t)).setCell ⟨b, 2, none⟩ (.int .i64 q.n)).setCell ⟨b, 3, none⟩ (.int .i64 q.line)) b 0 q := by
  obtain ⟨h1, h2, h3, h4⟩ := h
  simp only [Nat.zero_add] at h1 h2 h3 h4
  exact ⟨by go_simp, by go_simp, by go_simp, by go_simp⟩
theorem storedT_below {w w1 : World} {b B : Nat} (h : Below B w w1) (hb : B ≤ b) (x y z u : Value) : Below B w ((((w1.setCell ⟨b, 0, none⟩ x).setCell ⟨b, 1, none⟩ y).setCell ⟨b, 2, none⟩ z).setCell ⟨b, 3, none⟩ u) :=
  (((h.setCell hb _).setCell hb _).setCell hb _).setCell hb _
end Go.Proofs.YteglaeopaocilaaGreatDoor.L
namespace Go.Proofs.YteglaeopaocilaaGreatDoor.L
open Go.RowKit

theorem lead_all {l : Str} (h : l.all part = true) : l.takeWhile part = l := by
  have := (take_sep (w := l) (r := []) h (fun c z e => by cases e)).1
  rwa [List.append_nil] at this
theorem name_lead {s : ByteArray} (h : 0 < s.size) (h1 : s.size ≤ 16) (h2 : letter s[0] = true) (h3 : s.data.toList.takeWhile part = s.data.toList) : isName s.data.toList = !isKw s.data.toList :=
  name_kw h h1 h2 (by unfold wl; rw [List.drop_zero, h3, size_len])
theorem name_off {s : ByteArray} (h3 : ¬ s.data.toList.takeWhile part = s.data.toList) : isName s.data.toList = false := by
  refine name_part fun h => h3 ?_
  unfold wl at h
  rw [List.drop_zero, size_len] at h
  exact lead_all (all_take.1 h)
theorem empty_of {s : ByteArray} : s.toList.isEmpty = decide (s.size = 0) := by
  rw [Lib.toList_data, Bool.eq_iff_iff, List.isEmpty_iff, decide_eq_true_iff, size_len, List.length_eq_zero_iff]
set_option maxHeartbeats 1000000 in
set_option maxRecDepth 100000 in
theorem oname_any (s : ByteArray) (w : World) :
    Calls Tryz.prog 32 #[.string s] w fun e w' => e = .returned (.bool (isName s.data.toList)) ∧ Below w.heap.size w w' := by
  by_cases h0 : 0 < s.size
  · have he : s.toList.isEmpty = false := by rw [empty_of]; exact decide_eq_false (by omega)
    by_cases h16 : s.size ≤ 16
    · have h1 := fun w => oletter_any (s[0].toNat : Int) w
      rw [ltr_of] at h1
      have hb := byte_lt s[0]
      cases hl : letter s[0]
      · have HV := Lib.hid (name_head h0 hl)
        rw [hl] at h1
        have H1 := Lib.hid h1
        clear h1 hl
        go_enter Tryz.func32, Tryz.ntmps32
        go_wp2_with fail
        refine (H1.out _).mono ?_; rintro e w1 ⟨rfl, rfl⟩
        go_wp2_with fail
        go_ret
        exact ⟨ret_bool HV.out.symm, Below.refl _ _⟩
      · rw [hl] at h1
        have H1 := Lib.hid h1
        have HW := Lib.hid (olead_any s)
        obtain ⟨d, hd⟩ : ∃ d : ByteArray, d = ⟨(s.data.toList.takeWhile part).toArray⟩ := ⟨_, rfl⟩
        have hdl : d.data.toList = s.data.toList.takeWhile part := by rw [hd]
        rw [← hd] at HW
        have hq : (d.toList == s.toList) = decide (s.data.toList.takeWhile part = s.data.toList) := by rw [eql_eq, hdl]
        by_cases hw : s.data.toList.takeWhile part = s.data.toList
        · have HV := Lib.hid (name_lead h0 h16 hl hw)
          rw [decide_eq_true hw] at hq
          have HK := Lib.hid (oisKw_any s)
          generalize isKw s.data.toList = K at HK HV
          clear h1 hl hw hd hdl
          cases K
          all_goals
            go_enter Tryz.func32, Tryz.ntmps32
            go_wp2_with fail
            refine (H1.out _).mono ?_; rintro e w1 ⟨rfl, rfl⟩
            go_wp2_with fail
            refine (HW.out _).mono ?_; rintro e w2 ⟨rfl, hb2⟩
            go_wp2_with fail
            refine (HK.out _).mono ?_; rintro e w3 ⟨rfl, rfl⟩
            go_wp2_with fail
            go_ret
            exact ⟨ret_bool (by rw [HV.out]; rfl), hb2⟩
        · have HV := Lib.hid (name_off hw)
          rw [decide_eq_false hw] at hq
          clear h1 hl hw hd hdl
          go_enter Tryz.func32, Tryz.ntmps32
          go_wp2_with fail
          refine (H1.out _).mono ?_; rintro e w1 ⟨rfl, rfl⟩
          go_wp2_with fail
          refine (HW.out _).mono ?_; rintro e w2 ⟨rfl, hb2⟩
          go_wp2_with fail
          go_ret
          exact ⟨ret_bool HV.out.symm, hb2⟩
    · have HV := Lib.hid (name_long h16)
      go_enter Tryz.func32, Tryz.ntmps32
      go_wp2_with fail
      go_ret
      exact ⟨ret_bool HV.out.symm, Below.refl _ _⟩
  · have HV := Lib.hid (name_short h0)
    have he : s.toList.isEmpty = true := by rw [empty_of]; exact decide_eq_true (by omega)
    go_enter Tryz.func32, Tryz.ntmps32
    go_wp2_with fail
    go_ret
    exact ⟨ret_bool HV.out.symm, Below.refl _ _⟩

/-! ### rows of bytes -/

def bc (l : Str) : List Value := l.map fun b => .int .u8 (b.toNat : Int)
theorem bc_app (a b : Str) : bc (a ++ b) = bc a ++ bc b := List.map_append
theorem info8 : (Tryz.prog.info? 5).map (fun i => (i.zero, i.size, i.bytes)) = some (some (.int .u8 0), 1, 1) := by kernel_rfl
/-- the call owns the bytes l -/
def Own8 (w : World) (B : Nat) (v : Value) (l : Str) : Prop := w.ownsRow B 5 1 v l.length (bc l)
theorem Own8.back {w : World} {B : Nat} {v : Value} {l : Str} (h : Own8 w B v l) : (convert 93 9 v).run Tryz.prog w = .ok (.string ⟨l.toArray⟩) w := by
  rcases h.2 with ⟨rfl, h0⟩ | ⟨g, cap, cur, rfl, _⟩
  · have : l = [] := List.length_eq_zero_iff.1 h0
    subst this
    exact run_convert_bytes_nil (P := Tryz.prog) w 93 5 Tryz.underlying93 Tryz.underlying5 0 0 9 Tryz.underlying9
  · refine run_convert_bytes_back (P := Tryz.prog) _ 93 9 5 _ _ l Tryz.underlying93 Tryz.underlying5 Tryz.underlying9 ?_
    intro j hj
    refine World.ownsRow.cells h (g := g) rfl j _ ?_
    simp [bc, hj]
theorem Own8.alloc {w : World} {B : Nat} {v : Value} {l : Str} (h : Own8 w B v l) (o : Obj) : Own8 (w.alloc o) B v l := World.ownsRow.alloc h o
theorem Own8.ge {w : World} {B : Nat} {v : Value} {l : Str} (h : Own8 w B v l) : ∀ g, v.ownBlock = some g → B ≤ g := own_ge h
theorem Own8.below {w w' : World} {B : Nat} {v : Value} {l : Str} (h : Own8 w B v l) (hb : Below w.heap.size w w') : Own8 w' B v l := own_belowO h hb
theorem Own8.lit (w : World) (c : UInt8) : Own8 (w.alloc (.cells #[.int .u8 (c.toNat : Int)] 5)) w.heap.size (.slice (some ⟨w.heap.size, 0, none⟩) 1 1) [c] := World.ownsRow_lit w _ 1 (Nat.le_refl _) (by decide) rfl
theorem cell_one (w : World) (v : Value) (t : TypeId) : ∀ j u, [v][j]? = some u → (w.alloc (.cells #[v] t)).cell? ((⟨w.heap.size, 0, none⟩ : Addr).add j) = some u := by
  intro j u hu
  have hj : j < 1 := (List.getElem?_eq_some_iff.1 hu).1
  obtain rfl : j = 0 := by omega
  rw [Addr.add_lit, Nat.zero_add]
  have h1 : (w.alloc (.cells #[v] t)).heap[w.heap.size]? = some (.cells #[v] t) := by
    show (w.heap.push _)[w.heap.size]? = _
    simp
  rw [cell_of_row _ _ _ _ _ _ h1, ← Array.getElem?_toList]
  exact hu
/-- a byte appended -/
theorem wpList_append_byte {w : World} {ops : Array Oper} {rest : List Oper} {o : Oper} {a : Act} {Q : Exit → Act → World → Prop} (hgd : o.guard = none) (s x : Operand)
    (ho : o.op = .call { callee := .builtin .append, args := #[s, x], argTypes := #[93, 93] })
    (base : Nat) (v : Value) (l : Str) (hs : a.eval s = v) (z : Int) (hown : Own8 w base v l)
    (g : Nat) (hx : a.eval x = .slice (some ⟨g, 0, none⟩) 1 1) (hg : g = w.heap.size) (hn : l.length ≤ 100000000000000) (hbase : base ≤ w.heap.size) (c : UInt8) (hz : z = (c.toNat : Int))
    (h : ∀ v' w', Own8 w' base v' (l ++ [c]) → (w.alloc (.cells #[.int .u8 z] 5)).grownBy w' v.ownBlock → wpList Tryz.prog ops Q rest (a.put o.dst v') w') :
    wpList Tryz.prog ops Q (o :: rest) a (w.alloc (.cells #[.int .u8 z] 5)) := by
  subst hg hz
  obtain ⟨i0, hi, hz0, hz1, hz2⟩ := info_parts info8
  refine wpList_append_own _ hgd s x 93 ho base 5 i0 (.int .u8 0) 1 1 Tryz.underlying93 hi hz0 hz1 hz2 rfl (by decide) v l.length (bc l) hs (hown.alloc _) ⟨w.heap.size, 0, none⟩ 1 1 [.int .u8 (c.toNat : Int)] hx rfl (cell_one _ _ _) (by intro u hu; simp at hu; subst hu; rfl) (by unfold maxLen; omega) (by omega) (by simp; omega) ?_
  intro v' w' h1 h2 _
  refine h v' w' ?_ h2
  unfold Own8
  rw [List.length_append, bc_app]
  exact h1

/-! ### Quote -/

theorem esc_next {s : ByteArray} {k : Nat} (h : k < s.size) :
    (spc s[k] = true → 34 :: esc (s.data.toList.take (k + 1)) = 34 :: esc (s.data.toList.take k) ++ [92] ++ [s[k]]) ∧ (spc s[k] = false → 34 :: esc (s.data.toList.take (k + 1)) = 34 :: esc (s.data.toList.take k) ++ [s[k]]) := by
  rw [take_snoc s k h, esc_app]
  constructor
  · intro hs
    rw [show esc [s[k]] = [92, s[k]] from by unfold esc; rw [if_pos (of_decide_eq_true hs)]; rfl]
    simp
  · intro hs
    rw [show esc [s[k]] = [s[k]] from by unfold esc; rw [if_neg (of_decide_eq_false hs)]; rfl]
    simp
theorem esc_le (s : ByteArray) (k : Nat) : (34 :: esc (s.data.toList.take k)).length ≤ 2 * s.size + 1 := by
  rw [List.length_cons]
  have h1 := esc_len (s.data.toList.take k)
  rw [List.length_take, ← size_len] at h1
  omega
set_option maxHeartbeats 2000000 in
set_option maxRecDepth 100000 in
theorem oquote_any (s : ByteArray) (w : World) :
    Calls Tryz.prog 127 #[.string s] w fun e w' => e = .returned (pairS (qt s.data.toList)) ∧ Below w.heap.size w w' := by
  by_cases h64 : 64 < s.size
  · have HV := Lib.hid (qt_long h64)
    go_enter Tryz.func127, Tryz.ntmps127
    go_wp2
    go_ret2
    exact ⟨by rw [HV.out]; rfl, Below.refl _ _⟩
  · have HP := Lib.hid oplain_any
    have HS := Lib.hid ospecial_any
    have HL := Lib.hid (Own8.lit w 34)
    go_enter Tryz.func127, Tryz.ntmps127
    go_wp2_with fail
    go_loopw [4, 12] (fun v i wr => ∃ k : Nat, k ≤ s.size ∧ i = .int .i64 k ∧ Hid (upto prt s k) ∧ Hid (Own8 wr w.heap.size v (34 :: esc (s.data.toList.take k))) ∧ Below w.heap.size w wr) (fun _ i _ => s.size - (intOf i).toNat)
    case atStart => exact ⟨0, Nat.zero_le _, rfl, fun j _ h => absurd h (Nat.not_lt_zero _), HL.out, below_box w _⟩
    case round =>
      obtain ⟨k, hk, rfl, HK, HO, hb⟩ := hrel
      have hzr := hb.size
      have hle := esc_le s k
      by_cases hlt : k < s.size
      · have hp := HP.out s[k]
        cases hok : prt s[k]
        · have HV := Lib.hid (qt_bad h64 (upto_not hlt hok))
          rw [hok] at hp
          have HP1 := Lib.hid hp
          clear hp hok
          go_wp2_with fail
          refine (HP1.out _).mono ?_; rintro e w1 ⟨rfl, rfl⟩
          go_wp2_with fail
          go_ret2
          exact ⟨by rw [HV.out]; rfl, hb⟩
        · rw [hok] at hp
          have HP1 := Lib.hid hp
          have HN : Hid (upto prt s (k + 1)) := by
            intro j h hj
            by_cases e : j = k
            · subst e; exact hok
            · exact HK.out j h (by omega)
          obtain ⟨n1, n2⟩ := esc_next hlt
          have hs := HS.out s[k]
          cases hsp : spc s[k]
          · rw [hsp] at hs
            have HS1 := Lib.hid hs
            have HE := Lib.hid (n2 hsp)
            clear hp hok hs hsp n1 n2
            go_wp2_with fail
            refine (HP1.out _).mono ?_; rintro e w1 ⟨rfl, he⟩; obtain rfl : wr = w1 := he.symm
            go_wp2_with fail
            refine (HS1.out _).mono ?_; rintro e w1 ⟨rfl, he⟩; obtain rfl : wr = w1 := he.symm
            go_wp2_with (at_builtin; refine wpList_append_byte rfl _ _ rfl w.heap.size u4 _ rfl _ HO.out wr.heap.size rfl rfl (by omega) (by omega) s[k] rfl ?_; intro v1 w2 hown1 hgrow1; have hb2 := below_app hb (by omega) hgrow1 HO.out.ge)
            go_roundw
            case rel => exact ⟨k + 1, by omega, by go_num, HN, (by unfold Hid; rw [HE.out]; exact hown1), hb2⟩
            case measure => simp [intOf]; omega
          · rw [hsp] at hs
            have HS1 := Lib.hid hs
            have HE := Lib.hid (n1 hsp)
            clear hp hok hs hsp n1 n2
            go_wp2_with fail
            refine (HP1.out _).mono ?_; rintro e w1 ⟨rfl, he⟩; obtain rfl : wr = w1 := he.symm
            go_wp2_with fail
            refine (HS1.out _).mono ?_; rintro e w1 ⟨rfl, he⟩; obtain rfl : wr = w1 := he.symm
            go_wp2_with (first
              | (at_builtin; refine wpList_append_byte rfl _ _ rfl w.heap.size u4 _ rfl _ HO.out wr.heap.size rfl rfl (by omega) (by omega) 92 rfl ?_; intro v1 w2 hown1 hgrow1; have hb2 := below_app hb (by omega) hgrow1 HO.out.ge; have hz2 := hb2.size)
              | (at_builtin; refine wpList_append_byte rfl _ _ rfl w.heap.size v1 _ rfl _ hown1 w2.heap.size rfl rfl (by rw [List.length_append]; simp only [List.length_cons, List.length_nil] at *; omega) (by omega) s[k] rfl ?_; intro v2 w3 hown2 hgrow2; have hb3 := below_app hb2 (by omega) hgrow2 hown1.ge))
            go_roundw
            case rel => exact ⟨k + 1, by omega, by go_num, HN, (by unfold Hid; rw [HE.out]; exact hown2), hb3⟩
            case measure => simp [intOf]; omega
      · obtain rfl : k = s.size := by omega
        have HV := Lib.hid (qt_ok h64 (upto_all HK.out))
        have HQ : Hid (34 :: (esc (s.data.toList.take s.size) ++ [34]) = quo s.data.toList) := by show _ = _; rw [size_len, List.take_length]; rfl
        go_wp2_with (at_builtin; refine wpList_append_byte rfl _ _ rfl w.heap.size u4 _ rfl _ HO.out wr.heap.size rfl rfl (by omega) (by omega) 34 rfl ?_; intro v1 w2 hown1 hgrow1; have hb2 := below_app hb (by omega) hgrow1 HO.out.ge; have hcv := hown1.back; have HB2 := Lib.hid hown1; clear hown1)
        go_ret2
        exact ⟨by rw [HV.out]; show _ = Ending.returned (.tuple #[.string ⟨(quo s.data.toList).toArray⟩, .int .i64 0]); rw [← HQ.out]; rfl, hb2⟩

/-! ### leadingMark -/

theorem find_one {p : Str → Bool} {ls : List Str} {a : Str} (h : a ∈ ls) (pa : p a = true) (hu : ∀ x ∈ ls, p x = true → x = a) : ls.find? p = some a := by
  cases hf : ls.find? p with
  | none => exact absurd pa (List.find?_eq_none.1 hf a h)
  | some b => rw [hu b (List.mem_of_find?_eq_some hf) (List.find?_some hf)]
def twos : List Str := [[61, 61], [33, 61], [60, 61], [62, 61], [43, 43]]
def ones : List Str := [[40], [41], [123], [125], [44], [59], [58], [61], [60], [62], [43], [45], [42], [47], [37]]
theorem marks_split : marks = twos ++ ones := rfl
theorem twos_all : ∀ m ∈ twos, m.length = 2 := by decide
theorem ones_all : ∀ m ∈ ones, m.length = 1 := by decide
theorem isMark_iff {m : Str} : isMark m = true ↔ m ∈ twos ∨ m ∈ ones := by unfold isMark; rw [marks_split, decide_eq_true_iff, List.mem_append]
theorem pre_take {m l : Str} {k : Nat} (h : m.isPrefixOf l = true) (hk : m.length = k) : m = l.take k := by
  have := List.prefix_iff_eq_take.1 (List.isPrefixOf_iff_prefix.1 h)
  rwa [hk] at this
theorem take_pre (l : Str) (k : Nat) : (l.take k).isPrefixOf l = true := List.isPrefixOf_iff_prefix.2 (List.take_prefix k l)
theorem mark_two {l : Str} (h : 2 ≤ l.length) (hm : isMark (l.take 2) = true) : mark l = some (l.take 2) := by
  unfold mark
  rw [marks_split, List.find?_append]
  rw [find_one (a := l.take 2) ?_ (take_pre l 2) fun x hx hp => pre_take hp (twos_all x hx)]
  · rfl
  · rcases isMark_iff.1 hm with h2 | h2
    · exact h2
    · have := ones_all _ h2
      rw [List.length_take] at this
      omega
theorem twos_none {l : Str} (h2 : 2 ≤ l.length → isMark (l.take 2) = false) : twos.find? (fun m => m.isPrefixOf l) = none := by
  rw [List.find?_eq_none]
  intro m hm hp
  have h3 := pre_take hp (twos_all m hm)
  have h4 := (List.isPrefixOf_iff_prefix.1 hp).length_le
  rw [twos_all m hm] at h4
  have h5 := h2 h4
  rw [← h3, isMark_iff.2 (Or.inl hm)] at h5
  cases h5
theorem mark_one {l : Str} (h : 1 ≤ l.length) (h2 : 2 ≤ l.length → isMark (l.take 2) = false) (hm : isMark (l.take 1) = true) : mark l = some (l.take 1) := by
  unfold mark
  rw [marks_split, List.find?_append, twos_none h2]
  rw [find_one (a := l.take 1) ?_ (take_pre l 1) fun x hx hp => pre_take hp (ones_all x hx)]
  · rfl
  · rcases isMark_iff.1 hm with h3 | h3
    · have := twos_all _ h3
      rw [List.length_take] at this
      omega
    · exact h3
theorem mark_no {l : Str} (h2 : 2 ≤ l.length → isMark (l.take 2) = false) (hm : isMark (l.take 1) = false) : mark l = none := by
  unfold mark
  rw [marks_split, List.find?_append, twos_none h2]
  have : ones.find? (fun m => m.isPrefixOf l) = none := by
    rw [List.find?_eq_none]
    intro m hm2 hp
    rw [← pre_take hp (ones_all m hm2), isMark_iff.2 (Or.inr hm2)] at hm
    cases hm
  rw [this]; rfl
set_option maxHeartbeats 1000000 in
set_option maxRecDepth 100000 in
theorem omark_any (s : ByteArray) (hs : s.size ≤ 1000000000000000) (h0 : 0 < s.size) (w : World) :
    Calls Tryz.prog 124 #[.string s] w fun e w' => (∃ d : ByteArray, e = .returned (.string d) ∧ d.data.toList = (mark s.data.toList).getD []) ∧ w' = w := by
  obtain ⟨d1, hd1, hz1, hs1⟩ := slice_to s 1 (by omega)
  simp only [Int.natCast_one] at hs1
  have hm1 := fun w => oisMark_any d1 w
  rw [hd1] at hm1
  have HM1 := Lib.hid hm1
  by_cases h2 : 2 ≤ s.size
  · obtain ⟨d2, hd2, hz2, hs2⟩ := slice_to s 2 h2
    simp only [show ((2 : Nat) : Int) = 2 from rfl] at hs2
    have hm2 := fun w => oisMark_any d2 w
    rw [hd2] at hm2
    have HM2 := Lib.hid hm2
    have hmin : min (2 : Int) (s.size : Int) = 2 := by omega
    cases b2 : isMark (s.data.toList.take 2)
    · rw [b2] at HM2
      cases b1 : isMark (s.data.toList.take 1)
      · have HV := Lib.hid (mark_no (l := s.data.toList) (fun _ => b2) b1)
        rw [b1] at HM1
        clear hm1 hm2 b1 b2 hd1 hd2 hz1 hz2
        go_enter Tryz.func124, Tryz.ntmps124
        go_wp2_with fail
        go_loopw [3] (fun v wr => (v = .int .i64 2 ∨ v = .int .i64 1 ∨ v = .int .i64 0) ∧ wr = w) (fun v _ => (intOf v).toNat)
        case atStart => exact ⟨Or.inl rfl, rfl⟩
        case round =>
          obtain ⟨hv, rfl⟩ := hrel
          rcases hv with rfl | rfl | rfl
          · go_wp2_with fail
            refine (HM2.out _).mono ?_; rintro e w1 ⟨rfl, rfl⟩
            go_wp2_with fail
            go_roundw
            case rel => exact ⟨Or.inr (Or.inl rfl), by first | rfl | trivial⟩
            case measure => simp [intOf]
          · go_wp2_with fail
            refine (HM1.out _).mono ?_; rintro e w1 ⟨rfl, rfl⟩
            go_wp2_with fail
            go_roundw
            case rel => exact ⟨Or.inr (Or.inr rfl), by first | rfl | trivial⟩
            case measure => simp [intOf]
          · go_wp2_with fail
            go_ret
            exact ⟨⟨_, rfl, by rw [HV.out]; rfl⟩, rfl⟩
      · have HV := Lib.hid (mark_one (l := s.data.toList) (by rw [← size_len]; omega) (fun _ => b2) b1)
        rw [b1] at HM1
        have HD := Lib.hid hd1
        clear hm1 hm2 b1 b2 hd1 hd2 hz1 hz2
        go_enter Tryz.func124, Tryz.ntmps124
        go_wp2_with fail
        go_loopw [3] (fun v wr => (v = .int .i64 2 ∨ v = .int .i64 1) ∧ wr = w) (fun v _ => (intOf v).toNat)
        case atStart => exact ⟨Or.inl rfl, rfl⟩
        case round =>
          obtain ⟨hv, rfl⟩ := hrel
          rcases hv with rfl | rfl
          · go_wp2_with fail
            refine (HM2.out _).mono ?_; rintro e w1 ⟨rfl, rfl⟩
            go_wp2_with fail
            go_roundw
            case rel => exact ⟨Or.inr rfl, by first | rfl | trivial⟩
            case measure => simp [intOf]
          · go_wp2_with fail
            refine (HM1.out _).mono ?_; rintro e w1 ⟨rfl, rfl⟩
            go_wp2_with fail
            go_ret
            exact ⟨⟨_, rfl, by rw [HV.out]; exact HD.out⟩, rfl⟩
    · have HV := Lib.hid (mark_two (l := s.data.toList) (by rw [← size_len]; omega) b2)
      rw [b2] at HM2
      have HD := Lib.hid hd2
      clear hm1 hm2 b2 hd1 hd2 hz1 hz2
      go_enter Tryz.func124, Tryz.ntmps124
      go_wp2_with fail
      go_loopw [3] (fun v wr => v = .int .i64 2 ∧ wr = w) (fun v _ => (intOf v).toNat)
      case atStart => exact ⟨rfl, rfl⟩
      case round =>
        obtain ⟨rfl, rfl⟩ := hrel
        go_wp2_with fail
        refine (HM2.out _).mono ?_; rintro e w1 ⟨rfl, rfl⟩
        go_wp2_with fail
        go_ret
        exact ⟨⟨_, rfl, by rw [HV.out]; exact HD.out⟩, rfl⟩
  · have hsz : s.size = 1 := by omega
    have h2' : 2 ≤ s.data.toList.length → isMark (s.data.toList.take 2) = false := fun h => by rw [← size_len] at h; omega
    cases b1 : isMark (s.data.toList.take 1)
    · have HV := Lib.hid (mark_no (l := s.data.toList) h2' b1)
      rw [b1] at HM1
      clear hm1 b1 hd1 hz1 h2'
      go_enter Tryz.func124, Tryz.ntmps124
      go_wp2_with fail
      go_loopw [3] (fun v wr => (v = .int .i64 1 ∨ v = .int .i64 0) ∧ wr = w) (fun v _ => (intOf v).toNat)
      case atStart => exact ⟨Or.inl rfl, rfl⟩
      case round =>
        obtain ⟨hv, rfl⟩ := hrel
        rcases hv with rfl | rfl
        · go_wp2_with fail
          refine (HM1.out _).mono ?_; rintro e w1 ⟨rfl, rfl⟩
          go_wp2_with fail
          go_roundw
          case rel => exact ⟨Or.inr rfl, by first | rfl | trivial⟩
          case measure => simp [intOf]
        · go_wp2_with fail
          go_ret
          exact ⟨⟨_, rfl, by rw [HV.out]; rfl⟩, rfl⟩
    · have HV := Lib.hid (mark_one (l := s.data.toList) (by rw [← size_len]; omega) h2' b1)
      rw [b1] at HM1
      have HD := Lib.hid hd1
      clear hm1 b1 hd1 hz1 h2'
      go_enter Tryz.func124, Tryz.ntmps124
      go_wp2_with fail
      go_loopw [3] (fun v wr => v = .int .i64 1 ∧ wr = w) (fun v _ => (intOf v).toNat)
      case atStart => exact ⟨rfl, rfl⟩
      case round =>
        obtain ⟨rfl, rfl⟩ := hrel
        go_wp2_with fail
        refine (HM1.out _).mono ?_; rintro e w1 ⟨rfl, rfl⟩
        go_wp2_with fail
        go_ret
        exact ⟨⟨_, rfl, by rw [HV.out]; exact HD.out⟩, rfl⟩
end Go.Proofs.YteglaeopaocilaaGreatDoor.L
namespace Go.Proofs.YteglaeopaocilaaGreatDoor.L
open Go.RowKit

theorem head_cons {s : ByteArray} (h : 0 < s.size) : headL s.data.toList = letter s[0] := by rw [list_cons h]; rfl
theorem wd_kw {s : ByteArray} (h : isKw s.data.toList = true) : word s.data.toList = (⟨2, s.data.toList, 0, 0⟩, 0) := word_kw h
theorem wd_name {s : ByteArray} (h : isName s.data.toList = true) : word s.data.toList = (⟨1, s.data.toList, 0, 0⟩, 0) := word_name h
theorem wd_long {s : ByteArray} (h0 : 0 < s.size) (h1 : letter s[0] = true) (h2 : isKw s.data.toList = false) (h3 : isName s.data.toList = false) : word s.data.toList = (noTok, 2) := by
  unfold word
  rw [if_pos (by rw [head_cons h0]; exact h1), if_neg (by rw [h2]; decide), if_neg (by rw [h3]; decide)]
theorem wd_int {s : ByteArray} (h0 : 0 < s.size) (h1 : letter s[0] = false) (h2 : pE s.data.toList = 0) : word s.data.toList = (⟨3, [], pV s.data.toList, 0⟩, 0) := by
  unfold word
  rw [if_neg (by rw [head_cons h0, h1]; decide), if_pos h2]
theorem wd_bad {s : ByteArray} (h0 : 0 < s.size) (h1 : letter s[0] = false) (h2 : pE s.data.toList ≠ 0) : word s.data.toList = (noTok, pE s.data.toList) := by
  unfold word
  rw [if_neg (by rw [head_cons h0, h1]; decide), if_neg h2]
end Go.Proofs.YteglaeopaocilaaGreatDoor.L
namespace Go.Proofs.YteglaeopaocilaaGreatDoor.L
open Go.RowKit

theorem tok_lit {s : ByteArray} {k : Nat} (h : k < s.size) (hq : s[k].toNat = 34) : tok (s.data.toList.drop k) = (⟨4, (litr [] (s.data.toList.drop (k + 1))).1, 0, 0⟩, (litr [] (s.data.toList.drop (k + 1))).2.1, (litr [] (s.data.toList.drop (k + 1))).2.2) := by
  rw [drop_get s k h]; unfold tok; simp only; rw [if_pos hq]
theorem tok_w {s d : ByteArray} {k : Nat} (h : k < s.size) (h1 : ¬ s[k].toNat = 34) (h2 : part s[k] = true) (hd : d.data.toList = (s.data.toList.drop k).takeWhile part) :
    tok (s.data.toList.drop k) = ((word d.data.toList).1, (s.data.toList.drop k).dropWhile part, (word d.data.toList).2) := by
  rw [hd, drop_get s k h, tok_word h1 h2]
/-! ### marks -/

end Go.Proofs.YteglaeopaocilaaGreatDoor.L
