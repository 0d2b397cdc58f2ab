/-
  What the reference of layer 10 returns: is, wrong, prefix: contracts, one a function.
  What the reference of layer 10 returns: line, end, call, keyword, binary: contracts.
  What the reference of layer 10 returns: line, binary: contracts.
  Fresh trees and stores into a box: used by the walks of layer 10.
  What the reference of layer 10 returns: inside: a contract.
  The parser in memory, and what its methods leave as it was.
-/
import Derived.Test.YteglaeopaocilaaGreatDoorM07
import Derived.Test.YteglaeopaocilaaGreatDoorM11
import Derived.Test.YteglaeopaocilaaGreatDoorM03
import Derived.Test.YteglaeopaocilaaGreatDoorM15
import Derived.Test.YteglaeopaocilaaGreatDoorM04
namespace Go.Proofs.YteglaeopaocilaaGreatDoor.P
open Go.RowKit
open L (Str Tok Tks toks At below_2 below_box ret_bool ret_int ret_string)
open A

/-- the tokens from the k-th on -/
abbrev dr (xs : List L.T) (k : Nat) : T := (toks xs).drop k
theorem dr_cons {xs : List L.T} {k : Nat} (h : k < xs.length) : dr xs k = xs[k].tok :: dr xs (k + 1) := by
  have h' : k < (toks xs).length := by rw [L.toks_len]; exact h
  unfold dr
  rw [List.drop_eq_getElem_cons h']
  simp [toks]
theorem dr_end {xs : List L.T} {k : Nat} (h : xs.length ≤ k) : dr xs k = [] := List.drop_eq_nil_of_le (by rw [L.toks_len]; exact h)
theorem dr_tail (xs : List L.T) (k : Nat) : (dr xs k).tail = dr xs (k + 1) := List.tail_drop
theorem is_none {xs : List L.T} {k : Nat} (h : xs.length ≤ k) (s : Str) : isW (dr xs k) s = false := by rw [dr_end h]; rfl
theorem is_some {xs : List L.T} {k : Nat} (h : k < xs.length) (s : Str) : isW (dr xs k) s = ((decide (xs[k].k = 2) || decide (xs[k].k = 5)) && decide (xs[k].t.data.toList = s)) := by rw [dr_cons h]; rfl
theorem wr_end {xs : List L.T} {k : Nat} (h : xs.length ≤ k) : wrong (dr xs k) = 6 := by rw [dr_end h]; rfl
theorem wr_in {xs : List L.T} {k : Nat} (h : k < xs.length) : wrong (dr xs k) = 5 := by rw [dr_cons h]; rfl
end Go.Proofs.YteglaeopaocilaaGreatDoor.P
namespace Go.Proofs.YteglaeopaocilaaGreatDoor.P
open Go.RowKit
open L (Str Tok Tks toks At below_2 below_box ret_bool ret_int ret_string)
open A

/-- a block of cells -/
def Bk (w : World) (b : Nat) (cs : Array Value) (t : TypeId) : Prop := w.heap[b]? = some (.cells cs t)
theorem Bk.lt {w : World} {b : Nat} {cs : Array Value} {t : TypeId} (h : Bk w b cs t) : b < w.heap.size := (Array.getElem?_eq_some_iff.1 h).1
theorem Bk.below {w w' : World} {b : Nat} {cs : Array Value} {t : TypeId} (h : Bk w b cs t) (hb : Below w.heap.size w w') : Bk w' b cs t := (hb.block b h.lt).trans h
theorem Bk.cell {w : World} {b : Nat} {cs : Array Value} {t : TypeId} (h : Bk w b cs t) (i : Nat) : w.cell? ⟨b, i, none⟩ = cs[i]? := by
  have h' : w.heap[b]? = some (.cells cs t) := h
  simp [World.cell?, h']
theorem Bk.new (w : World) (cs : Array Value) (t : TypeId) : Bk (w.alloc (.cells cs t)) w.heap.size cs t := by
  show (w.heap.push _)[w.heap.size]? = _
  simp
theorem isW_of {l : T} {s : Str} (h : isW l s = true) (s' : Str) : isW l s' = decide (s = s') := by
  cases l with
  | nil => cases h
  | cons t r =>
    unfold isW at h ⊢
    simp only [Bool.and_eq_true, decide_eq_true_eq] at h
    obtain ⟨h1, rfl⟩ := h
    simp only
    rw [h1, Bool.true_and]
def NoW (tab : List (Str × Int)) (l : T) (j : Nat) : Prop := ∀ i (h : i < tab.length), i < j → isW l tab[i].1 = false
theorem NoW.zero (tab : List (Str × Int)) (l : T) : NoW tab l 0 := fun _ _ h => absurd h (Nat.not_lt_zero _)
theorem NoW.next {tab : List (Str × Int)} {l : T} {j : Nat} (h : NoW tab l j) (hj : j < tab.length) (hf : isW l tab[j].1 = false) : NoW tab l (j + 1) := fun i hi hlt => by
  rcases Nat.lt_or_ge i j with h1 | h1
  · exact h i hi h1
  · obtain rfl : i = j := by omega
    exact hf
theorem NoW.hit {tab : List (Str × Int)} {l : T} {j : Nat} (h : NoW tab l j) (hj : j < tab.length) (ht : isW l tab[j].1 = true) : findW tab l = tab[j].2 := by
  unfold findW
  have : tab.find? (fun p => isW l p.1) = some tab[j] := by
    rw [List.find?_eq_some_iff_getElem]
    exact ⟨ht, j, hj, rfl, fun i hi => by simp [h i (by omega) hi]⟩
  rw [this]
theorem NoW.none {tab : List (Str × Int)} {l : T} (h : NoW tab l tab.length) : findW tab l = 0 := by
  unfold findW
  have : tab.find? (fun p => isW l p.1) = Option.none := List.find?_eq_none.2 fun p hp => by
    obtain ⟨i, hi, rfl⟩ := List.getElem_of_mem hp
    simp [h i hi hi]
  rw [this]
/-- the line of an error at an index -/
def lineAt (xs : List L.T) (k : Nat) : Int := if h : 0 < xs.length then (xs[min k (xs.length - 1)]'(by omega)).line else 1
end Go.Proofs.YteglaeopaocilaaGreatDoor.P
namespace Go.Proofs.YteglaeopaocilaaGreatDoor.P
open Go.RowKit
open L (Str Tok Tks toks At below_2 below_box ret_bool ret_int ret_string)
open A

/-- none of the first j signs stands there with this level -/
def NoS (lev : Nat) (l : T) (j : Nat) : Prop := ∀ i (h : i < signs.length), i < j → lv signs[i].2 = lev → isW l signs[i].1 = false
theorem NoS.zero (lev : Nat) (l : T) : NoS lev l 0 := fun _ _ h => absurd h (Nat.not_lt_zero _)
theorem NoS.next {lev : Nat} {l : T} {j : Nat} (h : NoS lev l j) (hj : j < signs.length) (hf : lv signs[j].2 = lev → isW l signs[j].1 = false) : NoS lev l (j + 1) := fun i hi hlt => by
  rcases Nat.lt_or_ge i j with h1 | h1
  · exact h i hi h1
  · obtain rfl : i = j := by omega
    exact hf
end Go.Proofs.YteglaeopaocilaaGreatDoor.P
namespace Go.Proofs.YteglaeopaocilaaGreatDoor.A
open Go.RowKit
open L (Str isName prt size_len below_2 below_box ret_bool ret_int)

/-- a store into the box leaves the fresh trees -/
theorem kids_set {w : World} {b i : Nat} {u : Value} {p : Option Addr} {x : List Ex} (h : KidsF (fun j => j < b + 1) w p x) : KidsF (fun j => j < b + 1) (w.setCell ⟨b, i, none⟩ u) p x :=
  h.next ⟨fun j _ hz => Below.heap_setCell _ _ _ _ (by have h2 : ¬ j < b + 1 := hz; show j ≠ b; omega), fun _ hj => Or.inl hj⟩
end Go.Proofs.YteglaeopaocilaaGreatDoor.A
namespace Go.Proofs.YteglaeopaocilaaGreatDoor.P
open Go.RowKit
open L (Str Tok Tks toks At below_2 below_box ret_bool ret_int ret_string)
open A

theorem dr_len (xs : List L.T) (k : Nat) : (dr xs k).length = xs.length - k := by rw [List.length_drop, L.toks_len]
theorem dr_of {xs : List L.T} {k : Nat} {r : T} (h : r <:+ dr xs k) : r = dr xs (xs.length - r.length) := by
  have h2 : r <:+ toks xs := h.trans (List.drop_suffix _ _)
  have h3 := List.suffix_iff_eq_drop.1 h2
  rw [L.toks_len] at h3
  exact h3
theorem dr_le {xs : List L.T} {k : Nat} {r : T} (h : r <:+ dr xs k) : r.length ≤ xs.length := by
  have := h.length_le
  rw [dr_len] at this
  omega
def wset (w : World) (g : Nat) (a b c d : Value) : World := (((w.setCell ⟨g, 0, none⟩ a).setCell ⟨g, 1, none⟩ b).setCell ⟨g, 2, none⟩ c).setCell ⟨g, 3, none⟩ d
theorem Bk.set {w : World} {b : Nat} {cs : Array Value} {t : TypeId} (h : Bk w b cs t) (i : Nat) {u : Value} : Bk (w.setCell ⟨b, i, none⟩ u) b (cs.setIfInBounds i u) t := by
  have h' : w.heap[b]? = some (.cells cs t) := h
  show (w.setCell ⟨b, i, none⟩ u).heap[b]? = _
  simp [World.setCell, Array.getElem?_modify, h']
theorem Bk.free {w : World} {b : Nat} {cs : Array Value} {t : TypeId} (h : Bk w b cs t) (i : Nat) : w.frozen? ⟨b, i, none⟩ = false := by
  have h' : w.heap[b]? = some (.cells cs t) := h
  simp [World.frozen?, h']
theorem bk_set4 {w : World} {g : Nat} {x y z u : Value} {t : TypeId} {a b c d : Value} (h : Bk w g #[x, y, z, u] t) : Bk (wset w g a b c d) g #[a, b, c, d] t := by
  have h4 := (((h.set 0 (u := a)).set 1 (u := b)).set 2 (u := c)).set 3 (u := d)
  unfold wset
  simpa using h4
theorem below_wset {B : Nat} {w w' : World} {g : Nat} {a b c d : Value} (h : Below B w w') (hg : B ≤ g) : Below B w (wset w' g a b c d) :=
  (((h.setCell (p := ⟨g, 0, none⟩) hg a).setCell (p := ⟨g, 1, none⟩) hg b).setCell (p := ⟨g, 2, none⟩) hg c).setCell (p := ⟨g, 3, none⟩) hg d
theorem kids_wset {w : World} {b : Nat} {x y z u : Value} {p : Option Addr} {l : List Ex} (h : KidsF (fun j => j < b + 1) w p l) : KidsF (fun j => j < b + 1) (wset w b x y z u) p l := kids_set (kids_set (kids_set (kids_set h)))
theorem kids_less {w : World} {m n : Nat} {p : Option Addr} {l : List Ex} (h : KidsF (fun j => j < n) w p l) (hm : m ≤ n) : KidsF (fun j => j < m) w p l := h.next ⟨fun _ _ _ => rfl, fun _ hj => Or.inl (Nat.lt_of_lt_of_le hj hm)⟩
theorem kids_more {w w' : World} {n : Nat} {p : Option Addr} {l : List Ex} (h : KidsF (fun j => j < n) w p l) (hb : Below w.heap.size w w') : KidsF (fun j => j < n) w' p l := h.next ⟨fun j hj _ => hb.block j hj, fun _ hj => Or.inl hj⟩
/-- four cells of a box -/
theorem cells4 {w : World} {b : Nat} {x y z u : Value} {t : TypeId} (h : Bk w b #[x, y, z, u] t) : w.cell? ⟨b, 0, none⟩ = some x ∧ w.cell? ⟨b, 1, none⟩ = some y ∧ w.cell? ⟨b, 2, none⟩ = some z ∧ w.cell? ⟨b, 3, none⟩ = some u := ⟨h.cell 0, h.cell 1, h.cell 2, h.cell 3⟩
theorem free4 {w : World} {b : Nat} {x y z u : Value} {t : TypeId} (h : Bk w b #[x, y, z, u] t) : w.frozen? ⟨b, 0, none⟩ = false ∧ w.frozen? ⟨b, 1, none⟩ = false ∧ w.frozen? ⟨b, 2, none⟩ = false ∧ w.frozen? ⟨b, 3, none⟩ = false := ⟨h.free 0, h.free 1, h.free 2, h.free 3⟩
theorem below_on {B : Nat} {w w1 w2 : World} (h : Below B w w1) (hB : w.heap.size = B) (h2 : Below w1.heap.size w1 w2) : Below B w w2 := by
  subst hB
  exact h.trans (h2.mono h.size)
theorem stored4 {w : World} {g : Nat} {x y z u : Value} {t : TypeId} (h : Bk w g #[x, y, z, u] t) (a b c d : Value) :
    let w' := (((w.setCell ⟨g, 0, none⟩ a).setCell ⟨g, 1, none⟩ b).setCell ⟨g, 2, none⟩ c).setCell ⟨g, 3, none⟩ d
    w'.cell? ⟨g, 0, none⟩ = some a ∧ w'.cell? ⟨g, 1, none⟩ = some b ∧ w'.cell? ⟨g, 2, none⟩ = some c ∧ w'.cell? ⟨g, 3, none⟩ = some d := cells4 (bk_set4 h)
end Go.Proofs.YteglaeopaocilaaGreatDoor.P
namespace Go.Proofs.YteglaeopaocilaaGreatDoor.P
open Go.RowKit
open L (Str Tok Tks toks At below_2 below_box ret_bool ret_int ret_string)
open A

/-- below block number B, but for block g, the world w' is as w was -/
structure Kp (B g : Nat) (w w' : World) : Prop where
  os : w'.os = w.os
  tape : w'.tape = w.tape
  output : w'.output = w.output
  size : w.heap.size ≤ w'.heap.size
  block : ∀ k, k < B → k ≠ g → w'.heap[k]? = w.heap[k]?
theorem Kp.refl (B g : Nat) (w : World) : Kp B g w w := ⟨rfl, rfl, rfl, Nat.le_refl _, fun _ _ _ => rfl⟩
theorem Kp.trans {B g : Nat} {a b c : World} (h : Kp B g a b) (k : Kp B g b c) : Kp B g a c :=
  ⟨k.os.trans h.os, k.tape.trans h.tape, k.output.trans h.output, Nat.le_trans h.size k.size, fun i hi hg => (k.block i hi hg).trans (h.block i hi hg)⟩
theorem Kp.mono {B B' g : Nat} {w w' : World} (h : Kp B g w w') (hB : B' ≤ B) : Kp B' g w w' := ⟨h.os, h.tape, h.output, h.size, fun k hk => h.block k (Nat.lt_of_lt_of_le hk hB)⟩
theorem Kp.of {B g : Nat} {w w' : World} (h : Below B w w') : Kp B g w w' := ⟨h.os, h.tape, h.output, h.size, fun k hk _ => h.block k hk⟩
theorem Kp.below {B g : Nat} {w w' : World} (h : Kp B g w w') (hg : B ≤ g) : Below B w w' := ⟨h.os, h.tape, h.output, h.size, fun k hk => h.block k hk (by omega)⟩
theorem Kp.set {B g i : Nat} {w : World} {u : Value} : Kp B g w (w.setCell ⟨g, i, none⟩ u) := ⟨rfl, rfl, rfl, by simp [World.setCell], fun k _ hg => Below.heap_setCell _ _ _ _ hg⟩
theorem Kp.on {B g : Nat} {w w1 w2 : World} (h : Kp B g w w1) (hB : w.heap.size = B) (h2 : Kp w1.heap.size g w1 w2) : Kp B g w w2 := by
  subst hB
  exact h.trans (h2.mono h.size)
theorem Kp.cell {B g : Nat} {w w' : World} (h : Kp B g w w') {p : Addr} (hp : p.block < B) (hg : p.block ≠ g) : w'.cell? p = w.cell? p := World.cell?_of_block (w := w) (h.block p.block hp hg)
theorem Bk.kp {w w' : World} {b g : Nat} {cs : Array Value} {t : TypeId} (h : Bk w b cs t) (hg : b ≠ g) (hb : Kp w.heap.size g w w') : Bk w' b cs t := (hb.block b h.lt hg).trans h
theorem kidsK {w w' : World} {n g : Nat} {p : Option Addr} {l : List Ex} (h : KidsF (fun j => j < n) w p l) (hg : g < n) (hb : Kp w.heap.size g w w') : KidsF (fun j => j < n) w' p l :=
  h.next ⟨fun j hj hz => hb.block j hj (fun e => hz (by rw [e]; exact hg)), fun _ hj => Or.inl hj⟩
theorem bodiesK {w w' : World} {n g : Nat} {p : Option Addr} {l : List St} (h : BodiesF (fun j => j < n) w p l) (hg : g < n) (hb : Kp w.heap.size g w w') : BodiesF (fun j => j < n) w' p l :=
  h.next ⟨fun j hj hz => hb.block j hj (fun e => hz (by rw [e]; exact hg)), fun _ hj => Or.inl hj⟩

/-! ### tokens outside of the parser's block -/

def TkK (g : Nat) (w : World) (a : Option Addr) (xs : List L.T) : Prop := xs = [] ∨ ∃ b o, a = some ⟨b, o, none⟩ ∧ b < g ∧ ∀ j (h : j < xs.length), At w b (o + j * 4) xs[j]
theorem TkK.kp {g : Nat} {w w' : World} {a : Option Addr} {xs : List L.T} (h : TkK g w a xs) (hb : Kp w.heap.size g w w') : TkK g w' a xs := by
  rcases h with h | ⟨b, o, ha, hg, h⟩
  · exact Or.inl h
  · refine Or.inr ⟨b, o, ha, hg, fun j hj => ?_⟩
    have h1 := h j hj
    have hl := h1.lt
    exact ⟨(hb.cell (p := ⟨b, _, none⟩) hl (Nat.ne_of_lt hg)).trans h1.key, (hb.cell (p := ⟨b, _, none⟩) hl (Nat.ne_of_lt hg)).trans h1.kind, (hb.cell (p := ⟨b, _, none⟩) hl (Nat.ne_of_lt hg)).trans h1.num, (hb.cell (p := ⟨b, _, none⟩) hl (Nat.ne_of_lt hg)).trans h1.str⟩
theorem TkK.tail {g : Nat} {w : World} {b o : Nat} {x : L.T} {xs : List L.T} (hg : b < g) (h : ∀ j (h : j < (x :: xs).length), At w b (o + j * 4) (x :: xs)[j]) : TkK g w (some ⟨b, o + 4, none⟩) xs := by
  refine Or.inr ⟨b, o + 4, rfl, hg, fun j hj => ?_⟩
  have := h (j + 1) (by simpa using hj)
  rw [show o + 4 + j * 4 = o + (j + 1) * 4 by omega]
  exact this
theorem TkK.open {g : Nat} {w : World} {a : Option Addr} {x : L.T} {xs : List L.T} (h : TkK g w a (x :: xs)) : ∃ b o, a = some ⟨b, o, none⟩ ∧ b < g ∧ ∀ j (h : j < (x :: xs).length), At w b (o + j * 4) (x :: xs)[j] :=
  h.resolve_left (fun e => by cases e)

/-! ### the parser -/

/-- the line of the token that was read last -/
def lnAt (XS : List L.T) (k : Nat) : Int := if h : 0 < k ∧ k ≤ XS.length then (XS[k - 1]'(by omega)).line else 1
theorem lnAt_next {XS : List L.T} {k : Nat} (h : k < XS.length) : lnAt XS (k + 1) = XS[k].line := by
  unfold lnAt
  rw [dif_pos ⟨by omega, h⟩]
  rfl
theorem line_here {XS : List L.T} {k : Nat} (h : k < XS.length) : lineAt XS k = XS[k].line := by
  unfold lineAt
  rw [dif_pos (by omega)]
  have : min k (XS.length - 1) = k := by omega
  simp only [this]
theorem line_end (XS : List L.T) : lineAt XS XS.length = lnAt XS XS.length := by
  unfold lineAt lnAt
  by_cases h : 0 < XS.length
  · rw [dif_pos h, dif_pos ⟨h, Nat.le_refl _⟩]
    have : min XS.length (XS.length - 1) = XS.length - 1 := by omega
    simp only [this]
  · rw [dif_neg h, dif_neg (by omega)]
/-- the program's table of them -/
def OTab (w : World) : Prop := ∀ n (h : n < opWs.length), w.cell? ⟨3, n, none⟩ = some (.string opWs[n])
theorem OTab.lt {w : World} (h : OTab w) : 3 < w.heap.size := block_lt_of_cell (h 0 (by decide))
theorem OTab.kp {g : Nat} {w w' : World} (h : OTab w) (hg : 3 < g) (hb : Kp w.heap.size g w w') : OTab w' := fun n hn => (hb.cell h.lt (Nat.ne_of_lt hg)).trans (h n hn)
theorem OTab.below {w w' : World} (h : OTab w) (hb : Below w.heap.size w w') : OTab w' := fun n hn => (hb.cell h.lt).trans (h n hn)
/-- the four cells of the parser in block g: the tokens XS from the k-th on are left -/
structure Psr (g : Nat) (XS : List L.T) (k ne bl : Nat) (w : World) : Prop where
  le : k ≤ XS.length
  tab : OTab w
  apart : 3 < g
  mem : ∃ a c, Bk w g #[.slice a (XS.length - k) c, .int .i64 (lnAt XS k), .int .i64 ne, .int .i64 bl] 164 ∧ XS.length - k ≤ c ∧ TkK g w a (XS.drop k)
theorem Psr.lt {g : Nat} {XS : List L.T} {k ne bl : Nat} {w : World} (h : Psr g XS k ne bl w) : g < w.heap.size := by
  obtain ⟨_, _, _, a, c, h, _⟩ := h
  exact h.lt
theorem Psr.below {g : Nat} {XS : List L.T} {k ne bl : Nat} {w w' : World} (h : Psr g XS k ne bl w) (hb : Below w.heap.size w w') : Psr g XS k ne bl w' := by
  obtain ⟨hk, h1, h2, a, c, h, hc, ht⟩ := h
  exact ⟨hk, h1.below hb, h2, a, c, h.below hb, hc, ht.kp (Kp.of hb)⟩
/-- stores into a block behind the parser's -/
theorem Psr.set {g : Nat} {XS : List L.T} {k ne bl b i : Nat} {w : World} {u : Value} (h : Psr g XS k ne bl w) (hb : g < b) : Psr g XS k ne bl (w.setCell ⟨b, i, none⟩ u) := by
  obtain ⟨hk, h1, h2, a, c, h, hc, ht⟩ := h
  have hs : ∀ j, j ≤ g → (w.setCell ⟨b, i, none⟩ u).heap[j]? = w.heap[j]? := fun j hj => Below.heap_setCell _ _ _ _ (by show j ≠ b; omega)
  have hcell : ∀ j o, j ≤ g → (w.setCell ⟨b, i, none⟩ u).cell? ⟨j, o, none⟩ = w.cell? ⟨j, o, none⟩ := fun j o hj => World.cell?_of_block (w := w) (hs j hj)
  refine ⟨hk, fun n hn => (hcell _ _ (Nat.le_of_lt h2)).trans (h1 n hn), h2, a, c, (hs g (Nat.le_refl _)).trans h, hc, ?_⟩
  rcases ht with ht | ⟨b2, o, ha, hg, hat⟩
  · exact Or.inl ht
  · refine Or.inr ⟨b2, o, ha, hg, fun j hj => ?_⟩
    have hx := hat j hj
    have hg' := Nat.le_of_lt hg
    exact ⟨(hcell _ _ hg').trans hx.key, (hcell _ _ hg').trans hx.kind, (hcell _ _ hg').trans hx.num, (hcell _ _ hg').trans hx.str⟩
theorem Psr.wset {g : Nat} {XS : List L.T} {k ne bl b : Nat} {w : World} {x y z u : Value} (h : Psr g XS k ne bl w) (hb : g < b) : Psr g XS k ne bl (wset w b x y z u) := (((h.set hb).set hb).set hb).set hb
theorem kp_wset {B g : Nat} {w w' : World} {b : Nat} {x y z u : Value} (h : Kp B g w w') (hb : B ≤ b) : Kp B g w (wset w' b x y z u) := h.trans (Kp.of (below_wset (Below.refl B w') hb))
/-- the panic of an error -/
def fails (XS : List L.T) (j : Nat) (x : Int) : Ending := .panicked [{ v := .iface 117 (.agg #[.int .i64 (lineAt XS j), .int .i64 x]), recovered := false }]
/-- what reads a symbol of the grammar does: a tree and what follows it, or the panic -/
def PRd {α : Type} (g : Nat) (XS : List L.T) (ne bl : Nat) (w w' : World) (q : R α) (ok : α → Value → Prop) (e : Ending) : Prop := Kp w.heap.size g w w' ∧ match q with
  | .ok t r => ∃ v, e = .returned v ∧ Psr g XS (XS.length - r.length) ne bl w' ∧ ok t v
  | .no r x => e = fails XS (XS.length - r.length) x
/-- an expression that is returned -/
def okX (B : Nat) (w' : World) (t : Ex) (v : Value) : Prop := ∃ a c, v = exV t a c ∧ KidsF (fun j => j < B) w' a t.args
def PRdX (g : Nat) (XS : List L.T) (ne bl : Nat) (w w' : World) (q : R Ex) (e : Ending) : Prop := PRd g XS ne bl w w' q (okX w.heap.size w') e
end Go.Proofs.YteglaeopaocilaaGreatDoor.P
