/-
  Lists of pairs in memory.
-/
import Derived.Test.YtieloegadhgipaaSCodes
import Derived.Test.YtieloegadhgipaaVals
import Derived.Test.YtieloegadhgipaaKeys
import Derived.Deep.LoopGhost
import Derived.Deep.QuietTactic
import Derived.BigQuiet
import Derived.Lib.QuietBelow
namespace Go.Proofs.Ytieloegadhgipaa.S
open Go.RowKit
open Go.Proofs.Ytieloegadhgipaa.V (ret_bool ret_int ret_string below_2 below_box below_box2)

/-- a pair, as the program has it -/
structure P where
  key : ByteArray
  k : Int
  n : Int
  s : ByteArray
/-- the pair that it stands for -/
def P.pr (p : P) : Pr := (p.key.data.toList, ⟨p.k, p.n, p.s.data.toList⟩)
def P.v (p : P) : Value := .agg #[.int .i64 p.k, .int .i64 p.n, .string p.s]
def P.val (p : P) : Value := .agg #[.string p.key, .int .i64 p.k, .int .i64 p.n, .string p.s]
def P.cells (p : P) : List Value := [.string p.key, .int .i64 p.k, .int .i64 p.n, .string p.s]
def prs (xs : List P) : List Pr := xs.map P.pr
theorem prs_len (xs : List P) : (prs xs).length = xs.length := List.length_map _
/-- the four cells of a pair -/
structure At (w : World) (b o : Nat) (p : P) : Prop where
  key : w.cell? ⟨b, o, none⟩ = some (.string p.key)
  kind : w.cell? ⟨b, o + 1, none⟩ = some (.int .i64 p.k)
  num : w.cell? ⟨b, o + 2, none⟩ = some (.int .i64 p.n)
  str : w.cell? ⟨b, o + 3, none⟩ = some (.string p.s)
/-- the slice at a holds the pairs xs -/
def Prs (w : World) (a : Option Addr) (xs : List P) : Prop :=
  xs = [] ∨ ∃ b o, a = some ⟨b, o, none⟩ ∧ ∀ j (h : j < xs.length), At w b (o + j * 4) xs[j]
theorem At.below {w w' : World} {b o B : Nat} {p : P} (h : At w b o p) (hb : Below B w w') (hB : b < B) : At w' b o p :=
  ⟨(hb.cell (by exact hB)).trans h.key, (hb.cell (by exact hB)).trans h.kind, (hb.cell (by exact hB)).trans h.num, (hb.cell (by exact hB)).trans h.str⟩
theorem At.lt {w : World} {b o : Nat} {p : P} (h : At w b o p) : b < w.heap.size := block_lt_of_cell h.key
theorem Prs.below {w w' : World} {a : Option Addr} {xs : List P} (h : Prs w a xs) (hb : Below w.heap.size w w') : Prs w' a xs := by
  rcases h with h | ⟨b, o, rfl, h⟩
  · exact Or.inl h
  · exact Or.inr ⟨b, o, rfl, fun j hj => (h j hj).below hb (h j hj).lt⟩
theorem Prs.nil (w : World) (a : Option Addr) : Prs w a [] := Or.inl rfl
theorem Prs.open {w : World} {a : Option Addr} {xs : List P} (h : Prs w a xs) {k : Nat} (hk : k < xs.length) : ∃ b o, a = some ⟨b, o, none⟩ ∧ ∀ j (h : j < xs.length), At w b (o + j * 4) xs[j] :=
  h.resolve_left (fun e => by rw [e] at hk; exact absurd hk (Nat.not_lt_zero _))

/-! ### facts in every world that a region that only reads may come to -/

theorem grownW {f : FuncId} {args : Array Value} {v : Value} {W : World} (h : ∀ w, Calls Try.prog f args w fun e w' => e = .returned v ∧ Below w.heap.size w w') (d : Nat) (os : Array Obj) :
    Calls Try.prog f args (Sort.grow (redrawn W d) os) fun e w'' => e = .returned v ∧ ∃ p : Regrown, w'' = Sort.grow (redrawn W p.d) p.os := Calls.regrown_of (h _)
theorem grownS {f : FuncId} {args : Array Value} {v : Value} {W : World} (h : ∀ w, Calls Try.prog f args w fun e w' => e = .returned v ∧ w' = w) (d : Nat) (os : Array Obj) :
    Calls Try.prog f args (Sort.grow (redrawn W d) os) fun e w'' => e = .returned v ∧ ∃ p : Regrown, w'' = Sort.grow (redrawn W p.d) p.os :=
  Calls.regrown_of ((h _).mono fun _ _ ⟨a, b⟩ => ⟨a, by rw [b]; exact Below.refl _ _⟩)
theorem grownP {f : FuncId} {args : Array Value} {v : Value} {W : World} {a : Option Addr} {xs : List P} (hP : Prs W a xs) (h : ∀ w, Prs w a xs → Calls Try.prog f args w fun e w' => e = .returned v ∧ Below w.heap.size w w') (d : Nat) (os : Array Obj) :
    Calls Try.prog f args (Sort.grow (redrawn W d) os) fun e w'' => e = .returned v ∧ ∃ p : Regrown, w'' = Sort.grow (redrawn W p.d) p.os := Calls.regrown_of (h _ (hP.below (below_regrown W d os)))
theorem At.grown {W : World} {b o : Nat} {p : P} (h : At W b o p) : (∀ (d : Nat) (os : Array Obj), (Sort.grow (redrawn W d) os).cell? ⟨b, o, none⟩ = some (.string p.key)) ∧ (∀ (d : Nat) (os : Array Obj), (Sort.grow (redrawn W d) os).cell? ⟨b, o + 1, none⟩ = some (.int .i64 p.k)) ∧
    (∀ (d : Nat) (os : Array Obj), (Sort.grow (redrawn W d) os).cell? ⟨b, o + 2, none⟩ = some (.int .i64 p.n)) ∧ (∀ (d : Nat) (os : Array Obj), (Sort.grow (redrawn W d) os).cell? ⟨b, o + 3, none⟩ = some (.string p.s)) :=
  ⟨fun d os => cell_regrown h.key d os, fun d os => cell_regrown h.kind d os, fun d os => cell_regrown h.num d os, fun d os => cell_regrown h.str d os⟩
end Go.Proofs.Ytieloegadhgipaa.S
