/-
  Trees in memory: expressions and statements of layer 8, and what is asked of their sizes.
-/
import Derived.Test.YtffamknoamknpaaAFacts
import Derived.Test.YtffamknoamknpaaG2
namespace Go.Proofs.Ytffamknoamknpaa.A
open Go.RowKit
open L (Str isName prt size_len below_2 below_box ret_bool ret_int eql_eq bytes_eq)

theorem Ex.ind {P : Ex → Prop} (h : ∀ o n s l, (∀ j (hj : j < l.length), P l[j]) → P (.mk o n s l)) : ∀ e, P e := by
  have key : (∀ e : Ex, P e) ∧ ∀ l : List Ex, ∀ j (hj : j < l.length), P l[j] := by
    refine ⟨fun e => ?_, fun l => ?_⟩
    · exact Ex.rec (motive_1 := P) (motive_2 := fun l => ∀ j (hj : j < l.length), P l[j]) h (fun j hj => by cases hj) (fun e l he hl j hj => by
        cases j with
        | zero => exact he
        | succ j => exact hl j (by simpa using hj)) e
    · exact Ex.rec_1 (motive_1 := P) (motive_2 := fun l => ∀ j (hj : j < l.length), P l[j]) h (fun j hj => by cases hj) (fun e l he hl j hj => by
        cases j with
        | zero => exact he
        | succ j => exact hl j (by simpa using hj)) l
  exact key.1
theorem St.ind {P : St → Prop} (h : ∀ o nm mx a b bd el, (∀ j (hj : j < bd.length), P bd[j]) → (∀ j (hj : j < el.length), P el[j]) → P (.mk o nm mx a b bd el)) : ∀ s, P s := by
  intro s
  exact St.rec (motive_1 := P) (motive_2 := fun l => ∀ j (hj : j < l.length), P l[j]) h (fun j hj => by cases hj) (fun e l he hl j hj => by
        cases j with
        | zero => exact he
        | succ j => exact hl j (by simpa using hj)) s

/-! ### expressions in memory -/

mutual
def ExAt (w : World) : Ex → Nat → Nat → Prop
  | .mk o n s l, b, i => w.cell? ⟨b, i, none⟩ = some (.int .i64 o) ∧ w.cell? ⟨b, i + 1, none⟩ = some (.int .i64 n) ∧ w.cell? ⟨b, i + 2, none⟩ = some (.string s) ∧
      ∃ a c, w.cell? ⟨b, i + 3, none⟩ = some (.slice a l.length c) ∧ (l = [] ∨ ∃ b2 i2, a = some ⟨b2, i2, none⟩ ∧ ExsAt w l b2 i2)
def ExsAt (w : World) : List Ex → Nat → Nat → Prop
  | [], _, _ => True
  | e :: r, b, i => ExAt w e b i ∧ ExsAt w r b (i + 4)
end
/-- the slice at a holds the expressions l -/
def Kids (w : World) (a : Option Addr) (l : List Ex) : Prop := l = [] ∨ ∃ b i, a = some ⟨b, i, none⟩ ∧ ExsAt w l b i
theorem ExsAt.get {w : World} : ∀ {l : List Ex} {b i : Nat}, ExsAt w l b i → ∀ j (h : j < l.length), ExAt w l[j] b (i + j * 4)
  | e :: r, b, i, h, 0, _ => by rw [ExsAt] at h; simpa using h.1
  | e :: r, b, i, h, j + 1, hj => by
    rw [ExsAt] at h
    have := ExsAt.get h.2 j (by simpa using hj)
    rw [show i + (j + 1) * 4 = i + 4 + j * 4 by omega]
    exact this
theorem ExAt.lt {w : World} {e : Ex} {b i : Nat} (h : ExAt w e b i) : b < w.heap.size := by
  obtain ⟨o, n, s, l⟩ := e
  rw [ExAt] at h
  exact block_lt_of_cell h.1
mutual
theorem ExAt.below {w w' : World} (hb : Below w.heap.size w w') : ∀ (e : Ex) {b i : Nat}, ExAt w e b i → ExAt w' e b i
  | .mk o n s l, b, i, h => by
    have hlt := h.lt
    rw [ExAt] at h ⊢
    obtain ⟨h0, h1, h2, a, c, h3, h4⟩ := h
    refine ⟨(hb.cell hlt).trans h0, (hb.cell hlt).trans h1, (hb.cell hlt).trans h2, a, c, (hb.cell hlt).trans h3, ?_⟩
    rcases h4 with h4 | ⟨b2, i2, ha, h5⟩
    · exact Or.inl h4
    · exact Or.inr ⟨b2, i2, ha, ExsAt.below hb l h5⟩
theorem ExsAt.below {w w' : World} (hb : Below w.heap.size w w') : ∀ (l : List Ex) {b i : Nat}, ExsAt w l b i → ExsAt w' l b i
  | [], _, _, _ => by rw [ExsAt]; trivial
  | e :: r, b, i, h => by
    rw [ExsAt] at h ⊢
    exact ⟨ExAt.below hb e h.1, ExsAt.below hb r h.2⟩
end
theorem Kids.below {w w' : World} {a : Option Addr} {l : List Ex} (h : Kids w a l) (hb : Below w.heap.size w w') : Kids w' a l := by
  rcases h with h | ⟨b, i, ha, h⟩
  · exact Or.inl h
  · exact Or.inr ⟨b, i, ha, h.below hb⟩
/-- what is read at an element -/
theorem Kids.open {w : World} {a : Option Addr} {l : List Ex} (h : Kids w a l) {k : Nat} (hk : k < l.length) : ∃ b i, a = some ⟨b, i, none⟩ ∧ ExAt w l[k] b (i + k * 4) := by
  rcases h with rfl | ⟨b, i, ha, h⟩
  · cases hk
  · exact ⟨b, i, ha, h.get k hk⟩
theorem ExAt.open {w : World} {e : Ex} {b i : Nat} (h : ExAt w e b i) : w.cell? ⟨b, i, none⟩ = some (.int .i64 e.op) ∧ w.cell? ⟨b, i + 1, none⟩ = some (.int .i64 e.n) ∧ w.cell? ⟨b, i + 2, none⟩ = some (.string e.s) ∧
    ∃ a c, w.cell? ⟨b, i + 3, none⟩ = some (.slice a e.args.length c) ∧ Kids w a e.args := by
  obtain ⟨o, n, s, l⟩ := e
  rw [ExAt] at h
  exact h
/-- an expression as a value -/
def exV (e : Ex) (a : Option Addr) (c : Nat) : Value := .agg #[.int .i64 e.op, .int .i64 e.n, .string e.s, .slice a e.args.length c]
/-- its box -/
def exO (e : Ex) (a : Option Addr) (c : Nat) : Obj := .cells #[.int .i64 e.op, .int .i64 e.n, .string e.s, .slice a e.args.length c] 27
theorem exO_cells (w : World) (e : Ex) (a : Option Addr) (c : Nat) : (w.alloc (exO e a c)).cell? ⟨w.heap.size, 0, none⟩ = some (.int .i64 e.op) ∧ (w.alloc (exO e a c)).cell? ⟨w.heap.size, 1, none⟩ = some (.int .i64 e.n) ∧
    (w.alloc (exO e a c)).cell? ⟨w.heap.size, 2, none⟩ = some (.string e.s) ∧ (w.alloc (exO e a c)).cell? ⟨w.heap.size, 3, none⟩ = some (.slice a e.args.length c) := by
  unfold exO
  exact ⟨by go_simp, by go_simp, by go_simp, by go_simp⟩
/-! ### sizes -/
mutual
/-- what the reach gives: texts and lists that fit memory, numbers of 64 bits -/
def okE : Ex → Prop
  | .mk o n s l => (-9223372036854775808 ≤ o ∧ o ≤ 9223372036854775807) ∧ (-9223372036854775808 ≤ n ∧ n ≤ 9223372036854775807) ∧ s.size ≤ 1000000000000000 ∧ l.length ≤ 1000000000000000 ∧ okEs l
def okEs : List Ex → Prop
  | [] => True
  | e :: r => okE e ∧ okEs r
end
theorem okEs.get : ∀ {l : List Ex}, okEs l → ∀ j (h : j < l.length), okE l[j]
  | e :: r, h, 0, _ => by rw [okEs] at h; exact h.1
  | e :: r, h, j + 1, hj => by rw [okEs] at h; exact okEs.get h.2 j (by simpa using hj)
end Go.Proofs.Ytffamknoamknpaa.A
