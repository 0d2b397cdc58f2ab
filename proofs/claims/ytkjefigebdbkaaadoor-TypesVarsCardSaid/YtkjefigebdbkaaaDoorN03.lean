/-
  Trees in memory: expressions and statements of layer 8, and what is asked of their sizes.
  Trees in memory: statements, parameters and procedures of layer 8.
-/
import Derived.Test.YtkjefigebdbkaaaDoorTAFacts
import Derived.Test.YtkjefigebdbkaaaDoorN01
namespace Go.Proofs.YtkjefigebdbkaaaDoor.A
open Go.RowKit
open L (Str isName prt size_len below_2 below_box ret_bool ret_int eql_eq bytes_eq)

theorem Ex.ind {P : Ex → Prop} (h : ∀ o n s l, (∀ j (hj : j < l.length), P l[j]) → P (.mk o n s l)) : ∀ e, P e := by
  have key : (∀ e : Ex, P e) ∧ ∀ l : List Ex, ∀ j (hj : j < l.length), P l[j] := by
    refine ⟨fun e => ?_, fun l => ?_⟩
    · exact Ex.rec (motive_1 := P) (motive_2 := fun l => ∀ j (hj : j < l.length), P l[j]) h (fun j hj => by cases hj) (fun e l he hl j hj => by
        cases j with
        | zero => exact he
        | succ j => exact hl j (by simpa using hj)) e
    · exact Ex.rec_1 (motive_1 := P) (motive_2 := fun l => ∀ j (hj : j < l.length), P l[j]) h (fun j hj => by cases hj) (fun e l he hl j hj => by
        cases j with
        | zero => exact he
        | succ j => exact hl j (by simpa using hj)) l
  exact key.1
theorem St.ind {P : St → Prop} (h : ∀ o nm mx a b bd el, (∀ j (hj : j < bd.length), P bd[j]) → (∀ j (hj : j < el.length), P el[j]) → P (.mk o nm mx a b bd el)) : ∀ s, P s := by
  intro s
  exact St.rec (motive_1 := P) (motive_2 := fun l => ∀ j (hj : j < l.length), P l[j]) h (fun j hj => by cases hj) (fun e l he hl j hj => by
        cases j with
        | zero => exact he
        | succ j => exact hl j (by simpa using hj)) s

/-! ### expressions in memory -/

mutual
def ExAt (w : World) : Ex → Nat → Nat → Prop
  | .mk o n s l, b, i => w.cell? ⟨b, i, none⟩ = some (.int .i64 o) ∧ w.cell? ⟨b, i + 1, none⟩ = some (.int .i64 n) ∧ w.cell? ⟨b, i + 2, none⟩ = some (.string s) ∧
      ∃ a c, w.cell? ⟨b, i + 3, none⟩ = some (.slice a l.length c) ∧ (l = [] ∨ ∃ b2 i2, a = some ⟨b2, i2, none⟩ ∧ ExsAt w l b2 i2)
def ExsAt (w : World) : List Ex → Nat → Nat → Prop
  | [], _, _ => True
  | e :: r, b, i => ExAt w e b i ∧ ExsAt w r b (i + 4)
end
/-- the slice at a holds the expressions l -/
def Kids (w : World) (a : Option Addr) (l : List Ex) : Prop := l = [] ∨ ∃ b i, a = some ⟨b, i, none⟩ ∧ ExsAt w l b i
theorem ExsAt.get {w : World} : ∀ {l : List Ex} {b i : Nat}, ExsAt w l b i → ∀ j (h : j < l.length), ExAt w l[j] b (i + j * 4)
  | e :: r, b, i, h, 0, _ => by rw [ExsAt] at h; simpa using h.1
  | e :: r, b, i, h, j + 1, hj => by
    rw [ExsAt] at h
    have := ExsAt.get h.2 j (by simpa using hj)
    rw [show i + (j + 1) * 4 = i + 4 + j * 4 by omega]
    exact this
theorem ExAt.lt {w : World} {e : Ex} {b i : Nat} (h : ExAt w e b i) : b < w.heap.size := by
  obtain ⟨o, n, s, l⟩ := e
  rw [ExAt] at h
  exact block_lt_of_cell h.1
mutual
theorem ExAt.below {w w' : World} (hb : Below w.heap.size w w') : ∀ (e : Ex) {b i : Nat}, ExAt w e b i → ExAt w' e b i
  | .mk o n s l, b, i, h => by
    have hlt := h.lt
    rw [ExAt] at h ⊢
    obtain ⟨h0, h1, h2, a, c, h3, h4⟩ := h
    refine ⟨(hb.cell hlt).trans h0, (hb.cell hlt).trans h1, (hb.cell hlt).trans h2, a, c, (hb.cell hlt).trans h3, ?_⟩
    rcases h4 with h4 | ⟨b2, i2, ha, h5⟩
    · exact Or.inl h4
    · exact Or.inr ⟨b2, i2, ha, ExsAt.below hb l h5⟩
theorem ExsAt.below {w w' : World} (hb : Below w.heap.size w w') : ∀ (l : List Ex) {b i : Nat}, ExsAt w l b i → ExsAt w' l b i
  | [], _, _, _ => by rw [ExsAt]; trivial
  | e :: r, b, i, h => by
    rw [ExsAt] at h ⊢
    exact ⟨ExAt.below hb e h.1, ExsAt.below hb r h.2⟩
end
theorem Kids.below {w w' : World} {a : Option Addr} {l : List Ex} (h : Kids w a l) (hb : Below w.heap.size w w') : Kids w' a l := by
  rcases h with h | ⟨b, i, ha, h⟩
  · exact Or.inl h
  · exact Or.inr ⟨b, i, ha, h.below hb⟩
/-- what is read at an element -/
theorem Kids.open {w : World} {a : Option Addr} {l : List Ex} (h : Kids w a l) {k : Nat} (hk : k < l.length) : ∃ b i, a = some ⟨b, i, none⟩ ∧ ExAt w l[k] b (i + k * 4) := by
  rcases h with rfl | ⟨b, i, ha, h⟩
  · cases hk
  · exact ⟨b, i, ha, h.get k hk⟩
theorem ExAt.open {w : World} {e : Ex} {b i : Nat} (h : ExAt w e b i) : w.cell? ⟨b, i, none⟩ = some (.int .i64 e.op) ∧ w.cell? ⟨b, i + 1, none⟩ = some (.int .i64 e.n) ∧ w.cell? ⟨b, i + 2, none⟩ = some (.string e.s) ∧
    ∃ a c, w.cell? ⟨b, i + 3, none⟩ = some (.slice a e.args.length c) ∧ Kids w a e.args := by
  obtain ⟨o, n, s, l⟩ := e
  rw [ExAt] at h
  exact h
/-- an expression as a value -/
def exV (e : Ex) (a : Option Addr) (c : Nat) : Value := .agg #[.int .i64 e.op, .int .i64 e.n, .string e.s, .slice a e.args.length c]
/-- its box -/
def exO (e : Ex) (a : Option Addr) (c : Nat) : Obj := .cells #[.int .i64 e.op, .int .i64 e.n, .string e.s, .slice a e.args.length c] 46
theorem exO_cells (w : World) (e : Ex) (a : Option Addr) (c : Nat) : (w.alloc (exO e a c)).cell? ⟨w.heap.size, 0, none⟩ = some (.int .i64 e.op) ∧ (w.alloc (exO e a c)).cell? ⟨w.heap.size, 1, none⟩ = some (.int .i64 e.n) ∧
    (w.alloc (exO e a c)).cell? ⟨w.heap.size, 2, none⟩ = some (.string e.s) ∧ (w.alloc (exO e a c)).cell? ⟨w.heap.size, 3, none⟩ = some (.slice a e.args.length c) := by
  unfold exO
  exact ⟨by go_simp, by go_simp, by go_simp, by go_simp⟩
/-! ### sizes -/
mutual
/-- what the reach gives: texts and lists that fit memory, numbers of 64 bits -/
def okE : Ex → Prop
  | .mk o n s l => (-9223372036854775808 ≤ o ∧ o ≤ 9223372036854775807) ∧ (-9223372036854775808 ≤ n ∧ n ≤ 9223372036854775807) ∧ s.size ≤ 1000000000000000 ∧ l.length ≤ 1000000000000000 ∧ okEs l
def okEs : List Ex → Prop
  | [] => True
  | e :: r => okE e ∧ okEs r
end
theorem okEs.get : ∀ {l : List Ex}, okEs l → ∀ j (h : j < l.length), okE l[j]
  | e :: r, h, 0, _ => by rw [okEs] at h; exact h.1
  | e :: r, h, j + 1, hj => by rw [okEs] at h; exact okEs.get h.2 j (by simpa using hj)
end Go.Proofs.YtkjefigebdbkaaaDoor.A
namespace Go.Proofs.YtkjefigebdbkaaaDoor.A
open Go.RowKit
open L (Str isName prt size_len below_2 below_box ret_bool ret_int)

mutual
def StAt (w : World) : St → Nat → Nat → Prop
  | .mk o nm mx a b bd el, blk, i => w.cell? ⟨blk, i, none⟩ = some (.int .i64 o) ∧ w.cell? ⟨blk, i + 1, none⟩ = some (.string nm) ∧ w.cell? ⟨blk, i + 2, none⟩ = some (.int .i64 mx) ∧ ExAt w a blk (i + 3) ∧ ExAt w b blk (i + 7) ∧
      (∃ ad c, w.cell? ⟨blk, i + 11, none⟩ = some (.slice ad bd.length c) ∧ (bd = [] ∨ ∃ b2 i2, ad = some ⟨b2, i2, none⟩ ∧ StsAt w bd b2 i2)) ∧
      (∃ ad c, w.cell? ⟨blk, i + 12, none⟩ = some (.slice ad el.length c) ∧ (el = [] ∨ ∃ b2 i2, ad = some ⟨b2, i2, none⟩ ∧ StsAt w el b2 i2))
def StsAt (w : World) : List St → Nat → Nat → Prop
  | [], _, _ => True
  | s :: r, b, i => StAt w s b i ∧ StsAt w r b (i + 13)
end
/-- the slice at a holds the statements l -/
def Bodies (w : World) (a : Option Addr) (l : List St) : Prop := l = [] ∨ ∃ b i, a = some ⟨b, i, none⟩ ∧ StsAt w l b i
theorem StsAt.get {w : World} : ∀ {l : List St} {b i : Nat}, StsAt w l b i → ∀ j (h : j < l.length), StAt w l[j] b (i + j * 13)
  | e :: r, b, i, h, 0, _ => by rw [StsAt] at h; simpa using h.1
  | e :: r, b, i, h, j + 1, hj => by
    rw [StsAt] at h
    have := StsAt.get h.2 j (by simpa using hj)
    rw [show i + (j + 1) * 13 = i + 13 + j * 13 by omega]
    exact this
theorem StAt.lt {w : World} {s : St} {b i : Nat} (h : StAt w s b i) : b < w.heap.size := by
  obtain ⟨o, nm, mx, a, b, bd, el⟩ := s
  rw [StAt] at h
  exact block_lt_of_cell h.1
mutual
theorem StAt.below {w w' : World} (hb : Below w.heap.size w w') : ∀ (s : St) {b i : Nat}, StAt w s b i → StAt w' s b i
  | .mk o nm mx a b bd el, blk, i, h => by
    have hlt := h.lt
    rw [StAt] at h ⊢
    obtain ⟨h0, h1, h2, h3, h4, ⟨a5, c5, h5, g5⟩, ⟨a6, c6, h6, g6⟩⟩ := h
    refine ⟨(hb.cell hlt).trans h0, (hb.cell hlt).trans h1, (hb.cell hlt).trans h2, h3.below hb, h4.below hb, ⟨a5, c5, (hb.cell hlt).trans h5, ?_⟩, ⟨a6, c6, (hb.cell hlt).trans h6, ?_⟩⟩
    · rcases g5 with g | ⟨b2, i2, ha, g⟩
      · exact Or.inl g
      · exact Or.inr ⟨b2, i2, ha, StsAt.below hb bd g⟩
    · rcases g6 with g | ⟨b2, i2, ha, g⟩
      · exact Or.inl g
      · exact Or.inr ⟨b2, i2, ha, StsAt.below hb el g⟩
theorem StsAt.below {w w' : World} (hb : Below w.heap.size w w') : ∀ (l : List St) {b i : Nat}, StsAt w l b i → StsAt w' l b i
  | [], _, _, _ => by rw [StsAt]; trivial
  | e :: r, b, i, h => by
    rw [StsAt] at h ⊢
    exact ⟨StAt.below hb e h.1, StsAt.below hb r h.2⟩
end
theorem Bodies.below {w w' : World} {a : Option Addr} {l : List St} (h : Bodies w a l) (hb : Below w.heap.size w w') : Bodies w' a l := by
  rcases h with h | ⟨b, i, ha, h⟩
  · exact Or.inl h
  · exact Or.inr ⟨b, i, ha, h.below hb⟩
theorem Bodies.open {w : World} {a : Option Addr} {l : List St} (h : Bodies w a l) {k : Nat} (hk : k < l.length) : ∃ b i, a = some ⟨b, i, none⟩ ∧ StAt w l[k] b (i + k * 13) := by
  rcases h with rfl | ⟨b, i, ha, h⟩
  · cases hk
  · exact ⟨b, i, ha, h.get k hk⟩
/-- the cells of a statement -/
structure StCells (w : World) (s : St) (b i : Nat) (a1 : Option Addr) (c1 : Nat) (a2 : Option Addr) (c2 : Nat) (a3 : Option Addr) (c3 : Nat) (a4 : Option Addr) (c4 : Nat) : Prop where
  k0 : w.cell? ⟨b, i, none⟩ = some (.int .i64 s.op)
  k1 : w.cell? ⟨b, i + 1, none⟩ = some (.string s.name)
  k2 : w.cell? ⟨b, i + 2, none⟩ = some (.int .i64 s.mx)
  k3 : w.cell? ⟨b, i + 3, none⟩ = some (.int .i64 s.a.op)
  k4 : w.cell? ⟨b, i + 4, none⟩ = some (.int .i64 s.a.n)
  k5 : w.cell? ⟨b, i + 5, none⟩ = some (.string s.a.s)
  k6 : w.cell? ⟨b, i + 6, none⟩ = some (.slice a1 s.a.args.length c1)
  k7 : w.cell? ⟨b, i + 7, none⟩ = some (.int .i64 s.b.op)
  k8 : w.cell? ⟨b, i + 8, none⟩ = some (.int .i64 s.b.n)
  k9 : w.cell? ⟨b, i + 9, none⟩ = some (.string s.b.s)
  k10 : w.cell? ⟨b, i + 10, none⟩ = some (.slice a2 s.b.args.length c2)
  k11 : w.cell? ⟨b, i + 11, none⟩ = some (.slice a3 s.body.length c3)
  k12 : w.cell? ⟨b, i + 12, none⟩ = some (.slice a4 s.els.length c4)
/-- where a statement's parts lie -/
structure StKids (w : World) (s : St) (a1 a2 a3 a4 : Option Addr) : Prop where
  a : Kids w a1 s.a.args
  b : Kids w a2 s.b.args
  body : Bodies w a3 s.body
  els : Bodies w a4 s.els
theorem StKids.below {w w' : World} {s : St} {a1 a2 a3 a4 : Option Addr} (h : StKids w s a1 a2 a3 a4) (hb : Below w.heap.size w w') : StKids w' s a1 a2 a3 a4 := ⟨h.a.below hb, h.b.below hb, h.body.below hb, h.els.below hb⟩
theorem StAt.open {w : World} {s : St} {b i : Nat} (h : StAt w s b i) : ∃ a1 c1 a2 c2 a3 c3 a4 c4, StCells w s b i a1 c1 a2 c2 a3 c3 a4 c4 ∧ StKids w s a1 a2 a3 a4 := by
  obtain ⟨o, nm, mx, a, b', bd, el⟩ := s
  rw [StAt] at h
  obtain ⟨h0, h1, h2, h3, h4, ⟨a5, c5, h5, g5⟩, ⟨a6, c6, h6, g6⟩⟩ := h
  obtain ⟨x0, x1, x2, a1, c1, x3, x4⟩ := h3.open
  obtain ⟨y0, y1, y2, a2, c2, y3, y4⟩ := h4.open
  exact ⟨a1, c1, a2, c2, a5, c5, a6, c6, ⟨h0, h1, h2, x0, x1, x2, x3, y0, y1, y2, y3, h5, h6⟩, ⟨x4, y4, g5, g6⟩⟩
theorem StCells.below {w w' : World} {s : St} {b i : Nat} {a1 a2 a3 a4 : Option Addr} {c1 c2 c3 c4 : Nat} (h : StCells w s b i a1 c1 a2 c2 a3 c3 a4 c4) (hb : Below w.heap.size w w') : StCells w' s b i a1 c1 a2 c2 a3 c3 a4 c4 := by
  have hlt : b < w.heap.size := block_lt_of_cell h.k0
  exact ⟨(hb.cell hlt).trans h.k0, (hb.cell hlt).trans h.k1, (hb.cell hlt).trans h.k2, (hb.cell hlt).trans h.k3, (hb.cell hlt).trans h.k4, (hb.cell hlt).trans h.k5, (hb.cell hlt).trans h.k6, (hb.cell hlt).trans h.k7, (hb.cell hlt).trans h.k8, (hb.cell hlt).trans h.k9, (hb.cell hlt).trans h.k10, (hb.cell hlt).trans h.k11, (hb.cell hlt).trans h.k12⟩
mutual
/-- what the reach gives -/
def okS : St → Prop
  | .mk o nm mx a b bd el => (-9223372036854775808 ≤ o ∧ o ≤ 9223372036854775807) ∧ nm.size ≤ 1000000000000000 ∧ (-9223372036854775808 ≤ mx ∧ mx ≤ 9223372036854775807) ∧ okE a ∧ okE b ∧ bd.length ≤ 1000000000000000 ∧ okB bd ∧ el.length ≤ 1000000000000000 ∧ okB el
def okB : List St → Prop
  | [] => True
  | e :: r => okS e ∧ okB r
end
theorem okB.get : ∀ {l : List St}, okB l → ∀ j (h : j < l.length), okS l[j]
  | e :: r, h, 0, _ => by rw [okB] at h; exact h.1
  | e :: r, h, j + 1, hj => by rw [okB] at h; exact okB.get h.2 j (by simpa using hj)
structure OkS (s : St) : Prop where
  name : s.name.size ≤ 1000000000000000
  mx : -9223372036854775808 ≤ s.mx ∧ s.mx ≤ 9223372036854775807
  a : okE s.a
  b : okE s.b
  bodyLen : s.body.length ≤ 1000000000000000
  body : okB s.body
  elsLen : s.els.length ≤ 1000000000000000
  els : okB s.els
theorem okS_open {s : St} (h : okS s) : OkS s := by
  obtain ⟨o, nm, mx, a, b, bd, el⟩ := s
  rw [okS] at h
  obtain ⟨_, h1, h2, h3, h4, h5, h6, h7, h8⟩ := h
  exact ⟨h1, h2, h3, h4, h5, h6, h7, h8⟩
/-- what holds of a list where it holds of the lists in its statements holds of every list -/
theorem body_ind {Q : List St → Prop} (step : ∀ l, (∀ j (h : j < l.length), Q (l[j]).body ∧ Q (l[j]).els) → Q l) : ∀ l, Q l := by
  have hs : ∀ s : St, Q s.body ∧ Q s.els := St.ind fun o nm mx a b bd el h1 h2 => ⟨step bd h1, step el h2⟩
  exact fun l => step l fun j h => hs l[j]

/-! ### parameters, procedures -/

def PmsAt (w : World) (a : Option Addr) (l : List Pm) : Prop := l = [] ∨ ∃ b i, a = some ⟨b, i, none⟩ ∧ ∀ j (h : j < l.length), w.cell? ⟨b, i + j * 2, none⟩ = some (.string l[j].name) ∧ w.cell? ⟨b, i + j * 2 + 1, none⟩ = some (.int .i64 l[j].ty)
theorem PmsAt.below {w w' : World} {a : Option Addr} {l : List Pm} (h : PmsAt w a l) (hb : Below w.heap.size w w') : PmsAt w' a l := by
  rcases h with h | ⟨b, i, ha, h⟩
  · exact Or.inl h
  · exact Or.inr ⟨b, i, ha, fun j hj => ⟨(hb.cell (block_lt_of_cell (h j hj).1)).trans (h j hj).1, (hb.cell (block_lt_of_cell (h j hj).2)).trans (h j hj).2⟩⟩
theorem PmsAt.open {w : World} {a : Option Addr} {l : List Pm} (h : PmsAt w a l) {k : Nat} (hk : k < l.length) : ∃ b i, a = some ⟨b, i, none⟩ ∧ ∀ j (h : j < l.length), w.cell? ⟨b, i + j * 2, none⟩ = some (.string l[j].name) ∧ w.cell? ⟨b, i + j * 2 + 1, none⟩ = some (.int .i64 l[j].ty) :=
  h.resolve_left (fun e => by rw [e] at hk; exact absurd hk (Nat.not_lt_zero _))
def prV (p : Pr) (a1 : Option Addr) (c1 : Nat) (a2 : Option Addr) (c2 : Nat) : Value := .agg #[.string p.name, .slice a1 p.params.length c1, .slice a2 p.body.length c2]
def prO (p : Pr) (a1 : Option Addr) (c1 : Nat) (a2 : Option Addr) (c2 : Nat) : Obj := .cells #[.string p.name, .slice a1 p.params.length c1, .slice a2 p.body.length c2] 25
structure PrIn (w : World) (p : Pr) (a1 a2 : Option Addr) : Prop where
  params : PmsAt w a1 p.params
  body : Bodies w a2 p.body
theorem PrIn.below {w w' : World} {p : Pr} {a1 a2 : Option Addr} (h : PrIn w p a1 a2) (hb : Below w.heap.size w w') : PrIn w' p a1 a2 := ⟨h.params.below hb, h.body.below hb⟩
structure OkP (p : Pr) : Prop where
  name : p.name.size ≤ 1000000000000000
  params : p.params.length ≤ 1000000000000000
  each : ∀ j (h : j < p.params.length), p.params[j].name.size ≤ 1000000000000000
  bodyLen : p.body.length ≤ 1000000000000000
  body : okB p.body
theorem proc_later {w w' : World} {p : Pr} {a1 a2 : Option Addr} {c1 c2 : Nat} (hb : Below (w.alloc (prO p a1 c1 a2 c2)).heap.size (w.alloc (prO p a1 c1 a2 c2)) w') :
    w'.cell? ⟨w.heap.size, 0, none⟩ = some (.string p.name) ∧ w'.cell? ⟨w.heap.size, 1, none⟩ = some (.slice a1 p.params.length c1) ∧ w'.cell? ⟨w.heap.size, 2, none⟩ = some (.slice a2 p.body.length c2) := by
  have hlt : w.heap.size < (w.alloc (prO p a1 c1 a2 c2)).heap.size := by simp
  refine ⟨(hb.cell hlt).trans ?_, (hb.cell hlt).trans ?_, (hb.cell hlt).trans ?_⟩
  all_goals (unfold prO; go_simp)
end Go.Proofs.YtkjefigebdbkaaaDoor.A
