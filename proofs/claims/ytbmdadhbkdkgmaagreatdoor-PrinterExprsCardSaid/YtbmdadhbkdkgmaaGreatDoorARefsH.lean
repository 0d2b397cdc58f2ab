/-
  What the reference of layer 8 returns: EqualBody, Equal: contracts.
-/
import Derived.Test.YtbmdadhbkdkgmaaGreatDoorGC
namespace Go.Proofs.YtbmdadhbkdkgmaaGreatDoor.A
open Go.RowKit
open L (Str isName prt size_len below_2 below_box below_drew ret_bool ret_int eql_eq bytes_eq)

/-- a statement's box -/
def stO (s : St) (a1 : Option Addr) (c1 : Nat) (a2 : Option Addr) (c2 : Nat) (a3 : Option Addr) (c3 : Nat) (a4 : Option Addr) (c4 : Nat) : Obj :=
  .cells #[.int .i64 s.op, .string s.name, .int .i64 s.mx, .int .i64 s.a.op, .int .i64 s.a.n, .string s.a.s, .slice a1 s.a.args.length c1, .int .i64 s.b.op, .int .i64 s.b.n, .string s.b.s, .slice a2 s.b.args.length c2, .slice a3 s.body.length c3, .slice a4 s.els.length c4] 51
theorem stO_cells (w : World) (s : St) (a1 : Option Addr) (c1 : Nat) (a2 : Option Addr) (c2 : Nat) (a3 : Option Addr) (c3 : Nat) (a4 : Option Addr) (c4 : Nat) : StCells (w.alloc (stO s a1 c1 a2 c2 a3 c3 a4 c4)) s w.heap.size 0 a1 c1 a2 c2 a3 c3 a4 c4 := by
  unfold stO
  exact ⟨by go_simp, by go_simp, by go_simp, by go_simp, by go_simp, by go_simp, by go_simp, by go_simp, by go_simp, by go_simp, by go_simp, by go_simp, by go_simp⟩
/-- a world forgotten but for what is known of it -/
theorem then_world {K : Act → World → Prop} {Q : Exit → Act → World → Prop} {x : Exit} {a : Act} {w : World} (R : World → Prop) (hR : R w) (h : ∀ w', R w' → Exit.then K Q x a w') : Exit.then K Q x a w := h w hR
def Two (wr : World) (s t : St) (X Y : Nat) (a1 : Option Addr) (c1 : Nat) (a2 : Option Addr) (c2 : Nat) (a3 : Option Addr) (c3 : Nat) (a4 : Option Addr) (c4 : Nat) (e1 : Option Addr) (g1 : Nat) (e2 : Option Addr) (g2 : Nat) (e3 : Option Addr) (g3 : Nat) (e4 : Option Addr) (g4 : Nat) (w6 : World) : Prop :=
  StCells w6 s X 0 a1 c1 a2 c2 a3 c3 a4 c4 ∧ StCells w6 t Y 0 e1 g1 e2 g2 e3 g3 e4 g4 ∧ Below wr.heap.size wr w6
theorem box2A (wr : World) (s t : St) (a1 : Option Addr) (c1 : Nat) (a2 : Option Addr) (c2 : Nat) (a3 : Option Addr) (c3 : Nat) (a4 : Option Addr) (c4 : Nat) (e1 : Option Addr) (g1 : Nat) (e2 : Option Addr) (g2 : Nat) (e3 : Option Addr) (g3 : Nat) (e4 : Option Addr) (g4 : Nat) :
    Two wr s t wr.heap.size (wr.heap.size + 1) a1 c1 a2 c2 a3 c3 a4 c4 e1 g1 e2 g2 e3 g3 e4 g4 ((wr.alloc (stO s a1 c1 a2 c2 a3 c3 a4 c4)).alloc (stO t e1 g1 e2 g2 e3 g3 e4 g4)).drew := by
  have h1 := stO_cells wr s a1 c1 a2 c2 a3 c3 a4 c4
  have h2 := stO_cells (wr.alloc (stO s a1 c1 a2 c2 a3 c3 a4 c4)) t e1 g1 e2 g2 e3 g3 e4 g4
  have hsz : (wr.alloc (stO s a1 c1 a2 c2 a3 c3 a4 c4)).heap.size = wr.heap.size + 1 := by simp
  rw [hsz] at h2
  exact ⟨(h1.below (below_box _ _)).below (below_drew _), h2.below (below_drew _), below_2 (below_2 (below_box _ _) (below_box _ _)) (below_drew _)⟩
theorem box2B (wr : World) (s t : St) (a1 : Option Addr) (c1 : Nat) (a2 : Option Addr) (c2 : Nat) (a3 : Option Addr) (c3 : Nat) (a4 : Option Addr) (c4 : Nat) (e1 : Option Addr) (g1 : Nat) (e2 : Option Addr) (g2 : Nat) (e3 : Option Addr) (g3 : Nat) (e4 : Option Addr) (g4 : Nat) :
    Two wr s t (wr.heap.size + 1) wr.heap.size a1 c1 a2 c2 a3 c3 a4 c4 e1 g1 e2 g2 e3 g3 e4 g4 ((wr.alloc (stO t e1 g1 e2 g2 e3 g3 e4 g4)).alloc (stO s a1 c1 a2 c2 a3 c3 a4 c4)).drew := by
  obtain ⟨h1, h2, h3⟩ := box2A wr t s e1 g1 e2 g2 e3 g3 e4 g4 a1 c1 a2 c2 a3 c3 a4 c4
  exact ⟨h2, h1, h3⟩
theorem eqB_len {l l2 : List St} (h : ¬ l.length = l2.length) : eqB l l2 = false := by
  cases he : eqB l l2
  · rfl
  · rw [(eqB_iff l l2).1 he] at h; exact absurd rfl h
theorem eqS_parts (s t : St) : eqS s t = (decide (s.op = t.op) && decide (s.name = t.name) && decide (s.mx = t.mx) && eqE s.a t.a && eqE s.b t.b && eqB s.body t.body && eqB s.els t.els) := by
  obtain ⟨o, nm, mx, a, b, bd, el⟩ := s
  obtain ⟨o2, nm2, mx2, a2, b2, bd2, el2⟩ := t
  rw [eqS]; rfl
end Go.Proofs.YtbmdadhbkdkgmaaGreatDoor.A
