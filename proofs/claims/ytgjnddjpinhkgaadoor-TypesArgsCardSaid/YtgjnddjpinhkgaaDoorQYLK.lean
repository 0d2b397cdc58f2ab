/-
  The laws of layer 11: the types of the statements of a procedure that passes the check.
-/
import Derived.Test.YtgjnddjpinhkgaaDoorM19
namespace Go.Proofs.YtgjnddjpinhkgaaDoor.Y
open Go.RowKit
open L (Str isName prt size_len below_2 below_box ret_bool ret_int eql_eq bytes_eq)
open A (Ex St Pm Pr V arity vE vEs absent exV exO exV_mk Bx okE okEs cE cEs PmsAt StrsAt PrIn OkP prV prO names valE ExsAt ExAt StsAt StAt Bodies RowK Own1 Stays okS okB cS cB preS preB preR preE walk VT vcs vs small)
open P (G Kd On off_of)

/-- a row of the walk: its statement (a node's row holds an empty one) -/
structure RowSt (g : Env) (w5 wr : World) (g3 k : Nat) (s : St) (a5 : Option Addr) (c5 : Nat) (a6 : Option Addr) (c6 : Nat) (a7 : Option Addr) (c7 : Nat) (a8 : Option Addr) (c8 : Nat) : Prop where
  e0 : wr.cell? ⟨g3, k * 20 + 1, none⟩ = some (.int .i64 s.op)
  e1 : wr.cell? ⟨g3, k * 20 + 1 + 1, none⟩ = some (.string s.name)
  e2 : wr.cell? ⟨g3, k * 20 + 1 + 2, none⟩ = some (.int .i64 s.mx)
  e3 : wr.cell? ⟨g3, k * 20 + 1 + 3, none⟩ = some (.int .i64 s.a.op)
  e4 : wr.cell? ⟨g3, k * 20 + 1 + 4, none⟩ = some (.int .i64 s.a.n)
  e5 : wr.cell? ⟨g3, k * 20 + 1 + 5, none⟩ = some (.string s.a.s)
  e6 : wr.cell? ⟨g3, k * 20 + 1 + 6, none⟩ = some (.slice a5 s.a.args.length c5)
  e7 : wr.cell? ⟨g3, k * 20 + 1 + 7, none⟩ = some (.int .i64 s.b.op)
  e8 : wr.cell? ⟨g3, k * 20 + 1 + 8, none⟩ = some (.int .i64 s.b.n)
  e9 : wr.cell? ⟨g3, k * 20 + 1 + 9, none⟩ = some (.string s.b.s)
  e10 : wr.cell? ⟨g3, k * 20 + 1 + 10, none⟩ = some (.slice a6 s.b.args.length c6)
  e11 : wr.cell? ⟨g3, k * 20 + 1 + 11, none⟩ = some (.slice a7 s.body.length c7)
  e12 : wr.cell? ⟨g3, k * 20 + 1 + 12, none⟩ = some (.slice a8 s.els.length c8)
  ka : A.Kids w5 a5 s.a.args
  kb : A.Kids w5 a6 s.b.args
  oa : okE s.a ∧ 1 + cE s.a ≤ 1000000
  ob : okE s.b ∧ 1 + cE s.b ≤ 1000000
  nz : s.name.size ≤ 1000000000000000
  lw : LwSt g s
end Go.Proofs.YtgjnddjpinhkgaaDoor.Y
