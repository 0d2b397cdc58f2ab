/-
  What the program's functions of layer 8 return: equalExprs, slices.EqualFunc of expressions: contracts.
  What the program's functions of layer 8 return: equalStmts, slices.EqualFunc of statements: contracts.
-/
import Derived.Test.YtbmdadhbkdkgmaaDoorGE
import Derived.Test.YtbmdadhbkdkgmaaDoorARefsH
import Derived.Deep.Cut
namespace Go.Proofs.YtbmdadhbkdkgmaaDoor.A
open Go.RowKit
open L (Str isName prt size_len below_2 below_box ret_bool ret_int eql_eq bytes_eq)

end Go.Proofs.YtbmdadhbkdkgmaaDoor.A
namespace Go.Proofs.YtbmdadhbkdkgmaaDoor.A
open Go.RowKit
open L (Str isName prt size_len below_2 below_box ret_bool ret_int eql_eq bytes_eq)

/-- a statement as a value: its cells -/
def stC (s : St) (a1 : Option Addr) (c1 : Nat) (a2 : Option Addr) (c2 : Nat) (a3 : Option Addr) (c3 : Nat) (a4 : Option Addr) (c4 : Nat) : Value :=
  .agg #[.int .i64 s.op, .string s.name, .int .i64 s.mx, .int .i64 s.a.op, .int .i64 s.a.n, .string s.a.s, .slice a1 s.a.args.length c1, .int .i64 s.b.op, .int .i64 s.b.n, .string s.b.s, .slice a2 s.b.args.length c2, .slice a3 s.body.length c3, .slice a4 s.els.length c4]
end Go.Proofs.YtbmdadhbkdkgmaaDoor.A
