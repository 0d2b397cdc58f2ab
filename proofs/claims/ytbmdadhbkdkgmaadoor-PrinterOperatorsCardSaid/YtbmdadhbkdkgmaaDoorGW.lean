/-
  What the reference of layer 8 returns: walkBody, Walk: contracts.
  What the reference of layer 8 returns: Walk: a contract.
  What the reference of layer 8 returns: Nodes: a contract.
  Visits read back; what the reference of layer 8 returns: Depth: a contract.
-/
import Derived.Test.YtbmdadhbkdkgmaaDoorGV
import Derived.Test.YtbmdadhbkdkgmaaDoorGC
import Derived.Laws.OwnMore
namespace Go.Proofs.YtbmdadhbkdkgmaaDoor.A
open Go.RowKit
open L (Str isName prt size_len below_2 below_box ret_bool ret_int)

theorem grown_below {w w' : World} (r : Option Nat) (h : Below w.heap.size w w') : w.grownBy w' r := ⟨h.os, h.tape, h.output, h.size, fun k hk _ => h.block k hk⟩
theorem ownV_below {w w' : World} {B n size : Nat} {e : TypeId} {v : Value} {xs : List Value} (h : w.ownsRow B e size v n xs) (hb : Below w.heap.size w w') : w'.ownsRow B e size v n xs := by
  refine ⟨h.1, ?_⟩
  rcases h.2 with h0 | ⟨g, cap, cur, hv, hB, hg, r⟩
  · exact Or.inl h0
  · exact Or.inr ⟨g, cap, cur, hv, hB, (hb.block g (Array.getElem?_eq_some_iff.1 hg).1).trans hg, r⟩
namespace Cur
variable {w0 W wr : World} {v0 v : Value} {l : List VT} {X : List V}
end Cur
theorem preS_parts (s : St) (d : Nat) : preS s d = .st s d :: (preR s.a ++ preR s.b ++ preB s.body (d + 1) ++ preB s.els (d + 1)) := by
  obtain ⟨o, nm, mx, a, b, bd, el⟩ := s
  rw [preS]; rfl
structure Four (w : World) (e : Ex) (b i : Nat) (a : Option Addr) (c : Nat) : Prop where
  k0 : w.cell? ⟨b, i, none⟩ = some (.int .i64 e.op)
  k1 : w.cell? ⟨b, i + 1, none⟩ = some (.int .i64 e.n)
  k2 : w.cell? ⟨b, i + 2, none⟩ = some (.string e.s)
  k3 : w.cell? ⟨b, i + 3, none⟩ = some (.slice a e.args.length c)
theorem StCells.fourA {w : World} {s : St} {b i : Nat} {a1 a2 a3 a4 : Option Addr} {c1 c2 c3 c4 : Nat} (h : StCells w s b i a1 c1 a2 c2 a3 c3 a4 c4) : Four w s.a b (i + 3) a1 c1 := ⟨h.k3, h.k4, h.k5, h.k6⟩
theorem StCells.fourB {w : World} {s : St} {b i : Nat} {a1 a2 a3 a4 : Option Addr} {c1 c2 c3 c4 : Nat} (h : StCells w s b i a1 c1 a2 c2 a3 c3 a4 c4) : Four w s.b b (i + 7) a2 c2 := ⟨h.k7, h.k8, h.k9, h.k10⟩
end Go.Proofs.YtbmdadhbkdkgmaaDoor.A
namespace Go.Proofs.YtbmdadhbkdkgmaaDoor.A
open Go.RowKit
open L (Str isName prt size_len below_2 below_box ret_bool ret_int)

end Go.Proofs.YtbmdadhbkdkgmaaDoor.A
namespace Go.Proofs.YtbmdadhbkdkgmaaDoor.A
open Go.RowKit
open L (Str isName prt size_len below_2 below_box ret_bool ret_int)

end Go.Proofs.YtbmdadhbkdkgmaaDoor.A
namespace Go.Proofs.YtbmdadhbkdkgmaaDoor.A
open Go.RowKit
open L (Str isName prt size_len below_2 below_box ret_bool ret_int)

theorem vcs_get : ∀ (l : List VT) (j : Nat) (hj : j < l.length) (r : Nat), r < 20 → (vcs l)[j * 20 + r]? = (l[j]).cells[r]?
  | x :: l, 0, _, r, hr => by
    show (List.flatMap VT.cells (x :: l))[_]? = _
    rw [List.flatMap_cons, List.getElem?_append_left (by rw [VT.cells_len]; omega)]
    simp
  | x :: l, j + 1, hj, r, hr => by
    show (List.flatMap VT.cells (x :: l))[_]? = _
    rw [List.flatMap_cons, List.getElem?_append_right (by rw [VT.cells_len]; omega), VT.cells_len, show (j + 1) * 20 + r - 20 = j * 20 + r by omega]
    exact vcs_get l j (by simpa using hj) r hr
theorem foldl_take {l : List Nat} {k : Nat} (h : k < l.length) : (l.take (k + 1)).foldl max 0 = max ((l.take k).foldl max 0) l[k] := by
  rw [List.take_succ_eq_append_getElem h, List.foldl_append]; rfl
end Go.Proofs.YtbmdadhbkdkgmaaDoor.A
