/-
  What the program's function copiedProc of layer 8 returns: its contract.
  What the program's function Rename of layer 8 returns: its contract.
-/
import Derived.Test.YtnelpgeiioflmaaGreatDoorM08
import Derived.Test.YtnelpgeiioflmaaGreatDoorM11
import Derived.Test.YtnelpgeiioflmaaGreatDoorM10
import Derived.Deep.RegionHeld3
namespace Go.Proofs.YtnelpgeiioflmaaGreatDoor.A
open Go.RowKit
open L (Str isName prt size_len below_2 below_box ret_bool ret_int eql_eq bytes_eq)

theorem info_p : (Tryz.prog.info? 49).map (fun i => (i.zero, i.size, i.bytes)) = some (some (.agg #[.string ⟨#[]⟩, .int .i64 0]), 2, 24) := by kernel_rfl
def kP : RowK Pm where
  f := fun x => [.string x.name, .int .i64 x.ty]
  size := 2
  bytes := 24
  t := 22
  e := 49
  z := .agg #[.string ⟨#[]⟩, .int .i64 0]
  inn := fun _ _ _ => True
  und := Tryz.underlying22
  info := info_p
  len := fun _ => rfl
  one := fun x u hu => by simp at hu; rcases hu with rfl | rfl <;> rfl
  pos := by decide
  zs := rfl
  small := by decide
  next := fun _ _ => trivial
theorem PmsAt.sub {w w' : World} (h : Sub w w') {a : Option Addr} {l : List Pm} (hk : PmsAt w a l) : PmsAt w' a l := by
  rcases hk with hk | ⟨b, i, ha, hk⟩
  · exact Or.inl hk
  · exact Or.inr ⟨b, i, ha, fun j hj => ⟨h _ _ _ (hk j hj).1, h _ _ _ (hk j hj).2⟩⟩
theorem Own1.pms {w : World} {b0 : Nat} {Z : Nat → Prop} {p : Option Addr} {q : Nat} {l : List Pm} (h : Own1 kP w b0 Z (.slice p l.length q) l) : PmsAt (hollow Z w) p l := by
  by_cases h0 : l = []
  · exact Or.inl h0
  · obtain ⟨g, rfl, hz, _⟩ := h.cell (List.length_pos_iff.2 h0)
    refine Or.inr ⟨g, 0, rfl, fun j hj => ?_⟩
    obtain ⟨g2, hg, _, hc⟩ := h.cell hj
    cases hg
    have c0 := hc 0 (by decide)
    have c1 := hc 1 (by decide)
    rw [show j * kP.size + 0 = 0 + j * 2 by show j * 2 + 0 = _; omega] at c0
    rw [show j * kP.size + 1 = 0 + j * 2 + 1 by show j * 2 + 1 = _; omega] at c1
    exact ⟨(hollow_cell Z w _ _ _).2 ⟨hz, c0⟩, (hollow_cell Z w _ _ _).2 ⟨hz, c1⟩⟩
def renP (f t : ByteArray) (q : Pm) : Pm := ⟨swap f t q.name, q.ty⟩
theorem pms_take (f t : ByteArray) {l : List Pm} {k : Nat} (h : k < l.length) : (l.take (k + 1)).map (renP f t) = (l.take k).map (renP f t) ++ [renP f t l[k]] := by
  rw [List.take_succ_eq_append_getElem h, List.map_append]; rfl
end Go.Proofs.YtnelpgeiioflmaaGreatDoor.A
namespace Go.Proofs.YtnelpgeiioflmaaGreatDoor.A
open Go.RowKit
open L (Str isName prt size_len below_2 below_box ret_bool ret_int eql_eq bytes_eq)

def GivesRn (w : World) (r : Pr × Int) (e' : Ending) (w' : World) : Prop := ∃ p1 q1 p2 q2, e' = .returned (.tuple #[prV r.1 p1 q1 p2 q2, .int .i64 r.2]) ∧ PrIn w' r.1 p1 p2 ∧ r.1.params.length ≤ q1 ∧ Below w.heap.size w w'
theorem rename_1 {p : Pr} {f t : ByteArray} (h : valE p ≠ 0) : rename p f t = (noPr, 1) := by unfold rename; rw [if_pos h]
theorem rename_7 {p : Pr} {f t : ByteArray} (h : valE p = 0) (h2 : nam t = false) : rename p f t = (noPr, 7) := by unfold rename; rw [if_neg (fun x => x h), if_pos h2]
theorem rename_9 {p : Pr} {f t : ByteArray} (h : valE p = 0) (h2 : nam t = true) (h3 : (names p).any (fun x => decide (x = f)) = false) : rename p f t = (noPr, 9) := by unfold rename; rw [if_neg (fun x => x h), if_neg (by rw [h2]; decide), if_pos h3]
theorem rename_8 {p : Pr} {f t : ByteArray} (h : valE p = 0) (h2 : nam t = true) (h3 : (names p).any (fun x => decide (x = f)) = true) (h4 : occurs p t = true) : rename p f t = (noPr, 8) := by unfold rename; rw [if_neg (fun x => x h), if_neg (by rw [h2]; decide), if_neg (by rw [h3]; decide), if_pos h4]
theorem rename_0 {p : Pr} {f t : ByteArray} (h : valE p = 0) (h2 : nam t = true) (h3 : (names p).any (fun x => decide (x = f)) = true) (h4 : occurs p t = false) : rename p f t = (ren f t p, 0) := by unfold rename; rw [if_neg (fun x => x h), if_neg (by rw [h2]; decide), if_neg (by rw [h3]; decide), if_neg (by rw [h4]; decide)]
end Go.Proofs.YtnelpgeiioflmaaGreatDoor.A
