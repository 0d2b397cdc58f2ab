/-
  The laws of layer 9: PrinterOperators: its regions.
-/
import Derived.Test.YtbmdadhbkdkgmaaDoorPLO
import Derived.Test.YtbmdadhbkdkgmaaDoorPLN
import Derived.Deep.CutRange
namespace Go.Proofs.YtbmdadhbkdkgmaaDoor.P
open Go.RowKit
open L (Str isName prt size_len below_2 below_box ret_bool ret_int ret_string bytes_eq append_list Own8)
open A
/-- a region's operations -/
def findR (n : Nat) : Code → Option (Array Oper)
  | .region i ops _ => match Nat.beq i n with
    | true => some ops
    | false => none
  | .seq a b => match findR n a with
    | some c => some c
    | none => findR n b
  | .block _ c => findR n c
  | .scope c => findR n c
  | .loop c => findR n c
  | .cond _ a b => match findR n a with
    | some c => some c
    | none => findR n b
  | _ => none
noncomputable def opsOf (n : Nat) : Array Oper := ((Tryd.f5.body.bind (findR n)).getD #[])
theorem op_at {k : Nat} (h : k < 8) {w : World} {p q : Nat} (hi : Bx w p #[.int .i64 17, .int .i64 16, .int .i64 19, .int .i64 4, .int .i64 5, .int .i64 6, .int .i64 7, .int .i64 8] 3) (hs : Bx w q #[.string ⟨#[111, 114]⟩, .string ⟨#[97, 110, 100]⟩, .string ⟨#[43, 43]⟩, .string ⟨#[43]⟩, .string ⟨#[45]⟩, .string ⟨#[42]⟩, .string ⟨#[47]⟩, .string ⟨#[37]⟩] 9) : ∃ (o : Int) (s : ByteArray), 4 ≤ o ∧ o ≤ 19 ∧ o ≠ 9 ∧ o ≠ 18 ∧ lv o ≠ 4 ∧ s.data.toList = sg o ∧ s.size ≤ 3 ∧ w.cell? ⟨p, k, none⟩ = some (.int .i64 o) ∧ w.cell? ⟨q, k, none⟩ = some (.string s) := by
  have hk : k = 0 ∨ k = 1 ∨ k = 2 ∨ k = 3 ∨ k = 4 ∨ k = 5 ∨ k = 6 ∨ k = 7 := by omega
  rcases hk with rfl | rfl | rfl | rfl | rfl | rfl | rfl | rfl
  · exact ⟨_, _, by decide, by decide, by decide, by decide, by decide, rfl, by decide, hi.cell 0, hs.cell 0⟩
  · exact ⟨_, _, by decide, by decide, by decide, by decide, by decide, rfl, by decide, hi.cell 1, hs.cell 1⟩
  · exact ⟨_, _, by decide, by decide, by decide, by decide, by decide, rfl, by decide, hi.cell 2, hs.cell 2⟩
  · exact ⟨_, _, by decide, by decide, by decide, by decide, by decide, rfl, by decide, hi.cell 3, hs.cell 3⟩
  · exact ⟨_, _, by decide, by decide, by decide, by decide, by decide, rfl, by decide, hi.cell 4, hs.cell 4⟩
  · exact ⟨_, _, by decide, by decide, by decide, by decide, by decide, rfl, by decide, hi.cell 5, hs.cell 5⟩
  · exact ⟨_, _, by decide, by decide, by decide, by decide, by decide, rfl, by decide, hi.cell 6, hs.cell 6⟩
  · exact ⟨_, _, by decide, by decide, by decide, by decide, by decide, rfl, by decide, hi.cell 7, hs.cell 7⟩
end Go.Proofs.YtbmdadhbkdkgmaaDoor.P
