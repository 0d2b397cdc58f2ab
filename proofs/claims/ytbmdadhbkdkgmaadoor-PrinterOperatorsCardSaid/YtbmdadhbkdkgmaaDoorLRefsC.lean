/-
  What the reference of layer 7 returns: literal, Word: contracts, one a function.
-/
import Derived.Test.YtbmdadhbkdkgmaaDoorLRefsB
namespace Go.Proofs.YtbmdadhbkdkgmaaDoor.L
open Go.RowKit

/-- a literal's rest read: the text, where it ends, the error -/
def GivesX (e : Ending) (s : ByteArray) (r : Str × Str × Int) : Prop :=
  ∃ E : Int, e = .returned (.tuple #[.string ⟨r.1.toArray⟩, .int .i64 E, .int .i64 r.2.2]) ∧ (r.2.2 = 0 → E = ((s.size - r.2.1.length : Nat) : Int))
theorem GivesX.err {e : Ending} {s : ByteArray} {r : Str × Str × Int} {x : Int} {E : Int} (h : r = ([], [], x)) (hx : x ≠ 0) (he : e = .returned (.tuple #[.string ⟨#[]⟩, .int .i64 E, .int .i64 x])) : GivesX e s r := by
  subst h; exact ⟨E, he, fun h => absurd h hx⟩
theorem GivesX.ok {e : Ending} {s T : ByteArray} {r : Str × Str × Int} {k : Nat} (h : r = (T.data.toList, s.data.toList.drop k, 0)) (hk : k ≤ s.size) (he : e = .returned (.tuple #[.string T, .int .i64 (k : Int), .int .i64 0])) : GivesX e s r := by
  subst h
  refine ⟨k, he, fun _ => ?_⟩
  show (k : Int) = ((s.size - (s.data.toList.drop k).length : Nat) : Int)
  rw [List.length_drop, ← size_len]
  omega
end Go.Proofs.YtbmdadhbkdkgmaaDoor.L
