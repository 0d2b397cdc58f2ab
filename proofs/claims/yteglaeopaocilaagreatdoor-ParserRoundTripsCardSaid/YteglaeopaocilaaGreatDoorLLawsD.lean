/-
  Laws of layer 7, walked over whatever the program's own functions return: LexerStable, from its core.
-/
import Derived.Test.YteglaeopaocilaaGreatDoorM09
namespace Go.Proofs.YteglaeopaocilaaGreatDoor.L
open Go.RowKit

/-- what the tokens of a text are -/
structure GoodT (xs : List T) (m : Nat) : Prop where
  len : xs.length ≤ m
  val : ∀ j (h : j < xs.length), valid xs[j].tok = true ∧ 1 ≤ xs[j].line ∧ xs[j].t.size ≤ 130
  hi : ∀ j (h : j < xs.length), xs[j].line ≤ 1 + (m : Int)
  up : ∀ j (h : j + 1 < xs.length), xs[j].line ≤ xs[j + 1].line
  all : (toks xs).all valid = true
  num : ∀ j (h : j < xs.length), -9223372036854775808 ≤ xs[j].n ∧ xs[j].n ≤ 9223372036854775807
  jl : (jn (toks xs)).length ≤ 2 * m
theorem tz_fine {s : ByteArray} {l : List Tok} {x : Int} (h : tz s.data.toList = (l, x, 0)) : x = 0 := by
  unfold tz at h
  split at h
  · exact absurd (show (2 : Int) = 0 from congrArg (fun r : Res => r.2.2) h) (by decide)
  · have hf := (tkz_form _ (nf s.data.toList) s.data.toList (Nat.le_refl _)).1
    rw [h] at hf
    exact hf rfl
end Go.Proofs.YteglaeopaocilaaGreatDoor.L
