/-
  Plain mathematics of layer 7, without the program: tokens are valid and are restored from their texts; joined tokens; texts joined by a line feed.
-/
import Derived.Test.YtkjefigebdbkaaaDoorTLPlain
namespace Go.Proofs.YtkjefigebdbkaaaDoor.L
open Go.Lib (itoa decDigits)

/-- the text of a token -/
def txt (t : Tok) : Str := if t.k = 3 then itoa t.n else if t.k = 4 then quo t.t else t.t
def valid (t : Tok) : Bool :=
  if t.k = 1 then isName t.t && decide (t.n = 0) else if t.k = 2 then isKw t.t && decide (t.n = 0) else if t.k = 3 then decide (t.t = []) && decide (0 ≤ t.n)
  else if t.k = 4 then decide (t.t.length ≤ 64) && t.t.all prt && decide (t.n = 0) else if t.k = 5 then isMark t.t && decide (t.n = 0) else false
def jn : List Tok → Str
  | [] => []
  | [t] => txt t
  | t :: u :: r => txt t ++ 32 :: jn (u :: r)
def held (t : Tok) : Prop := -9223372036854775808 ≤ t.n ∧ t.n ≤ 9223372036854775807

/-! ### bytes -/

theorem letter_iff {c : UInt8} : letter c = true ↔ 97 ≤ c.toNat ∧ c.toNat ≤ 122 := by unfold letter; simp
theorem digit_iff {c : UInt8} : digit c = true ↔ 48 ≤ c.toNat ∧ c.toNat ≤ 57 := by unfold digit; simp
theorem part_iff {c : UInt8} : part c = true ↔ (97 ≤ c.toNat ∧ c.toNat ≤ 122) ∨ (48 ≤ c.toNat ∧ c.toNat ≤ 57) ∨ c.toNat = 95 := by
  unfold part; simp [letter_iff, digit_iff, or_assoc]
theorem prt_iff {c : UInt8} : prt c = true ↔ 32 ≤ c.toNat ∧ c.toNat ≤ 126 := by unfold prt; simp
theorem esc_len : ∀ s : Str, (esc s).length ≤ 2 * s.length
  | [] => Nat.le_refl _
  | c :: s => by
    have := esc_len s
    rw [esc]
    split <;> simp only [List.length_cons] <;> omega
/-! ### a token's text -/

theorem take_sep {w r : Str} (hw : w.all part = true) (hr : ∀ c z, r = c :: z → part c = false) : (w ++ r).takeWhile part = w ∧ (w ++ r).dropWhile part = r := by
  have h1 : ∀ a ∈ w, part a = true := List.all_eq_true.1 hw
  have h2 : r.takeWhile part = [] ∧ r.dropWhile part = r := by
    cases r with
    | nil => exact ⟨rfl, rfl⟩
    | cons c z =>
      have := hr c z rfl
      rw [List.takeWhile_cons, List.dropWhile_cons, if_neg (by rw [this]; decide), if_neg (by rw [this]; decide)]
      exact ⟨rfl, rfl⟩
  rw [List.takeWhile_append_of_pos h1, List.dropWhile_append_of_pos h1, h2.1, h2.2, List.append_nil]
  exact ⟨rfl, rfl⟩
end Go.Proofs.YtkjefigebdbkaaaDoor.L
