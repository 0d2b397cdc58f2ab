/-
  Plain mathematics of layer 7, without the program: words, literals, marks and tokens of a text; texts joined of tokens.
  Plain mathematics of layer 7, without the program: tokens are valid and are restored from their texts; joined tokens; texts joined by a line feed.
-/
import Derived.Test.YtnelpgeiioflmaaGreatDoorSPlain
namespace Go.Proofs.YtnelpgeiioflmaaGreatDoor.L
open Go.Lib (itoa decDigits)

abbrev Str := List UInt8
def letter (c : UInt8) : Bool := decide (97 ≤ c.toNat) && decide (c.toNat ≤ 122)
def digit (c : UInt8) : Bool := decide (48 ≤ c.toNat) && decide (c.toNat ≤ 57)
def part (c : UInt8) : Bool := letter c || digit c || decide (c.toNat = 95)
def prt (c : UInt8) : Bool := decide (32 ≤ c.toNat) && decide (c.toNat ≤ 126)
def keywords : List Str := [[112, 114, 111, 99], [108, 101, 116], [112, 117, 116], [100, 101, 108, 101, 116, 101], [105, 102], [101, 108, 115, 101], [102, 111, 114], [116, 111], [109, 97, 120], [101, 109, 105, 116], [97, 98, 111, 114, 116], [110, 111, 116], [97, 110, 100], [111, 114], [105, 110, 116], [115, 116, 114], [98, 111, 111, 108], [116, 101, 120, 116], [108, 101, 110], [103, 101, 116, 105, 110, 116], [103, 101, 116, 115, 116, 114], [104, 97, 115], [110, 111, 119], [114, 97, 110, 100, 111, 109], [110, 111, 100, 101]]
def isKw (s : Str) : Bool := decide (s ∈ keywords)
def headL (s : Str) : Bool := match s with | [] => false | c :: _ => letter c
def isName (s : Str) : Bool := decide (s.length ≤ 16) && headL s && s.all part && !isKw s
def esc : Str → Str
  | [] => []
  | c :: r => if c.toNat = 34 ∨ c.toNat = 92 then 92 :: c :: esc r else c :: esc r
def quo (s : Str) : Str := 34 :: (esc s ++ [34])
def qt (s : Str) : Str × Int := if 64 < s.length then ([], 2) else if s.all prt then (quo s, 0) else ([], 1)
structure Tok where
  k : Int
  t : Str
  n : Int
  line : Int
  deriving DecidableEq
def skp : Bool → Str → Str
  | _, [] => []
  | false, c :: r => if c.toNat = 35 then skp true r else if c.toNat = 32 ∨ c.toNat = 9 ∨ c.toNat = 10 then skp false r else c :: r
  | true, c :: r => if c.toNat = 10 then skp false r else skp true r
/-! ### lengths -/

/-! ### tkz, step by step -/

end Go.Proofs.YtnelpgeiioflmaaGreatDoor.L
namespace Go.Proofs.YtnelpgeiioflmaaGreatDoor.L
open Go.Lib (itoa decDigits)

def held (t : Tok) : Prop := -9223372036854775808 ≤ t.n ∧ t.n ≤ 9223372036854775807

/-! ### bytes -/

theorem letter_iff {c : UInt8} : letter c = true ↔ 97 ≤ c.toNat ∧ c.toNat ≤ 122 := by unfold letter; simp
theorem digit_iff {c : UInt8} : digit c = true ↔ 48 ≤ c.toNat ∧ c.toNat ≤ 57 := by unfold digit; simp
theorem part_iff {c : UInt8} : part c = true ↔ (97 ≤ c.toNat ∧ c.toNat ≤ 122) ∨ (48 ≤ c.toNat ∧ c.toNat ≤ 57) ∨ c.toNat = 95 := by
  unfold part; simp [letter_iff, digit_iff, or_assoc]
theorem prt_iff {c : UInt8} : prt c = true ↔ 32 ≤ c.toNat ∧ c.toNat ≤ 126 := by unfold prt; simp
theorem esc_len : ∀ s : Str, (esc s).length ≤ 2 * s.length
  | [] => Nat.le_refl _
  | c :: s => by
    have := esc_len s
    rw [esc]
    split <;> simp only [List.length_cons] <;> omega
/-! ### a token's text -/

theorem take_sep {w r : Str} (hw : w.all part = true) (hr : ∀ c z, r = c :: z → part c = false) : (w ++ r).takeWhile part = w ∧ (w ++ r).dropWhile part = r := by
  have h1 : ∀ a ∈ w, part a = true := List.all_eq_true.1 hw
  have h2 : r.takeWhile part = [] ∧ r.dropWhile part = r := by
    cases r with
    | nil => exact ⟨rfl, rfl⟩
    | cons c z =>
      have := hr c z rfl
      rw [List.takeWhile_cons, List.dropWhile_cons, if_neg (by rw [this]; decide), if_neg (by rw [this]; decide)]
      exact ⟨rfl, rfl⟩
  rw [List.takeWhile_append_of_pos h1, List.dropWhile_append_of_pos h1, h2.1, h2.2, List.append_nil]
  exact ⟨rfl, rfl⟩
end Go.Proofs.YtnelpgeiioflmaaGreatDoor.L
