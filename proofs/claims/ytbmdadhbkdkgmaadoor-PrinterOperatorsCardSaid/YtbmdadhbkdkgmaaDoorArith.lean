/-
  What the arithmetic functions of the program and of the reference return, for all 64-bit integers: contracts, one a function.
-/
import Derived.Test.YtbmdadhbkdkgmaaDoorRows
import Derived.Test.YtbmdadhbkdkgmaaDoorPlain
import Derived.WalkKit
import Derived.WalkLawsBesides
import Derived.WalkSpells
import Derived.Lib.Hide
namespace Go.Proofs.YtbmdadhbkdkgmaaDoor
open Go.RowKit

theorem pair_in {n : Int} (h : -9223372036854775808 ≤ n ∧ n ≤ 9223372036854775807) : Ending.returned (.tuple #[.int .i64 n, .int .i64 0]) = Ending.returned (.tuple #[.int .i64 (vR n), .int .i64 (eR n)]) := by
  rw [vR_in h, eR_in h]
theorem pair_out {n : Int} (h : ¬ (-9223372036854775808 ≤ n ∧ n ≤ 9223372036854775807)) : Ending.returned (.tuple #[.int .i64 0, .int .i64 3]) = Ending.returned (.tuple #[.int .i64 (vR n), .int .i64 (eR n)]) := by
  rw [vR_out h, eR_out h]
theorem pair_of {m n : Int} (h : -9223372036854775808 ≤ n ∧ n ≤ 9223372036854775807) (e : m = n) : Ending.returned (.tuple #[.int .i64 m, .int .i64 0]) = Ending.returned (.tuple #[.int .i64 (vR n), .int .i64 (eR n)]) := by
  rw [e]; exact pair_in h

section sums
variable (a b : Int) (ha : -9223372036854775808 ≤ a) (ha' : a ≤ 9223372036854775807) (hb : -9223372036854775808 ≤ b) (hb' : b ≤ 9223372036854775807) (w : World)
include ha ha' hb hb'
end sums
/-! ### division -/

theorem cond_q {a b : Int} (h : (a.tmod b != 0) = true ∧ (!decide (a < 0) == decide (b < 0)) = true) : a.tmod b ≠ 0 ∧ ¬ (a < 0 ↔ b < 0) := by
  simpa using h
theorem cond_q' {a b : Int} (h : (a.tmod b != 0) = false ∨ (!decide (a < 0) == decide (b < 0)) = false) : ¬ (a.tmod b ≠ 0 ∧ ¬ (a < 0 ↔ b < 0)) := by
  rcases h with h | h <;> simp at h <;> simp [h]
theorem w_q {a b : Int} (HT : Hid ((b = 1 → a.tdiv b = a) ∧ (b ≠ 1 → -4611686018427387904 ≤ a.tdiv b ∧ a.tdiv b ≤ 4611686018427387904))) (ha : -9223372036854775808 ≤ a) (ha' : a ≤ 9223372036854775807)
    (h : ¬ (a.tmod b ≠ 0 ∧ ¬ (a < 0 ↔ b < 0))) : wrap64 (a.tdiv b) = qF a b := by
  have := HT.out
  rw [IntWalk.wrap64_in _ (by omega), qF, if_neg h]
theorem w_q' {a b : Int} (HT : Hid ((b = 1 → a.tdiv b = a) ∧ (b ≠ 1 → -4611686018427387904 ≤ a.tdiv b ∧ a.tdiv b ≤ 4611686018427387904))) 
    (h : a.tmod b ≠ 0 ∧ ¬ (a < 0 ↔ b < 0)) : wrap64 (wrap64 (a.tdiv b) - 1) = qF a b := by
  have := HT.out
  have h1 : b ≠ 1 := by rintro rfl; simp at h
  rw [IntWalk.wrap64_in (a.tdiv b) (by omega), IntWalk.wrap64_in _ (by omega), qF, if_pos h]
theorem w_r {a b : Int} (h : ¬ (a.tmod b ≠ 0 ∧ ¬ (a < 0 ↔ b < 0))) : a.tmod b = rF a b := by
  rw [rF, if_neg h]
theorem w_r' {a b : Int} (hb : -9223372036854775808 ≤ b) (hb' : b ≤ 9223372036854775807) (h0 : b ≠ 0) (h : a.tmod b ≠ 0 ∧ ¬ (a < 0 ↔ b < 0)) : wrap64 (a.tmod b + b) = rF a b := by
  have h2 := tmod_abs a h0
  have h3 := tmod_sign h.1
  rw [IntWalk.wrap64_in _ (by omega), rF, if_pos h]
theorem z_r {a b : Int} (h : a.tmod b = 0) : (0 : Int) = rF a b := by
  rw [rF, if_neg (by simp [h]), h]
theorem cond_r {a b : Int} (h0 : ¬ a.tmod b = 0) (h : (a.tmod b != 0) = true ∧ (!decide (a.tmod b < 0) == decide (b < 0)) = true) : a.tmod b ≠ 0 ∧ ¬ (a < 0 ↔ b < 0) := by
  have := tmod_sign h0
  refine ⟨h0, ?_⟩
  have h2 : ¬ (a.tmod b < 0 ↔ b < 0) := by simpa using h.2
  omega
theorem cond_r' {a b : Int} (h0 : ¬ a.tmod b = 0) (h : (a.tmod b != 0) = false ∨ (!decide (a.tmod b < 0) == decide (b < 0)) = false) : ¬ (a.tmod b ≠ 0 ∧ ¬ (a < 0 ↔ b < 0)) := by
  have := tmod_sign h0
  have h2 : (a.tmod b < 0 ↔ b < 0) := by
    rcases h with h | h
    · exact absurd h0 (by simpa using h)
    · simpa using h
  omega
theorem ret2 {a b c d : Int} (h : a = c) (k : b = d) : Ending.returned (.tuple #[.int .i64 a, .int .i64 b]) = Ending.returned (.tuple #[.int .i64 c, .int .i64 d]) := by rw [h, k]

/-! ### products -/

theorem w_mul {a b : Int} (ha : -9223372036854775808 ≤ a) (ha' : a ≤ 9223372036854775807) (hb : -9223372036854775808 ≤ b) (hb' : b ≤ 9223372036854775807) (h0 : b ≠ 0) (h1 : b ≠ -1) :
    (wrap64 ((wrap64 (a * b)).tdiv b) = a) ↔ (-9223372036854775808 ≤ a * b ∧ a * b ≤ 9223372036854775807) := by
  constructor
  · intro h
    obtain ⟨k, hk⟩ : ∃ k : Int, wrap64 (a * b) = a * b + 18446744073709551616 * k := by
      refine ⟨-((a * b + 9223372036854775808) / 18446744073709551616), ?_⟩
      unfold wrap64; omega
    have hp : -9223372036854775808 ≤ wrap64 (a * b) ∧ wrap64 (a * b) ≤ 9223372036854775807 := by unfold wrap64; omega
    have ht := tdiv_bd hp.1 hp.2 h0 h1
    rw [IntWalk.wrap64_in _ (by omega)] at h
    have := mul_lost hb hb' h0 k hk h
    subst this
    omega
  · intro h
    rw [IntWalk.wrap64_in (a * b) h, Int.mul_tdiv_cancel a h0, IntWalk.wrap64_in a ⟨ha, ha'⟩]
theorem w_u64 (n : Int) : IntKind.u64.wrap n = n % 18446744073709551616 := by
  first | exact IntKind.wrap_u64 n | (simp [IntKind.wrap, IntKind.bits, IntKind.signed])
theorem ret_u64 {a b : Int} (h : a = b) : Ending.returned (.int .u64 a) = Ending.returned (.int .u64 b) := by rw [h]
end Go.Proofs.YtbmdadhbkdkgmaaDoor
