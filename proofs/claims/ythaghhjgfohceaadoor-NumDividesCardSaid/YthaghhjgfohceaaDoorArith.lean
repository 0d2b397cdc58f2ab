/-
  What the arithmetic functions of the program and of the reference return, for all 64-bit integers: contracts, one a function.
-/
import Derived.Test.YthaghhjgfohceaaDoorRows
import Derived.Test.YthaghhjgfohceaaDoorPlain
import Derived.WalkKit
import Derived.WalkLawsBesides
import Derived.WalkSpells
import Derived.Lib.Hide
namespace Go.Proofs.YthaghhjgfohceaaDoor
open Go.RowKit

theorem pair_in {n : Int} (h : -9223372036854775808 ≤ n ∧ n ≤ 9223372036854775807) : Ending.returned (.tuple #[.int .i64 n, .int .i64 0]) = Ending.returned (.tuple #[.int .i64 (vR n), .int .i64 (eR n)]) := by
  rw [vR_in h, eR_in h]
theorem pair_out {n : Int} (h : ¬ (-9223372036854775808 ≤ n ∧ n ≤ 9223372036854775807)) : Ending.returned (.tuple #[.int .i64 0, .int .i64 3]) = Ending.returned (.tuple #[.int .i64 (vR n), .int .i64 (eR n)]) := by
  rw [vR_out h, eR_out h]
theorem pair_of {m n : Int} (h : -9223372036854775808 ≤ n ∧ n ≤ 9223372036854775807) (e : m = n) : Ending.returned (.tuple #[.int .i64 m, .int .i64 0]) = Ending.returned (.tuple #[.int .i64 (vR n), .int .i64 (eR n)]) := by
  rw [e]; exact pair_in h

section sums
variable (a b : Int) (ha : -9223372036854775808 ≤ a) (ha' : a ≤ 9223372036854775807) (hb : -9223372036854775808 ≤ b) (hb' : b ≤ 9223372036854775807) (w : World)
include ha ha' hb hb'
theorem add_any : Calls Tryd.prog 14 #[.int .i64 a, .int .i64 b] w fun e w' => e = Ending.returned (.tuple #[.int .i64 (vR (a + b)), .int .i64 (eR (a + b))]) ∧ w = w' := by
  go_enter Tryd.func14, Tryd.ntmps14
  go_wp2
  all_goals
    go_ret2
    refine ⟨?_, rfl⟩
    first | exact pair_in (by omega) | exact pair_out (by omega)
theorem radd_any : Calls Tryd.prog 15 #[.int .i64 a, .int .i64 b] w fun e w' => e = Ending.returned (.tuple #[.int .i64 (vR (a + b)), .int .i64 (eR (a + b))]) ∧ w = w' := by
  go_enter Tryd.func15, Tryd.ntmps15
  go_wp2
  all_goals
    go_ret2
    refine ⟨?_, rfl⟩
    first | exact pair_in (by omega) | exact pair_out (by omega)
theorem sub_any : Calls Tryd.prog 16 #[.int .i64 a, .int .i64 b] w fun e w' => e = Ending.returned (.tuple #[.int .i64 (vR (a - b)), .int .i64 (eR (a - b))]) ∧ w = w' := by
  go_enter Tryd.func16, Tryd.ntmps16
  go_wp2
  all_goals
    go_ret2
    refine ⟨?_, rfl⟩
    first | exact pair_in (by omega) | exact pair_out (by omega)
theorem rsub_any : Calls Tryd.prog 17 #[.int .i64 a, .int .i64 b] w fun e w' => e = Ending.returned (.tuple #[.int .i64 (vR (a - b)), .int .i64 (eR (a - b))]) ∧ w = w' := by
  go_enter Tryd.func17, Tryd.ntmps17
  go_wp2
  all_goals
    go_ret2
    refine ⟨?_, rfl⟩
    first | exact pair_in (by omega) | exact pair_out (by omega)
end sums
theorem neg_any (a : Int) (ha : -9223372036854775808 ≤ a) (ha' : a ≤ 9223372036854775807) (w : World) :
    Calls Tryd.prog 18 #[.int .i64 a] w fun e w' => e = Ending.returned (.tuple #[.int .i64 (vR (-a)), .int .i64 (eR (-a))]) ∧ w = w' := by
  by_cases h : a = -9223372036854775808
  · subst h
    go_enter Tryd.func18, Tryd.ntmps18
    go_wp2
    go_ret2
    exact ⟨pair_out (by omega), rfl⟩
  · have h2 : -9223372036854775808 < a := by omega
    clear h ha
    go_enter Tryd.func18, Tryd.ntmps18
    go_wp2
    go_ret2
    exact ⟨pair_in (by omega), rfl⟩
theorem rneg_any (a : Int) (ha : -9223372036854775808 ≤ a) (ha' : a ≤ 9223372036854775807) (w : World) :
    Calls Tryd.prog 19 #[.int .i64 a] w fun e w' => e = Ending.returned (.tuple #[.int .i64 (vR (-a)), .int .i64 (eR (-a))]) ∧ w = w' := by
  go_enter Tryd.func19, Tryd.ntmps19
  go_wp2_with (go_at_call 17; refine (rsub_any _ _ (by omega) (by omega) (by omega) (by omega) _).mono ?_; rintro e w' ⟨rfl, rfl⟩)
  go_ret2
  exact ⟨rfl, rfl⟩

/-! ### division -/

theorem cond_q {a b : Int} (h : (a.tmod b != 0) = true ∧ (!decide (a < 0) == decide (b < 0)) = true) : a.tmod b ≠ 0 ∧ ¬ (a < 0 ↔ b < 0) := by
  simpa using h
theorem cond_q' {a b : Int} (h : (a.tmod b != 0) = false ∨ (!decide (a < 0) == decide (b < 0)) = false) : ¬ (a.tmod b ≠ 0 ∧ ¬ (a < 0 ↔ b < 0)) := by
  rcases h with h | h <;> simp at h <;> simp [h]
theorem w_q {a b : Int} (HT : Hid ((b = 1 → a.tdiv b = a) ∧ (b ≠ 1 → -4611686018427387904 ≤ a.tdiv b ∧ a.tdiv b ≤ 4611686018427387904))) (ha : -9223372036854775808 ≤ a) (ha' : a ≤ 9223372036854775807)
    (h : ¬ (a.tmod b ≠ 0 ∧ ¬ (a < 0 ↔ b < 0))) : wrap64 (a.tdiv b) = qF a b := by
  have := HT.out
  rw [IntWalk.wrap64_in _ (by omega), qF, if_neg h]
theorem w_q' {a b : Int} (HT : Hid ((b = 1 → a.tdiv b = a) ∧ (b ≠ 1 → -4611686018427387904 ≤ a.tdiv b ∧ a.tdiv b ≤ 4611686018427387904))) 
    (h : a.tmod b ≠ 0 ∧ ¬ (a < 0 ↔ b < 0)) : wrap64 (wrap64 (a.tdiv b) - 1) = qF a b := by
  have := HT.out
  have h1 : b ≠ 1 := by rintro rfl; simp at h
  rw [IntWalk.wrap64_in (a.tdiv b) (by omega), IntWalk.wrap64_in _ (by omega), qF, if_pos h]
theorem w_r {a b : Int} (h : ¬ (a.tmod b ≠ 0 ∧ ¬ (a < 0 ↔ b < 0))) : a.tmod b = rF a b := by
  rw [rF, if_neg h]
theorem w_r' {a b : Int} (hb : -9223372036854775808 ≤ b) (hb' : b ≤ 9223372036854775807) (h0 : b ≠ 0) (h : a.tmod b ≠ 0 ∧ ¬ (a < 0 ↔ b < 0)) : wrap64 (a.tmod b + b) = rF a b := by
  have h2 := tmod_abs a h0
  have h3 := tmod_sign h.1
  rw [IntWalk.wrap64_in _ (by omega), rF, if_pos h]
theorem z_r {a b : Int} (h : a.tmod b = 0) : (0 : Int) = rF a b := by
  rw [rF, if_neg (by simp [h]), h]
theorem cond_r {a b : Int} (h0 : ¬ a.tmod b = 0) (h : (a.tmod b != 0) = true ∧ (!decide (a.tmod b < 0) == decide (b < 0)) = true) : a.tmod b ≠ 0 ∧ ¬ (a < 0 ↔ b < 0) := by
  have := tmod_sign h0
  refine ⟨h0, ?_⟩
  have h2 : ¬ (a.tmod b < 0 ↔ b < 0) := by simpa using h.2
  omega
theorem cond_r' {a b : Int} (h0 : ¬ a.tmod b = 0) (h : (a.tmod b != 0) = false ∨ (!decide (a.tmod b < 0) == decide (b < 0)) = false) : ¬ (a.tmod b ≠ 0 ∧ ¬ (a < 0 ↔ b < 0)) := by
  have := tmod_sign h0
  have h2 : (a.tmod b < 0 ↔ b < 0) := by
    rcases h with h | h
    · exact absurd h0 (by simpa using h)
    · simpa using h
  omega
theorem ret2 {a b c d : Int} (h : a = c) (k : b = d) : Ending.returned (.tuple #[.int .i64 a, .int .i64 b]) = Ending.returned (.tuple #[.int .i64 c, .int .i64 d]) := by rw [h, k]

theorem div_zero (a : Int) (w : World) : Calls Tryd.prog 11 #[.int .i64 a, .int .i64 0] w fun e w' => e = .returned (.tuple #[.int .i64 0, .int .i64 4]) ∧ w = w' := by
  go_enter Tryd.func11, Tryd.ntmps11
  go_wp2
  go_ret2
  exact ⟨rfl, rfl⟩
theorem div_neg (a : Int) (ha : -9223372036854775808 ≤ a) (ha' : a ≤ 9223372036854775807) (w : World) : Calls Tryd.prog 11 #[.int .i64 a, .int .i64 (-1)] w fun e w' => e = .returned (.tuple #[.int .i64 (vR (-a)), .int .i64 (eR (-a))]) ∧ w = w' := by
  go_enter Tryd.func11, Tryd.ntmps11
  go_wp2_with (go_at_call 18; refine (neg_any _ (by omega) (by omega) _).mono ?_; rintro e w' ⟨rfl, rfl⟩)
  go_ret2
  exact ⟨rfl, rfl⟩
theorem div_at (a b : Int) (ha : -9223372036854775808 ≤ a) (ha' : a ≤ 9223372036854775807) (hb0 : b ≠ 0) (h1 : (b == -1) = false) (w : World) :
    Calls Tryd.prog 11 #[.int .i64 a, .int .i64 b] w fun e w' => e = .returned (.tuple #[.int .i64 (qF a b), .int .i64 0]) ∧ w = w' := by
  have h0 : (b == 0) = false := by simpa using hb0
  have hb1 : b ≠ -1 := by simpa using h1
  have HT := Lib.hid (tdiv_bd ha ha' hb0 hb1)
  clear hb1
  go_enter Tryd.func11, Tryd.ntmps11
  go_wp2
  · go_ret2
    exact ⟨ret2 (w_q HT ha ha' (by rename_i h; simp [h])) rfl, rfl⟩
  · go_ret2
    exact ⟨ret2 (w_q' HT (cond_q (by assumption))) rfl, rfl⟩
  · go_ret2
    exact ⟨ret2 (w_q HT ha ha' (cond_q' (by assumption))) rfl, rfl⟩
theorem mod_zero (a : Int) (w : World) : Calls Tryd.prog 12 #[.int .i64 a, .int .i64 0] w fun e w' => e = .returned (.tuple #[.int .i64 0, .int .i64 4]) ∧ w = w' := by
  go_enter Tryd.func12, Tryd.ntmps12
  go_wp2
  go_ret2
  exact ⟨rfl, rfl⟩
theorem mod_at (a b : Int) (hb : -9223372036854775808 ≤ b) (hb' : b ≤ 9223372036854775807) (hb0 : b ≠ 0) (w : World) :
    Calls Tryd.prog 12 #[.int .i64 a, .int .i64 b] w fun e w' => e = .returned (.tuple #[.int .i64 (rF a b), .int .i64 0]) ∧ w = w' := by
  have h0 : (b == 0) = false := by simpa using hb0
  go_enter Tryd.func12, Tryd.ntmps12
  go_wp2
  · go_ret2
    exact ⟨ret2 (z_r (by assumption)) rfl, rfl⟩
  · go_ret2
    exact ⟨ret2 (w_r' hb hb' hb0 (cond_r (by assumption) (by assumption))) rfl, rfl⟩
  · go_ret2
    exact ⟨ret2 (w_r (cond_r' (by assumption) (by assumption))) rfl, rfl⟩
theorem rdiv_zero (a : Int) (w : World) : Calls Tryd.prog 22 #[.int .i64 a, .int .i64 0] w fun e w' => e = .returned (.tuple #[.int .i64 0, .int .i64 4]) ∧ w = w' := by
  go_enter Tryd.func22, Tryd.ntmps22
  go_wp2
  go_ret2
  exact ⟨rfl, rfl⟩
theorem rdiv_neg (a : Int) (ha : -9223372036854775808 ≤ a) (ha' : a ≤ 9223372036854775807) (w : World) : Calls Tryd.prog 22 #[.int .i64 a, .int .i64 (-1)] w fun e w' => e = .returned (.tuple #[.int .i64 (vR (-a)), .int .i64 (eR (-a))]) ∧ w = w' := by
  go_enter Tryd.func22, Tryd.ntmps22
  go_wp2_with (go_at_call 19; refine (rneg_any _ (by omega) (by omega) _).mono ?_; rintro e w' ⟨rfl, rfl⟩)
  go_ret2
  exact ⟨rfl, rfl⟩
theorem rdiv_at (a b : Int) (ha : -9223372036854775808 ≤ a) (ha' : a ≤ 9223372036854775807) (hb0 : b ≠ 0) (h1 : (b == -1) = false) (w : World) :
    Calls Tryd.prog 22 #[.int .i64 a, .int .i64 b] w fun e w' => e = .returned (.tuple #[.int .i64 (qF a b), .int .i64 0]) ∧ w = w' := by
  have h0 : (b == 0) = false := by simpa using hb0
  have hb1 : b ≠ -1 := by simpa using h1
  have HT := Lib.hid (tdiv_bd ha ha' hb0 hb1)
  clear hb1
  go_enter Tryd.func22, Tryd.ntmps22
  go_wp2
  · go_ret2
    exact ⟨ret2 (w_q HT ha ha' (by rename_i h; simp [h])) rfl, rfl⟩
  · go_ret2
    exact ⟨ret2 (w_q' HT (cond_q (by assumption))) rfl, rfl⟩
  · go_ret2
    exact ⟨ret2 (w_q HT ha ha' (cond_q' (by assumption))) rfl, rfl⟩
theorem rmod_zero (a : Int) (w : World) : Calls Tryd.prog 23 #[.int .i64 a, .int .i64 0] w fun e w' => e = .returned (.tuple #[.int .i64 0, .int .i64 4]) ∧ w = w' := by
  go_enter Tryd.func23, Tryd.ntmps23
  go_wp2
  go_ret2
  exact ⟨rfl, rfl⟩
theorem rmod_at (a b : Int) (hb : -9223372036854775808 ≤ b) (hb' : b ≤ 9223372036854775807) (hb0 : b ≠ 0) (w : World) :
    Calls Tryd.prog 23 #[.int .i64 a, .int .i64 b] w fun e w' => e = .returned (.tuple #[.int .i64 (rF a b), .int .i64 0]) ∧ w = w' := by
  have h0 : (b == 0) = false := by simpa using hb0
  by_cases hm : b = -1
  · subst hm
    go_enter Tryd.func23, Tryd.ntmps23
    go_wp2
    go_ret2
    exact ⟨ret2 (z_r (by simp)) rfl, rfl⟩
  · have h1 : (b == -1) = false := by simpa using hm
    clear hm
    go_enter Tryd.func23, Tryd.ntmps23
    go_wp2
    · go_ret2
      exact ⟨ret2 (z_r (by assumption)) rfl, rfl⟩
    · go_ret2
      exact ⟨ret2 (w_r' hb hb' hb0 (cond_r (by assumption) (by assumption))) rfl, rfl⟩
    · go_ret2
      exact ⟨ret2 (w_r (cond_r' (by assumption) (by assumption))) rfl, rfl⟩

/-! ### products -/

theorem w_mul {a b : Int} (ha : -9223372036854775808 ≤ a) (ha' : a ≤ 9223372036854775807) (hb : -9223372036854775808 ≤ b) (hb' : b ≤ 9223372036854775807) (h0 : b ≠ 0) (h1 : b ≠ -1) :
    (wrap64 ((wrap64 (a * b)).tdiv b) = a) ↔ (-9223372036854775808 ≤ a * b ∧ a * b ≤ 9223372036854775807) := by
  constructor
  · intro h
    obtain ⟨k, hk⟩ : ∃ k : Int, wrap64 (a * b) = a * b + 18446744073709551616 * k := by
      refine ⟨-((a * b + 9223372036854775808) / 18446744073709551616), ?_⟩
      unfold wrap64; omega
    have hp : -9223372036854775808 ≤ wrap64 (a * b) ∧ wrap64 (a * b) ≤ 9223372036854775807 := by unfold wrap64; omega
    have ht := tdiv_bd hp.1 hp.2 h0 h1
    rw [IntWalk.wrap64_in _ (by omega)] at h
    have := mul_lost hb hb' h0 k hk h
    subst this
    omega
  · intro h
    rw [IntWalk.wrap64_in (a * b) h, Int.mul_tdiv_cancel a h0, IntWalk.wrap64_in a ⟨ha, ha'⟩]
theorem mul_zero (a : Int) (w : World) : Calls Tryd.prog 20 #[.int .i64 a, .int .i64 0] w fun e w' => e = .returned (.tuple #[.int .i64 0, .int .i64 0]) ∧ w = w' := by
  go_enter Tryd.func20, Tryd.ntmps20
  go_wp2
  go_ret2
  exact ⟨rfl, rfl⟩
theorem mul_neg (a : Int) (ha : -9223372036854775808 ≤ a) (ha' : a ≤ 9223372036854775807) (w : World) : Calls Tryd.prog 20 #[.int .i64 a, .int .i64 (-1)] w fun e w' => e = .returned (.tuple #[.int .i64 (vR (-a)), .int .i64 (eR (-a))]) ∧ w = w' := by
  go_enter Tryd.func20, Tryd.ntmps20
  go_wp2_with (go_at_call 18; refine (neg_any _ (by omega) (by omega) _).mono ?_; rintro e w' ⟨rfl, rfl⟩)
  go_ret2
  exact ⟨rfl, rfl⟩
theorem mul_at (a b : Int) (ha : -9223372036854775808 ≤ a) (ha' : a ≤ 9223372036854775807) (hb : -9223372036854775808 ≤ b) (hb' : b ≤ 9223372036854775807) (hb0 : b ≠ 0) (h1 : (b == -1) = false) (w : World) :
    Calls Tryd.prog 20 #[.int .i64 a, .int .i64 b] w fun e w' => e = .returned (.tuple #[.int .i64 (vR (a * b)), .int .i64 (eR (a * b))]) ∧ w = w' := by
  have h0 : (b == 0) = false := by simpa using hb0
  have hb1 : b ≠ -1 := by simpa using h1
  have HW := Lib.hid (w_mul ha ha' hb hb' hb0 hb1)
  clear hb1
  go_enter Tryd.func20, Tryd.ntmps20
  go_wp2
  · rename_i h
    go_ret2
    exact ⟨pair_out (fun hc => (bne_iff_ne.1 h) (HW.out.2 hc)), rfl⟩
  · rename_i h
    go_ret2
    have hc := HW.out.1 (by simpa using h)
    exact ⟨pair_of hc (IntWalk.wrap64_in _ hc), rfl⟩
theorem mul_any (a b : Int) (ha : -9223372036854775808 ≤ a) (ha' : a ≤ 9223372036854775807) (hb : -9223372036854775808 ≤ b) (hb' : b ≤ 9223372036854775807) (w : World) :
    Calls Tryd.prog 20 #[.int .i64 a, .int .i64 b] w fun e w' => e = .returned (.tuple #[.int .i64 (vR (a * b)), .int .i64 (eR (a * b))]) ∧ w = w' := by
  by_cases h0 : b = 0
  · subst h0
    rw [Int.mul_zero]
    exact mul_zero a w
  · by_cases h1 : b = -1
    · subst h1
      rw [show a * -1 = -a by omega]
      exact mul_neg a ha ha' w
    · exact mul_at a b ha ha' hb hb' h0 (by simpa using h1) w

theorem w_u64 (n : Int) : IntKind.u64.wrap n = n % 18446744073709551616 := by
  first | exact IntKind.wrap_u64 n | (simp [IntKind.wrap, IntKind.bits, IntKind.signed])
theorem ret_u64 {a b : Int} (h : a = b) : Ending.returned (.int .u64 a) = Ending.returned (.int .u64 b) := by rw [h]
theorem size_any (a : Int) (ha : -9223372036854775808 ≤ a) (ha' : a ≤ 9223372036854775807) (w : World) :
    Calls Tryd.prog 28 #[.int .i64 a] w fun e w' => e = .returned (.int .u64 a.natAbs) ∧ w = w' := by
  go_enter Tryd.func28, Tryd.ntmps28
  go_wp2
  · go_ret
    exact ⟨ret_u64 (by rw [w_u64, w_u64]; omega), rfl⟩
  · go_ret
    exact ⟨ret_u64 (by omega), rfl⟩
theorem rmul_zero (a b : Int) (h : a = 0 ∨ b = 0) (w : World) :
    Calls Tryd.prog 21 #[.int .i64 a, .int .i64 b] w fun e w' => e = .returned (.tuple #[.int .i64 0, .int .i64 0]) ∧ w = w' := by
  by_cases ha : a = 0
  · subst ha
    clear h
    go_enter Tryd.func21, Tryd.ntmps21
    go_wp2
    go_ret2
    exact ⟨rfl, rfl⟩
  · have hb : b = 0 := by omega
    subst hb
    clear h
    have h0 : (a == 0) = false := by simpa using ha
    go_enter Tryd.func21, Tryd.ntmps21
    go_wp2
    go_ret2
    exact ⟨rfl, rfl⟩
theorem rmul_at (a b : Int) (ha : -9223372036854775808 ≤ a) (ha' : a ≤ 9223372036854775807) (hb : -9223372036854775808 ≤ b) (hb' : b ≤ 9223372036854775807) (ha0 : a ≠ 0) (hb0 : b ≠ 0) (w : World) :
    Calls Tryd.prog 21 #[.int .i64 a, .int .i64 b] w fun e w' => e = .returned (.tuple #[.int .i64 (vR (a * b)), .int .i64 (eR (a * b))]) ∧ w = w' := by
  have h0 : (a == 0) = false := by simpa using ha0
  have h1 : (b == 0) = false := by simpa using hb0
  go_enter Tryd.func21, Tryd.ntmps21
  go_wp2_with (go_at_call 28; refine (size_any _ (by omega) (by omega) _).mono ?_; rintro e w' ⟨rfl, rfl⟩)
  · have hs : (!decide (a < 0) == decide (b < 0)) = true := by assumption
    have hd := mul_neg_of_diff (a := a) (b := b) (by simpa using hs)
    have hn := mt (size_mul (a := a) 9223372036854775808 (by omega) hb0).2 (by omega)
    go_ret2
    exact ⟨pair_out (by omega), rfl⟩
  · have hs : (!decide (a < 0) == decide (b < 0)) = true := by assumption
    have hd := mul_neg_of_diff (a := a) (b := b) (by simpa using hs)
    have hn := (size_mul (a := a) 9223372036854775808 (by omega) hb0).1 (by assumption)
    go_ret2
    have hc : -9223372036854775808 ≤ a * b ∧ a * b ≤ 9223372036854775807 := by omega
    exact ⟨pair_of hc (IntWalk.wrap64_in _ hc), rfl⟩
  · have hs : (!decide (a < 0) == decide (b < 0)) = false := by assumption
    have hd := mul_pos_of_same (a := a) (b := b) (by simpa using hs)
    have hn := mt (size_mul (a := a) 9223372036854775807 (by omega) hb0).2 (by omega)
    go_ret2
    exact ⟨pair_out (by omega), rfl⟩
  · have hs : (!decide (a < 0) == decide (b < 0)) = false := by assumption
    have hd := mul_pos_of_same (a := a) (b := b) (by simpa using hs)
    have hn := (size_mul (a := a) 9223372036854775807 (by omega) hb0).1 (by assumption)
    go_ret2
    have hc : -9223372036854775808 ≤ a * b ∧ a * b ≤ 9223372036854775807 := by omega
    exact ⟨pair_of hc (IntWalk.wrap64_in _ hc), rfl⟩
theorem rmul_any (a b : Int) (ha : -9223372036854775808 ≤ a) (ha' : a ≤ 9223372036854775807) (hb : -9223372036854775808 ≤ b) (hb' : b ≤ 9223372036854775807) (w : World) :
    Calls Tryd.prog 21 #[.int .i64 a, .int .i64 b] w fun e w' => e = .returned (.tuple #[.int .i64 (vR (a * b)), .int .i64 (eR (a * b))]) ∧ w = w' := by
  by_cases h : a = 0 ∨ b = 0
  · have h2 : a * b = 0 := by rcases h with h | h <;> simp [h]
    rw [h2]
    exact rmul_zero a b h w
  · exact rmul_at a b ha ha' hb hb' (fun h1 => h (Or.inl h1)) (fun h1 => h (Or.inr h1)) w
end Go.Proofs.YthaghhjgfohceaaDoor
