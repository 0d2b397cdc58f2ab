/-
  Division and remainder, walked: the law returns true for all divisors.
-/
import Derived.Test.YthaghhjgfohceaaDoorLives
namespace Go.Proofs.YthaghhjgfohceaaDoor
open Go.RowKit

theorem sum_neg {a b q r : Int} (h : b * q + r = a) : IntKind.u64.wrap (IntKind.u64.wrap (IntKind.u64.wrap b * IntKind.u64.wrap q) + IntKind.u64.wrap r) = IntKind.u64.wrap a := by
  simp only [w_u64]
  rw [← h, Int.add_emod (b * q) r, Int.mul_emod b q]
theorem sum_pos {a b q r : Int} (h : b * q + r = a) (hb : 0 ≤ b ∧ b < 18446744073709551616) (hr : 0 ≤ r ∧ r < 18446744073709551616) : IntKind.u64.wrap (IntKind.u64.wrap (b * IntKind.u64.wrap q) + r) = IntKind.u64.wrap a := by
  have h1 := sum_neg h
  rw [w_u64 b, w_u64 r, Int.emod_eq_of_lt hb.1 hb.2, Int.emod_eq_of_lt hr.1 hr.2] at h1
  exact h1
theorem divides_pos (a b q r : Int) (ha : -9223372036854775808 ≤ a) (ha' : a ≤ 9223372036854775807) (hb : 0 < b) (hb' : b ≤ 9223372036854775807)
    (hq : -9223372036854775808 ≤ q) (hq' : q ≤ 9223372036854775807) (hr : 0 ≤ r) (hr' : r < b) (he : b * q + r = a) (hs : 0 ≤ q ↔ (a = 0 ∨ (a < 0 ↔ b < 0) ∨ q = 0)) (w : World) (htab : Lib.TabIs Tryd.prog w "internal/strconv.uint64pow10" .u64 Lib.pow10Tab)
    (hdiv : ∀ w, Calls Tryd.prog 11 #[.int .i64 a, .int .i64 b] w fun e w' => e = .returned (.tuple #[.int .i64 q, .int .i64 0]) ∧ w = w')
    (hmod : ∀ w, Calls Tryd.prog 12 #[.int .i64 a, .int .i64 b] w fun e w' => e = .returned (.tuple #[.int .i64 r, .int .i64 0]) ∧ w = w') :
    Calls Tryd.prog 3 #[.int .i64 a, .int .i64 b] w fun e w' => e = .returned (.bool true) ∧ Below w.heap.size w w' := by
  have HT := Lib.hid htab
  have HD := Lib.hid hdiv
  have HM := Lib.hid hmod
  have HE := Lib.hid (sum_pos he (by omega) (by omega))
  have HS := Lib.hid hs
  clear htab hdiv hmod he hs
  go_enter Tryd.func3, Tryd.ntmps3
  go_wp2_with (first
    | (go_at_call 11; refine (HD.out _).mono ?_; rintro e w' ⟨rfl, rfl⟩)
    | (go_at_call 12; refine (HM.out _).mono ?_; rintro e w' ⟨rfl, rfl⟩)
    | (go_at_call 13; refine (lives_any _ HT.out).mono ?_; rintro e w' ⟨rfl, hw⟩))
  all_goals first
    | (go_ret; exact ⟨rfl, by assumption⟩)
    | (exfalso; have := HS.out; omega)
    | (exact absurd HE.out (by assumption))
    | (exfalso; have h1 := HS.out; rename_i h; refine h ?_; rw [Bool.eq_iff_iff]; simp; omega)
    | (exfalso; have h1 := HS.out; rename_i h _; refine h ?_; rw [Bool.eq_iff_iff]; simp; omega)
theorem divides_neg (a b q r : Int) (ha : -9223372036854775808 ≤ a) (ha' : a ≤ 9223372036854775807) (hb : b < 0) (hb' : -9223372036854775808 ≤ b)
    (hq : -9223372036854775808 ≤ q) (hq' : q ≤ 9223372036854775807) (hr : b < r) (hr' : r ≤ 0) (he : b * q + r = a) (hs : 0 ≤ q ↔ (a = 0 ∨ (a < 0 ↔ b < 0) ∨ q = 0)) (w : World) (htab : Lib.TabIs Tryd.prog w "internal/strconv.uint64pow10" .u64 Lib.pow10Tab)
    (hdiv : ∀ w, Calls Tryd.prog 11 #[.int .i64 a, .int .i64 b] w fun e w' => e = .returned (.tuple #[.int .i64 q, .int .i64 0]) ∧ w = w')
    (hmod : ∀ w, Calls Tryd.prog 12 #[.int .i64 a, .int .i64 b] w fun e w' => e = .returned (.tuple #[.int .i64 r, .int .i64 0]) ∧ w = w') :
    Calls Tryd.prog 3 #[.int .i64 a, .int .i64 b] w fun e w' => e = .returned (.bool true) ∧ Below w.heap.size w w' := by
  have HT := Lib.hid htab
  have HD := Lib.hid hdiv
  have HM := Lib.hid hmod
  have HE := Lib.hid (sum_neg he)
  have HS := Lib.hid hs
  clear htab hdiv hmod he hs
  go_enter Tryd.func3, Tryd.ntmps3
  go_wp2_with (first
    | (go_at_call 11; refine (HD.out _).mono ?_; rintro e w' ⟨rfl, rfl⟩)
    | (go_at_call 12; refine (HM.out _).mono ?_; rintro e w' ⟨rfl, rfl⟩)
    | (go_at_call 13; refine (lives_any _ HT.out).mono ?_; rintro e w' ⟨rfl, hw⟩))
  all_goals first
    | (go_ret; exact ⟨rfl, by assumption⟩)
    | (exfalso; have := HS.out; omega)
    | (exact absurd HE.out (by assumption))
    | (exfalso; have h1 := HS.out; rename_i h; refine h ?_; rw [Bool.eq_iff_iff]; simp; omega)
    | (exfalso; have h1 := HS.out; rename_i h _; refine h ?_; rw [Bool.eq_iff_iff]; simp; omega)

section
variable (a b : Int) (ha : -9223372036854775808 ≤ a) (ha' : a ≤ 9223372036854775807) (hb : -9223372036854775808 ≤ b) (hb' : b ≤ 9223372036854775807) (w : World) (htab : Lib.TabIs Tryd.prog w "internal/strconv.uint64pow10" .u64 Lib.pow10Tab)
theorem divides_zero (htab : Lib.TabIs Tryd.prog w "internal/strconv.uint64pow10" .u64 Lib.pow10Tab) : Calls Tryd.prog 3 #[.int .i64 a, .int .i64 0] w fun e w' => e = .returned (.bool true) ∧ Below w.heap.size w w' := by
  have HT := Lib.hid htab
  clear htab
  go_enter Tryd.func3, Tryd.ntmps3
  go_wp2_with (first
    | (go_at_call 11; refine (div_zero _ _).mono ?_; rintro e w' ⟨rfl, rfl⟩)
    | (go_at_call 12; refine (mod_zero _ _).mono ?_; rintro e w' ⟨rfl, rfl⟩)
    | (go_at_call 13; refine (lives_any _ HT.out).mono ?_; rintro e w' ⟨rfl, hw⟩))
  go_ret
  exact ⟨rfl, hw⟩
theorem div_least (w : World) : Calls Tryd.prog 11 #[.int .i64 (-9223372036854775808), .int .i64 (-1)] w fun e w' => e = .returned (.tuple #[.int .i64 0, .int .i64 3]) ∧ w = w' := by
  have h := div_neg (-9223372036854775808) (by omega) (by omega) w
  rw [vR_out (by omega), eR_out (by omega)] at h
  exact h
theorem mod_neg (a : Int) (w : World) : Calls Tryd.prog 12 #[.int .i64 a, .int .i64 (-1)] w fun e w' => e = .returned (.tuple #[.int .i64 0, .int .i64 0]) ∧ w = w' := by
  have h := mod_at a (-1) (by omega) (by omega) (by omega) w
  have hr : rF a (-1) = 0 := by
    have := rF_bd a (b := -1) (by omega)
    omega
  rw [hr] at h
  exact h
theorem divides_least (a : Int) (ha : a = -9223372036854775808) (htab : Lib.TabIs Tryd.prog w "internal/strconv.uint64pow10" .u64 Lib.pow10Tab) : Calls Tryd.prog 3 #[.int .i64 a, .int .i64 (-1)] w fun e w' => e = .returned (.bool true) ∧ Below w.heap.size w w' := by
  have HT := Lib.hid htab
  have HD : Hid (∀ w, Calls Tryd.prog 11 #[.int .i64 a, .int .i64 (-1)] w fun e w' => e = .returned (.tuple #[.int .i64 0, .int .i64 3]) ∧ w = w') := by rw [ha]; exact div_least
  have hn : wrap64 (-a) = a := by rw [ha]; unfold wrap64; omega
  have h0 : a < 0 := by omega
  clear htab ha
  go_enter Tryd.func3, Tryd.ntmps3
  go_wp2_with (first
    | (go_at_call 11; refine (HD.out _).mono ?_; rintro e w' ⟨rfl, rfl⟩)
    | (go_at_call 12; refine (mod_neg _ _).mono ?_; rintro e w' ⟨rfl, rfl⟩)
    | (go_at_call 13; refine (lives_any _ HT.out).mono ?_; rintro e w' ⟨rfl, hw⟩))
  go_ret
  exact ⟨ret_bool (bne_iff_ne.2 (by omega)), hw⟩
include ha ha' hb hb' htab
theorem divides_any : Calls Tryd.prog 3 #[.int .i64 a, .int .i64 b] w fun e w' => e = .returned (.bool true) ∧ Below w.heap.size w w' := by
  by_cases h0 : b = 0
  · subst h0
    exact divides_zero a w htab
  · by_cases h1 : b = -1
    · subst h1
      by_cases hm : a = -9223372036854775808
      · exact divides_least w a hm htab
      · refine divides_neg a (-1) (-a) 0 ha ha' (by omega) (by omega) (by omega) (by omega) (by omega) (by omega) (by omega) (by omega) w htab (fun w => ?_) (fun w => mod_neg a w)
        have h := div_neg a (by omega) (by omega) w
        rw [vR_in (by omega), eR_in (by omega)] at h
        exact h
    · have hq := qF_bd ha ha' h0 h1
      have hr := rF_bd a h0
      have hd := fun w => div_at a b ha ha' h0 (beq_eq_false_iff_ne.2 h1) w
      have hm := fun w => mod_at a b hb hb' h0 w
      rcases Int.lt_or_gt_of_ne h0 with hn | hn
      · exact divides_neg a b _ _ ha ha' hn hb hq.1 hq.2 (hr.2 hn).1 (hr.2 hn).2 (qr_eq a b) (qF_sign a h0) w htab hd hm
      · exact divides_pos a b _ _ ha ha' hn hb' hq.1 hq.2 (hr.1 hn).1 (hr.1 hn).2 (qr_eq a b) (qF_sign a h0) w htab hd hm
end
end Go.Proofs.YthaghhjgfohceaaDoor
