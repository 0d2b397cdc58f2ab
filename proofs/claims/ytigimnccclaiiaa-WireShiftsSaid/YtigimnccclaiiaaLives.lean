/-
  The examples of the chapter, which every law of the layer asks again: the call returns true.
-/
import Derived.Test.YtigimnccclaiiaaTexts
namespace Go.Proofs.Ytigimnccclaiiaa
open Go.RowKit
open Go.Lib (uvarint zigzag)

theorem l_t1 (w : World) : Calls Try.prog 20 #[.string ⟨#[128]⟩, .int .i64 0] w fun e w' => e = .returned (.tuple #[.int .u64 0, .int .i64 0, .int .i64 6]) ∧ w = w' := by
  have h := take_any ⟨#[128]⟩ 0 (by omega) (by omega) (by decide) w
  rw [show tV (ByteArray.mk #[128]).data.toList 0 = 0 by decide, show tN (ByteArray.mk #[128]).data.toList 0 = 0 by decide, show tE (ByteArray.mk #[128]).data.toList 0 = 6 by decide] at h
  exact h
theorem l_t2 (w : World) : Calls Try.prog 20 #[.string ⟨#[128, 0]⟩, .int .i64 0] w fun e w' => e = .returned (.tuple #[.int .u64 0, .int .i64 0, .int .i64 5]) ∧ w = w' := by
  have h := take_any ⟨#[128, 0]⟩ 0 (by omega) (by omega) (by decide) w
  rw [show tV (ByteArray.mk #[128, 0]).data.toList 0 = 0 by decide, show tN (ByteArray.mk #[128, 0]).data.toList 0 = 0 by decide, show tE (ByteArray.mk #[128, 0]).data.toList 0 = 5 by decide] at h
  exact h
theorem l_t3 (w : World) : Calls Try.prog 20 #[.string ⟨#[120, 172, 2, 121]⟩, .int .i64 1] w fun e w' => e = .returned (.tuple #[.int .u64 300, .int .i64 3, .int .i64 0]) ∧ w = w' := by
  have h := take_any ⟨#[120, 172, 2, 121]⟩ 1 (by omega) (by omega) (by decide) w
  rw [show tV (ByteArray.mk #[120, 172, 2, 121]).data.toList 1 = 300 by decide, show tN (ByteArray.mk #[120, 172, 2, 121]).data.toList 1 = 3 by decide, show tE (ByteArray.mk #[120, 172, 2, 121]).data.toList 1 = 0 by decide] at h
  exact h
theorem l_x1 (w : World) : Calls Try.prog 26 #[.string ⟨#[2, 97, 98]⟩, .int .i64 0, .int .i64 1] w fun e w' => e = .returned (.tuple #[.string ⟨#[]⟩, .int .i64 0, .int .i64 2]) ∧ w = w' := by
  have h := takeText_err ⟨#[2, 97, 98]⟩ 0 1 (by omega) (by omega) (by omega) (by omega) (by decide) (by decide) w
  rw [show xE (ByteArray.mk #[2, 97, 98]).data.toList 0 1 = 2 by decide] at h
  exact h
theorem u_300 : uvarint 300 = [172, 2] := by
  rw [Lib.uvarint_big (by decide), Lib.uvarint_small (by decide)]; rfl
theorem l_u (w : World) : Calls Try.prog 12 #[.int .u64 300] w fun e w' => e = .returned (.string ⟨#[172, 2]⟩) ∧ Below w.heap.size w w' := by
  have h := uint_any 300 (by omega) w
  rw [u_300] at h
  exact h
theorem l_i (w : World) : Calls Try.prog 14 #[.int .i64 (-3)] w fun e w' => e = .returned (.string ⟨#[5]⟩) ∧ Below w.heap.size w w' := by
  have h := int_any (-3) (by omega) (by omega) w
  rw [show intText (-3) = [5] by unfold intText; rw [show zigzag (-3) = 5 by decide, Lib.uvarint_small (by decide)]; rfl] at h
  exact h
theorem l_x (w : World) : Calls Try.prog 18 #[.string ⟨#[97, 98]⟩] w fun e w' => e = .returned (.string ⟨#[2, 97, 98]⟩) ∧ Below w.heap.size w w' := by
  have h := text_any ⟨#[97, 98]⟩ (by decide) w
  rw [show text (ByteArray.mk #[97, 98]).data.toList = [2, 97, 98] by unfold text; rw [show (ByteArray.mk #[97, 98]).data.toList.length = 2 from rfl, Lib.uvarint_small (by decide)]; rfl] at h
  exact h
theorem l_b (w : World) : Calls Try.prog 16 #[.bool true] w fun e w' => e = .returned (.string ⟨#[1]⟩) ∧ w = w' := bool_any true w

theorem lives_any (w : World) : Calls Try.prog 11 #[] w fun e w' => e = .returned (.bool true) ∧ Below w.heap.size w w' := by
  go_enter Try.func11, Try.ntmps11
  go_wp2_with fail
  refine (l_t1 _).mono ?_; rintro e w' ⟨rfl, rfl⟩
  go_wp2_with fail
  refine (l_t2 _).mono ?_; rintro e w' ⟨rfl, rfl⟩
  go_wp2_with fail
  refine (l_x1 _).mono ?_; rintro e w' ⟨rfl, rfl⟩
  go_wp2_with fail
  refine (l_t3 _).mono ?_; rintro e w' ⟨rfl, rfl⟩
  go_wp2_with (first
    | (go_at_call 12; refine (l_u _).mono ?_; rintro e w1 ⟨rfl, hb1⟩)
    | (go_at_call 14; refine (l_i _).mono ?_; rintro e w2 ⟨rfl, hb2⟩)
    | (go_at_call 18; refine (l_x _).mono ?_; rintro e w3 ⟨rfl, hb3⟩)
    | (go_at_call 16; refine (l_b _).mono ?_; rintro e w4 ⟨rfl, rfl⟩))
  go_ret
  exact ⟨rfl, below_2 (below_2 hb1 hb2) hb3⟩
end Go.Proofs.Ytigimnccclaiiaa
