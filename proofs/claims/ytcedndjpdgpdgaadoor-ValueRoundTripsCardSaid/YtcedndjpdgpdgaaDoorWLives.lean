/-
  The examples of the chapter, which every law of the layer asks again: the call returns true.
-/
import Derived.Test.YtcedndjpdgpdgaaDoorWTexts
namespace Go.Proofs.YtcedndjpdgpdgaaDoor.W
open Go.RowKit
open Go.Lib (uvarint zigzag)

theorem l_t1 (w : World) : Calls Tryd.prog 51 #[.string ⟨#[128]⟩, .int .i64 0] w fun e w' => e = .returned (.tuple #[.int .u64 0, .int .i64 0, .int .i64 6]) ∧ w = w' := by
  have h := take_any ⟨#[128]⟩ 0 (by omega) (by omega) (by decide) w
  rw [show tV (ByteArray.mk #[128]).data.toList 0 = 0 by decide, show tN (ByteArray.mk #[128]).data.toList 0 = 0 by decide, show tE (ByteArray.mk #[128]).data.toList 0 = 6 by decide] at h
  exact h
theorem l_t2 (w : World) : Calls Tryd.prog 51 #[.string ⟨#[128, 0]⟩, .int .i64 0] w fun e w' => e = .returned (.tuple #[.int .u64 0, .int .i64 0, .int .i64 5]) ∧ w = w' := by
  have h := take_any ⟨#[128, 0]⟩ 0 (by omega) (by omega) (by decide) w
  rw [show tV (ByteArray.mk #[128, 0]).data.toList 0 = 0 by decide, show tN (ByteArray.mk #[128, 0]).data.toList 0 = 0 by decide, show tE (ByteArray.mk #[128, 0]).data.toList 0 = 5 by decide] at h
  exact h
theorem l_t3 (w : World) : Calls Tryd.prog 51 #[.string ⟨#[120, 172, 2, 121]⟩, .int .i64 1] w fun e w' => e = .returned (.tuple #[.int .u64 300, .int .i64 3, .int .i64 0]) ∧ w = w' := by
  have h := take_any ⟨#[120, 172, 2, 121]⟩ 1 (by omega) (by omega) (by decide) w
  rw [show tV (ByteArray.mk #[120, 172, 2, 121]).data.toList 1 = 300 by decide, show tN (ByteArray.mk #[120, 172, 2, 121]).data.toList 1 = 3 by decide, show tE (ByteArray.mk #[120, 172, 2, 121]).data.toList 1 = 0 by decide] at h
  exact h
theorem l_x1 (w : World) : Calls Tryd.prog 75 #[.string ⟨#[2, 97, 98]⟩, .int .i64 0, .int .i64 1] w fun e w' => e = .returned (.tuple #[.string ⟨#[]⟩, .int .i64 0, .int .i64 2]) ∧ w = w' := by
  have h := takeText_err ⟨#[2, 97, 98]⟩ 0 1 (by omega) (by omega) (by omega) (by omega) (by decide) (by decide) w
  rw [show xE (ByteArray.mk #[2, 97, 98]).data.toList 0 1 = 2 by decide] at h
  exact h
theorem u_300 : uvarint 300 = [172, 2] := by
  rw [Lib.uvarint_big (by decide), Lib.uvarint_small (by decide)]; rfl
theorem l_u (w : World) : Calls Tryd.prog 45 #[.int .u64 300] w fun e w' => e = .returned (.string ⟨#[172, 2]⟩) ∧ Below w.heap.size w w' := by
  have h := uint_any 300 (by omega) w
  rw [u_300] at h
  exact h
theorem l_i (w : World) : Calls Tryd.prog 46 #[.int .i64 (-3)] w fun e w' => e = .returned (.string ⟨#[5]⟩) ∧ Below w.heap.size w w' := by
  have h := int_any (-3) (by omega) (by omega) w
  rw [show intText (-3) = [5] by unfold intText; rw [show zigzag (-3) = 5 by decide, Lib.uvarint_small (by decide)]; rfl] at h
  exact h
theorem l_x (w : World) : Calls Tryd.prog 47 #[.string ⟨#[97, 98]⟩] w fun e w' => e = .returned (.string ⟨#[2, 97, 98]⟩) ∧ Below w.heap.size w w' := by
  have h := text_any ⟨#[97, 98]⟩ (by decide) w
  rw [show text (ByteArray.mk #[97, 98]).data.toList = [2, 97, 98] by unfold text; rw [show (ByteArray.mk #[97, 98]).data.toList.length = 2 from rfl, Lib.uvarint_small (by decide)]; rfl] at h
  exact h
end Go.Proofs.YtcedndjpdgpdgaaDoor.W
