/-
  The examples of the chapter, which every law of the layer asks again: the call returns true.
-/
import Derived.Test.YthaghhjgfohceaaDoorFormat
namespace Go.Proofs.YthaghhjgfohceaaDoor
open Go.RowKit

theorem l_add (w : World) : Calls Tryd.prog 14 #[.int .i64 2, .int .i64 3] w fun e w' => e = .returned (.tuple #[.int .i64 5, .int .i64 0]) ∧ w = w' :=
  (add_any 2 3 (by omega) (by omega) (by omega) (by omega) w)
theorem l_div (w : World) : Calls Tryd.prog 11 #[.int .i64 (-7), .int .i64 2] w fun e w' => e = .returned (.tuple #[.int .i64 (-4), .int .i64 0]) ∧ w = w' :=
  (show qF (-7) 2 = -4 by decide) ▸ div_at (-7) 2 (by omega) (by omega) (by omega) (by decide) w
theorem l_mod (w : World) : Calls Tryd.prog 12 #[.int .i64 (-7), .int .i64 2] w fun e w' => e = .returned (.tuple #[.int .i64 1, .int .i64 0]) ∧ w = w' :=
  (show rF (-7) 2 = 1 by decide) ▸ mod_at (-7) 2 (by omega) (by omega) (by omega) w
theorem l_p1 (w : World) : Calls Tryd.prog 26 #[.string ⟨#[45, 49, 50]⟩] w fun e w' => e = .returned (.tuple #[.int .i64 (-12), .int .i64 0]) ∧ w = w' := by
  have h := parse_any ⟨#[45, 49, 50]⟩ w (by decide)
  rw [show pV (ByteArray.mk #[45, 49, 50]).data.toList = -12 by decide, show pE (ByteArray.mk #[45, 49, 50]).data.toList = 0 by decide] at h
  exact h
theorem l_p2 (w : World) : Calls Tryd.prog 26 #[.string ⟨#[57, 50, 50, 51, 51, 55, 50, 48, 51, 54, 56, 53, 52, 55, 55, 53, 56, 48, 56]⟩] w fun e w' => e = .returned (.tuple #[.int .i64 0, .int .i64 3]) ∧ w = w' := by
  have h := parse_any ⟨#[57, 50, 50, 51, 51, 55, 50, 48, 51, 54, 56, 53, 52, 55, 55, 53, 56, 48, 56]⟩ w (by decide)
  rw [show pV (ByteArray.mk #[57, 50, 50, 51, 51, 55, 50, 48, 51, 54, 56, 53, 52, 55, 55, 53, 56, 48, 56]).data.toList = 0 by decide, show pE (ByteArray.mk #[57, 50, 50, 51, 51, 55, 50, 48, 51, 54, 56, 53, 52, 55, 55, 53, 56, 48, 56]).data.toList = 3 by decide] at h
  exact h
theorem l_form (w : World) (htab : Lib.TabIs Tryd.prog w "internal/strconv.uint64pow10" .u64 Lib.pow10Tab) :
    Calls Tryd.prog 24 #[.int .i64 (-12)] w fun e w' => e = .returned (.string ⟨#[45, 49, 50]⟩) ∧ Below w.heap.size w w' := by
  have h := format_any (-12) (by omega) (by omega) w htab
  rw [show Lib.itoa (-12) = [45, 49, 50] by rw [Lib.itoa, if_pos (by decide), show (-12 : Int).natAbs = 12 from rfl, Lib.decDigits_two (by decide) (by decide)]; rfl] at h
  exact h

theorem lives_any (w : World) (htab : Lib.TabIs Tryd.prog w "internal/strconv.uint64pow10" .u64 Lib.pow10Tab) :
    Calls Tryd.prog 13 #[] w fun e w' => e = .returned (.bool true) ∧ Below w.heap.size w w' := by
  have HT := Lib.hid htab
  clear htab
  go_enter Tryd.func13, Tryd.ntmps13
  go_wp2_with fail
  refine (l_add _).mono ?_; rintro e w' ⟨rfl, rfl⟩
  go_wp2_with fail
  refine (l_div _).mono ?_; rintro e w' ⟨rfl, rfl⟩
  go_wp2_with fail
  refine (l_mod _).mono ?_; rintro e w' ⟨rfl, rfl⟩
  go_wp2_with fail
  refine (l_p1 _).mono ?_; rintro e w' ⟨rfl, rfl⟩
  go_wp2_with fail
  refine (l_p2 _).mono ?_; rintro e w' ⟨rfl, rfl⟩
  go_wp2_with (go_at_call 24; refine (l_form _ HT.out).mono ?_; rintro e w' ⟨rfl, hb⟩)
  go_ret
  exact ⟨rfl, hb⟩
end Go.Proofs.YthaghhjgfohceaaDoor
