/-
  The examples of the chapter, which every law of the layer asks again: the call returns true.
-/
import Derived.Test.YtmmbhmmmiagipaaUnhexes
namespace Go.Proofs.Ytmmbhmmmiagipaa
open Go.RowKit

theorem crc_nine : crc [49, 50, 51, 52, 53, 54, 55, 56, 57] = 3808858755 := by decide +kernel
theorem fnv_none : fnv [] = 14695981039346656037 := by decide +kernel
theorem fnv_a : fnv [97] = 12638187200555641996 := by decide +kernel
theorem hex_255 : hexN 16 255 = [48, 48, 48, 48, 48, 48, 48, 48, 48, 48, 48, 48, 48, 48, 102, 102] := by decide +kernel
theorem l_o (w : World) : Calls Try.prog 10 #[.string ⟨#[97, 98, 99]⟩] w fun e w' => e = .returned (.tuple #[.string ⟨#[]⟩, .int .i64 6]) ∧ Below w.heap.size w w' := open_short ⟨#[97, 98, 99]⟩ (by decide) w
theorem l_c (w : World) : Calls Try.prog 19 #[.string ⟨#[49, 50, 51, 52, 53, 54, 55, 56, 57]⟩] w fun e w' => e = .returned (.int .u32 3808858755) ∧ w = w' := by
  have h := crc_any ⟨#[49, 50, 51, 52, 53, 54, 55, 56, 57]⟩ (by decide) w
  rw [show (ByteArray.mk #[49, 50, 51, 52, 53, 54, 55, 56, 57]).data.toList = [49, 50, 51, 52, 53, 54, 55, 56, 57] from rfl, crc_nine] at h
  exact h
theorem l_f0 (w : World) : Calls Try.prog 12 #[.string ⟨#[]⟩] w fun e w' => e = .returned (.int .u64 14695981039346656037) ∧ w = w' := by
  have h := fnv_any ⟨#[]⟩ (by decide) w
  rw [show (ByteArray.mk #[]).data.toList = [] from rfl, fnv_none] at h
  exact h
theorem l_f1 (w : World) : Calls Try.prog 12 #[.string ⟨#[97]⟩] w fun e w' => e = .returned (.int .u64 12638187200555641996) ∧ w = w' := by
  have h := fnv_any ⟨#[97]⟩ (by decide) w
  rw [show (ByteArray.mk #[97]).data.toList = [97] from rfl, fnv_a] at h
  exact h
theorem l_h (w : World) : Calls Try.prog 25 #[.int .u64 255] w fun e w' => e = .returned (.string ⟨#[48, 48, 48, 48, 48, 48, 48, 48, 48, 48, 48, 48, 48, 48, 102, 102]⟩) ∧ Below w.heap.size w w' := by
  have h := hex_any 255 (by decide) w
  rw [show hex 255 = ⟨#[48, 48, 48, 48, 48, 48, 48, 48, 48, 48, 48, 48, 48, 48, 102, 102]⟩ from by unfold hex; rw [hex_255]] at h
  exact h
set_option maxRecDepth 100000 in
theorem lives_any (w : World) : Calls Try.prog 11 #[] w fun e w' => e = .returned (.bool true) ∧ Below w.heap.size w w' := by
  go_enter Try.func11, Try.ntmps11
  go_wp2_with fail
  refine (l_o _).mono ?_; rintro e w1 ⟨rfl, hb1⟩
  go_wp2_with fail
  refine (l_c _).mono ?_; rintro e w' ⟨rfl, rfl⟩
  go_wp2_with fail
  refine (l_f0 _).mono ?_; rintro e w' ⟨rfl, rfl⟩
  go_wp2_with fail
  refine (l_f1 _).mono ?_; rintro e w' ⟨rfl, rfl⟩
  go_wp2_with (go_at_call 25; refine (l_h _).mono ?_; rintro e w2 ⟨rfl, hb2⟩)
  go_ret
  exact ⟨rfl, below_2 hb1 hb2⟩
end Go.Proofs.Ytmmbhmmmiagipaa
