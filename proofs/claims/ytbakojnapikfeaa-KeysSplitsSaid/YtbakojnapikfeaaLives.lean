/-
  The examples of the chapter, which every law of the layer asks again: the call returns true; whether a range's ends are short.
-/
import Derived.Test.YtbakojnapikfeaaIncs
import Derived.Test.YtbakojnapikfeaaCuts
namespace Go.Proofs.Ytbakojnapikfeaa
open Go.RowKit

theorem short_any (f t : ByteArray) (w : World) :
    Calls Try.prog 10 #[.agg #[.string f, .string t]] w fun e w' => e = .returned (.bool (decide (f.size ≤ 100) && decide (t.size ≤ 100))) ∧ Below w.heap.size w w' := by
  have HW := Lib.hid (below_box w f t)
  by_cases h1 : f.size ≤ 100
  · by_cases h2 : t.size ≤ 100
    all_goals
      have HV : Hid ((decide (f.size ≤ 100) && decide (t.size ≤ 100)) = decide (t.size ≤ 100)) := by rw [decide_eq_true h1]; rfl
      go_enter Try.func10, Try.ntmps10
      go_wp2_with fail
      go_ret
      exact ⟨ret_bool (by rw [HV.out]; simp <;> omega), HW.out⟩
  · have HV : Hid ((decide (f.size ≤ 100) && decide (t.size ≤ 100)) = false) := by rw [decide_eq_false h1]; rfl
    go_enter Try.func10, Try.ntmps10
    go_wp2_with fail
    go_ret
    exact ⟨ret_bool (by first | rfl | rw [HV.out]), HW.out⟩

theorem l_p (w : World) : Calls Try.prog 24 #[.string ⟨#[97, 98]⟩] w fun e w' => e = .returned (.tuple #[.agg #[.string ⟨#[97, 98]⟩, .string ⟨#[97, 99]⟩], .int .i64 0]) ∧ Below w.heap.size w w' := by
  have h := prefix_any ⟨#[97, 98]⟩ (by decide) w
  rw [incV_yes (by decide +kernel)] at h
  exact h
theorem l_s (w : World) : Calls Try.prog 12 #[.agg #[.string ⟨#[97, 98]⟩, .string ⟨#[97, 99]⟩], .string ⟨#[97, 98, 99]⟩] w fun e w' => e = .returned (.tuple #[.agg #[.string ⟨#[97, 98]⟩, .string ⟨#[97, 98, 99]⟩], .agg #[.string ⟨#[97, 98, 99]⟩, .string ⟨#[97, 99]⟩], .int .i64 0]) ∧ Below w.heap.size w w' := by
  have h := split_any ⟨#[97, 98]⟩ ⟨#[97, 99]⟩ ⟨#[97, 98, 99]⟩ (by decide) (by decide) (by decide) w
  rw [cutV_yes (by decide +kernel)] at h
  exact h
theorem l_n (w : World) : Calls Try.prog 12 #[.agg #[.string ⟨#[97, 98]⟩, .string ⟨#[97, 99]⟩], .string ⟨#[97, 98]⟩] w fun e w' => e = .returned (.tuple #[.agg #[.string ⟨#[]⟩, .string ⟨#[]⟩], .agg #[.string ⟨#[]⟩, .string ⟨#[]⟩], .int .i64 1]) ∧ Below w.heap.size w w' := by
  have h := split_any ⟨#[97, 98]⟩ ⟨#[97, 99]⟩ ⟨#[97, 98]⟩ (by decide) (by decide) (by decide) w
  rw [cutV_no (by decide +kernel)] at h
  exact h
theorem l_v1 (w : World) : Calls Try.prog 17 #[.string ⟨#[97, 47, 98, 46, 49, 95, 45]⟩] w fun e w' => e = .returned (.bool true) ∧ Below w.heap.size w w' := by
  have h := valid_any ⟨#[97, 47, 98, 46, 49, 95, 45]⟩ (by decide) w
  rw [show valid (ByteArray.mk #[97, 47, 98, 46, 49, 95, 45]).data.toList = true from by decide +kernel] at h
  exact h
theorem l_v2 (w : World) : Calls Try.prog 17 #[.string ⟨#[65]⟩] w fun e w' => e = .returned (.bool false) ∧ Below w.heap.size w w' := by
  have h := valid_any ⟨#[65]⟩ (by decide) w
  rw [show valid (ByteArray.mk #[65]).data.toList = false from by decide +kernel] at h
  exact h
theorem l_v3 (w : World) : Calls Try.prog 17 #[.string ⟨#[]⟩] w fun e w' => e = .returned (.bool false) ∧ Below w.heap.size w w' := by
  have h := valid_any ⟨#[]⟩ (by decide) w
  rw [show valid (ByteArray.mk #[]).data.toList = false from by decide +kernel] at h
  exact h
theorem below_box2z (w : World) : Below w.heap.size w ((w.alloc (.cells #[.string ⟨#[]⟩, .string ⟨#[]⟩] 23)).alloc (.cells #[.string ⟨#[]⟩, .string ⟨#[]⟩] 23)) := below_alloc2 w _ _
set_option maxHeartbeats 1000000 in
set_option maxRecDepth 100000 in
theorem lives_any (w : World) : Calls Try.prog 11 #[] w fun e w' => e = .returned (.bool true) ∧ Below w.heap.size w w' := by
  go_enter Try.func11, Try.ntmps11
  go_wp2_with fail
  refine (l_p _).mono ?_; rintro e w1 ⟨rfl, hb1⟩
  have HR := Lib.hid (Has.box w1 ⟨#[97, 98]⟩ ⟨#[97, 99]⟩)
  go_wp2_with fail
  refine (l_s _).mono ?_; rintro e w2 ⟨rfl, hb2⟩
  have HR2 := Lib.hid (((HR.out.below hb2 (by simp)).alloc (by have := hb2.size; simp at this; omega) (.cells #[.string ⟨#[97, 98]⟩, .string ⟨#[97, 98, 99]⟩] 23)).alloc (by have := hb2.size; simp at this ⊢; omega) (.cells #[.string ⟨#[97, 98, 99]⟩, .string ⟨#[97, 99]⟩] 23))
  obtain ⟨a0, a1⟩ := HR2.out
  have HP2 := Lib.hid ((Has.box w2 ⟨#[97, 98]⟩ ⟨#[97, 98, 99]⟩).alloc (by simp) (.cells #[.string ⟨#[97, 98, 99]⟩, .string ⟨#[97, 99]⟩] 23))
  have HQ2 := Lib.hid (Has.box2 w2 (.cells #[.string ⟨#[97, 98]⟩, .string ⟨#[97, 98, 99]⟩] 23) ⟨#[97, 98, 99]⟩ ⟨#[97, 99]⟩)
  go_wp2_with fail
  refine (l_n _).mono ?_; rintro e w3 ⟨rfl, hb3⟩
  have HS := Lib.hid (below_box2z w3)
  have hs3 := hb3.size
  simp at hs3
  have hs2 := hb2.size
  simp at hs2
  obtain ⟨a2, a3⟩ := (HR2.out.below hb3 (by simp; omega)).below HS.out (by omega)
  obtain ⟨b2, b3⟩ := (HP2.out.below hb3 (by simp <;> omega)).below HS.out (by omega)
  obtain ⟨c2, c3⟩ := (HQ2.out.below hb3 (by simp <;> omega)).below HS.out (by omega)
  clear hs2 hs3
  go_wp2_with fail
  refine (l_v1 _).mono ?_; rintro e w4 ⟨rfl, hb4⟩
  go_wp2_with fail
  refine (l_v2 _).mono ?_; rintro e w5 ⟨rfl, hb5⟩
  go_wp2_with fail
  refine (l_v3 _).mono ?_; rintro e w6 ⟨rfl, hb6⟩
  go_wp2_with fail
  go_ret
  refine ⟨rfl, ?_⟩
  exact below_2 (below_2 (below_2 (below_2 (below_2 (below_2 (below_2 hb1 (below_box _ _ _)) (below_2 hb2 (below_alloc2 _ _ _))) hb3) HS.out) hb4) hb5) hb6
end Go.Proofs.Ytbakojnapikfeaa
