/-
  Laws, walked: Valid, ValidRange and Contains; Covers.
-/
import Derived.Test.YtbakojnapikfeaaLives
import Derived.Test.YtbakojnapikfeaaRCuts
import Derived.Test.YtbakojnapikfeaaRMeets
import Derived.Deep.QuietTactic
import Derived.BigQuiet
import Derived.Lib.QuietBelow
namespace Go.Proofs.Ytbakojnapikfeaa
open Go.RowKit

set_option maxHeartbeats 1000000 in
set_option maxRecDepth 100000 in
theorem valid_core (f t k : ByteArray) (V R C : Bool) (hk : k.size ≤ 100) (w : World)
    (g0 : ∀ w, Calls Try.prog 10 #[.agg #[.string f, .string t]] w fun e w' => e = .returned (.bool true) ∧ Below w.heap.size w w')
    (g1 : ∀ w, Calls Try.prog 17 #[.string k] w fun e w' => e = .returned (.bool V) ∧ Below w.heap.size w w')
    (g2 : ∀ w, Calls Try.prog 18 #[.string k] w fun e w' => e = .returned (.bool V) ∧ Below w.heap.size w w')
    (g3 : ∀ w, Calls Try.prog 13 #[.agg #[.string f, .string t]] w fun e w' => e = .returned (.bool R) ∧ Below w.heap.size w w')
    (g4 : ∀ w, Calls Try.prog 19 #[.agg #[.string f, .string t]] w fun e w' => e = .returned (.bool R) ∧ Below w.heap.size w w')
    (g5 : ∀ w, Calls Try.prog 16 #[.agg #[.string f, .string t], .string k] w fun e w' => e = .returned (.bool C) ∧ Below w.heap.size w w')
    (g6 : ∀ w, Calls Try.prog 20 #[.agg #[.string f, .string t], .string k] w fun e w' => e = .returned (.bool C) ∧ Below w.heap.size w w') :
    Calls Try.prog 4 #[.agg #[.string f, .string t], .string k] w fun e w' => e = .returned (.bool true) ∧ Below w.heap.size w w' := by
  have HB := Lib.hid (Has.box w f t)
  have HW := Lib.hid (below_box w f t)
  have G0 := Lib.hid g0
  have C1 := Lib.hid (fun W d os => Calls.regrown_of (w := W) (d := d) (os := os) (g1 _))
  have C2 := Lib.hid (fun W d os => Calls.regrown_of (w := W) (d := d) (os := os) (g2 _))
  have C3 := Lib.hid (fun W d os => Calls.regrown_of (w := W) (d := d) (os := os) (g3 _))
  have C4 := Lib.hid (fun W d os => Calls.regrown_of (w := W) (d := d) (os := os) (g4 _))
  have C5 := Lib.hid (fun W d os => Calls.regrown_of (w := W) (d := d) (os := os) (g5 _))
  have C6 := Lib.hid (fun W d os => Calls.regrown_of (w := W) (d := d) (os := os) (g6 _))
  have C7 := Lib.hid (fun W d os => Calls.regrown_of (w := W) (d := d) (os := os) (lives_any _))
  clear g0 g1 g2 g3 g4 g5 g6
  go_enter Try.func4, Try.ntmps4
  go_wp2_with fail
  refine (G0.out _).mono ?_; rintro e w1 ⟨rfl, hb1⟩
  have hbw := below_2 HW.out hb1
  obtain ⟨a0, a1⟩ := HB.out.below hb1 (by simp)
  have r0 := fun d os => cell_regrown a0 d os
  have r1 := fun d os => cell_regrown a1 d os
  go_wp2_with fail
  refine wp_region_quiet_below (by kernel_rfl) (by kernel_rfl) ?_
  repeat (go_big_quiet_step (first | exact C1.out _ _ _ | exact C2.out _ _ _ | exact C3.out _ _ _ | exact C4.out _ _ _ | exact C5.out _ _ _ | exact C6.out _ _ _ | exact C7.out _ _ _))
  refine wpQuiet_nil ?_
  intro _ hw'
  obtain ⟨⟨dq, osq⟩, hw''⟩ := hw'
  subst hw''
  go_wp2_with fail
  go_ret
  exact ⟨rfl, below_2 hbw (below_regrown _ _ _)⟩
set_option maxRecDepth 100000 in
theorem valid_out (f t k : ByteArray) (S : Bool) (h : S = false ∨ ¬ k.size ≤ 100) (w : World)
    (g0 : ∀ w, Calls Try.prog 10 #[.agg #[.string f, .string t]] w fun e w' => e = .returned (.bool S) ∧ Below w.heap.size w w') :
    Calls Try.prog 4 #[.agg #[.string f, .string t], .string k] w fun e w' => e = .returned (.bool true) ∧ Below w.heap.size w w' := by
  have HW := Lib.hid (below_box w f t)
  have G0 := Lib.hid g0
  clear g0
  cases S
  · clear h
    go_enter Try.func4, Try.ntmps4
    go_wp2_with fail
    refine (G0.out _).mono ?_; rintro e w1 ⟨rfl, hb1⟩
    go_wp2_with (go_at_call 11; refine (lives_any _).mono ?_; rintro e w2 ⟨rfl, hb2⟩)
    go_ret
    exact ⟨rfl, below_2 (below_2 HW.out hb1) hb2⟩
  · have hk := h.resolve_left (by decide)
    clear h
    go_enter Try.func4, Try.ntmps4
    go_wp2_with fail
    refine (G0.out _).mono ?_; rintro e w1 ⟨rfl, hb1⟩
    go_wp2_with (go_at_call 11; refine (lives_any _).mono ?_; rintro e w2 ⟨rfl, hb2⟩)
    go_ret
    exact ⟨rfl, below_2 (below_2 HW.out hb1) hb2⟩
theorem short_sizes {f t : ByteArray} (h : (decide (f.size ≤ 100) && decide (t.size ≤ 100)) = true) : f.size ≤ 100 ∧ t.size ≤ 100 := by
  rw [Bool.and_eq_true, decide_eq_true_iff, decide_eq_true_iff] at h
  exact h
theorem keysValid_walk (f t k : ByteArray) (w : World) :
    Calls Try.prog 4 #[.agg #[.string f, .string t], .string k] w fun e w' => e = .returned (.bool true) ∧ Below w.heap.size w w' := by
  have g0 := short_any f t
  by_cases h : (decide (f.size ≤ 100) && decide (t.size ≤ 100)) = true ∧ k.size ≤ 100
  · obtain ⟨h1, hk⟩ := h
    obtain ⟨hf, ht⟩ := short_sizes h1
    rw [h1] at g0
    refine valid_core f t k (valid k.data.toList) (vr f.data.toList t.data.toList) (cont f.data.toList t.data.toList k.data.toList) hk w g0 (valid_any k (by omega)) ?_ (vrange_any f t (by omega) (by omega)) (rvrange_any f t (by omega) (by omega)) (contains_any f t k (by omega) (by omega)) (rcontains_any f t k (by omega) (by omega))
    exact fun w => (rvalid_any k (by omega) w).mono fun e w' h => ⟨h.1, h.2 ▸ Below.refl _ _⟩
  · refine valid_out f t k _ ?_ w g0
    by_cases h1 : (decide (f.size ≤ 100) && decide (t.size ≤ 100)) = true
    · exact Or.inr fun hk => h ⟨h1, hk⟩
    · exact Or.inl (Bool.not_eq_true _ ▸ h1)
end Go.Proofs.Ytbakojnapikfeaa
