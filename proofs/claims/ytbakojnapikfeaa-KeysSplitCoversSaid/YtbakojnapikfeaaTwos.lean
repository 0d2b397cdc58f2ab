/-
  The stage's law, walked: the parts of a split range contain exactly the keys of the range.
-/
import Derived.Test.YtbakojnapikfeaaSpls
namespace Go.Proofs.Ytbakojnapikfeaa
open Go.RowKit

set_option maxHeartbeats 1000000 in
set_option maxRecDepth 100000 in
/-- Split refuses: two zero ranges. -/
theorem twos_no (f t m k : ByteArray) (hm : m.size ≤ 100) (hk : k.size ≤ 100) (w : World)
    (g0 : ∀ w, Calls Try.prog 10 #[.agg #[.string f, .string t]] w fun e w' => e = .returned (.bool true) ∧ Below w.heap.size w w')
    (g1 : ∀ w, Calls Try.prog 12 #[.agg #[.string f, .string t], .string m] w fun e w' => e = .returned (.tuple #[.agg #[.string ⟨#[]⟩, .string ⟨#[]⟩], .agg #[.string ⟨#[]⟩, .string ⟨#[]⟩], .int .i64 1]) ∧ Below w.heap.size w w') :
    Calls Try.prog 3 #[.agg #[.string f, .string t], .string m, .string k] w fun e w' => e = .returned (.bool true) ∧ Below w.heap.size w w' := by
  have HB := Lib.hid (Has.box w f t)
  have HW := Lib.hid (below_box w f t)
  have G0 := Lib.hid g0
  have G1 := Lib.hid g1
  clear g0 g1
  go_enter Try.func3, Try.ntmps3
  go_wp2_with fail
  refine (G0.out _).mono ?_; rintro e w1 ⟨rfl, hb1⟩
  have HB1 := Lib.hid (HB.out.below hb1 (by simp))
  have hbw1 := below_2 HW.out hb1
  obtain ⟨a0, a1⟩ := HB1.out
  go_wp2_with fail
  refine (G1.out _).mono ?_; rintro e w2 ⟨rfl, hb2⟩
  have HS2 := Lib.hid (Tri.new (HB1.out.below hb2 (by have := hb1.size; simp at this; omega)) (below_2 hbw1 hb2) (by have := hb1.size; have := hb2.size; simp at *; omega) ⟨#[]⟩ ⟨#[]⟩ ⟨#[]⟩ ⟨#[]⟩)
  go_wp2_with (go_at_call 11; refine (lives_any _).mono ?_; rintro e w9 ⟨rfl, hb9⟩)
  go_ret
  exact ⟨rfl, (HS2.out.step hb9).below⟩
set_option maxHeartbeats 2000000 in
set_option maxRecDepth 100000 in
/-- Split splits. -/
theorem twos_yes (f t m k x y : ByteArray) (K L R : Bool) (hlr : (L = false ∧ R = false ∧ K = false) ∨ (L = false ∧ R = true ∧ K = true) ∨ (L = true ∧ R = false ∧ K = true)) (hm : m.size ≤ 100) (hk : k.size ≤ 100) (w : World)
    (g0 : ∀ w, Calls Try.prog 10 #[.agg #[.string f, .string t]] w fun e w' => e = .returned (.bool true) ∧ Below w.heap.size w w')
    (g1 : ∀ w, Calls Try.prog 12 #[.agg #[.string f, .string t], .string m] w fun e w' => e = .returned (.tuple #[.agg #[.string f, .string m], .agg #[.string m, .string t], .int .i64 0]) ∧ Below w.heap.size w w')
    (g2 : ∀ w, Calls Try.prog 13 #[.agg #[.string f, .string m]] w fun e w' => e = .returned (.bool true) ∧ Below w.heap.size w w')
    (g3 : ∀ w, Calls Try.prog 13 #[.agg #[.string m, .string t]] w fun e w' => e = .returned (.bool true) ∧ Below w.heap.size w w')
    (g4 : ∀ w, Calls Try.prog 14 #[.agg #[.string f, .string t], .agg #[.string f, .string m]] w fun e w' => e = .returned (.bool true) ∧ Below w.heap.size w w')
    (g5 : ∀ w, Calls Try.prog 14 #[.agg #[.string f, .string t], .agg #[.string m, .string t]] w fun e w' => e = .returned (.bool true) ∧ Below w.heap.size w w')
    (g6 : ∀ w, Calls Try.prog 15 #[.agg #[.string f, .string m], .agg #[.string m, .string t]] w fun e w' => e = .returned (.tuple #[.agg #[.string x, .string y], .bool false]) ∧ Below w.heap.size w w')
    (g7 : ∀ w, Calls Try.prog 16 #[.agg #[.string f, .string t], .string k] w fun e w' => e = .returned (.bool K) ∧ Below w.heap.size w w')
    (g8 : ∀ w, Calls Try.prog 16 #[.agg #[.string f, .string m], .string k] w fun e w' => e = .returned (.bool L) ∧ Below w.heap.size w w')
    (g9 : ∀ w, Calls Try.prog 16 #[.agg #[.string m, .string t], .string k] w fun e w' => e = .returned (.bool R) ∧ Below w.heap.size w w')
    (g10 : ∀ w, Calls Try.prog 16 #[.agg #[.string m, .string t], .string m] w fun e w' => e = .returned (.bool true) ∧ Below w.heap.size w w') :
    Calls Try.prog 3 #[.agg #[.string f, .string t], .string m, .string k] w fun e w' => e = .returned (.bool true) ∧ Below w.heap.size w w' := by
  have HB := Lib.hid (Has.box w f t)
  have HW := Lib.hid (below_box w f t)
  have G0 := Lib.hid g0
  have G1 := Lib.hid g1
  have G2 := Lib.hid g2
  have G3 := Lib.hid g3
  have G4 := Lib.hid g4
  have G5 := Lib.hid g5
  have G6 := Lib.hid g6
  have C7 := Lib.hid (fun W d os => Calls.regrown_of (w := W) (d := d) (os := os) (g7 _))
  have C8 := Lib.hid (fun W d os => Calls.regrown_of (w := W) (d := d) (os := os) (g8 _))
  have C9 := Lib.hid (fun W d os => Calls.regrown_of (w := W) (d := d) (os := os) (g9 _))
  have C10 := Lib.hid (fun W d os => Calls.regrown_of (w := W) (d := d) (os := os) (g10 _))
  have C11 := Lib.hid (fun W d os => Calls.regrown_of (w := W) (d := d) (os := os) (lives_any _))
  have HL := Lib.hid hlr
  clear g0 g1 g2 g3 g4 g5 g6 g7 g8 g9 g10 hlr
  go_enter Try.func3, Try.ntmps3
  go_wp2_with fail
  refine (G0.out _).mono ?_; rintro e w1 ⟨rfl, hb1⟩
  have HB1 := Lib.hid (HB.out.below hb1 (by simp))
  have hbw1 := below_2 HW.out hb1
  obtain ⟨a0, a1⟩ := HB1.out
  go_wp2_with fail
  refine (G1.out _).mono ?_; rintro e w2 ⟨rfl, hb2⟩
  have HS2 := Lib.hid (Tri.new (HB1.out.below hb2 (by have := hb1.size; simp at this; omega)) (below_2 hbw1 hb2) (by have := hb1.size; have := hb2.size; simp at *; omega) f m m t)
  clear a0 a1
  go_wp2_with fail
  refine (G2.out _).mono ?_; rintro e w3 ⟨rfl, hb3⟩
  have HS3 := Lib.hid (HS2.out.step hb3)
  obtain ⟨⟨a0, a1⟩, ⟨c0, c1⟩, ⟨d0, d1⟩, _⟩ := HS3.out
  go_wp2_with fail
  refine (G3.out _).mono ?_; rintro e w4 ⟨rfl, hb4⟩
  clear a0 a1 c0 c1 d0 d1
  have HS4 := Lib.hid (HS3.out.step hb4)
  obtain ⟨⟨a0, a1⟩, ⟨c0, c1⟩, ⟨d0, d1⟩, _⟩ := HS4.out
  go_wp2_with fail
  refine (G4.out _).mono ?_; rintro e w5 ⟨rfl, hb5⟩
  clear a0 a1 c0 c1 d0 d1
  have HS5 := Lib.hid (HS4.out.step hb5)
  obtain ⟨⟨a0, a1⟩, ⟨c0, c1⟩, ⟨d0, d1⟩, _⟩ := HS5.out
  go_wp2_with fail
  refine (G5.out _).mono ?_; rintro e w6 ⟨rfl, hb6⟩
  clear a0 a1 c0 c1 d0 d1
  have HS6 := Lib.hid (HS5.out.step hb6)
  obtain ⟨⟨a0, a1⟩, ⟨c0, c1⟩, ⟨d0, d1⟩, _⟩ := HS6.out
  go_wp2_with fail
  refine (G6.out _).mono ?_; rintro e w7 ⟨rfl, hb7⟩
  clear a0 a1 c0 c1 d0 d1
  have HS7 := Lib.hid ((HS6.out.step hb7).step (alloc_below w7 (.cells #[.string x, .string y] 23)))
  obtain ⟨⟨a0, a1⟩, ⟨c0, c1⟩, ⟨d0, d1⟩, _⟩ := HS7.out
  have r0 := fun d os => cell_regrown a0 d os
  have r1 := fun d os => cell_regrown a1 d os
  have r2 := fun d os => cell_regrown c0 d os
  have r3 := fun d os => cell_regrown c1 d os
  have r4 := fun d os => cell_regrown d0 d os
  have r5 := fun d os => cell_regrown d1 d os
  go_wp2_with fail
  rcases HL.out with ⟨rfl, rfl, rfl⟩ | ⟨rfl, rfl, rfl⟩ | ⟨rfl, rfl, rfl⟩
  all_goals
    refine wp_region_quiet_below (by kernel_rfl) (by kernel_rfl) ?_
    repeat (go_big_quiet_step (first | with_reducible exact C7.out _ _ _ | with_reducible exact C8.out _ _ _ | with_reducible exact C9.out _ _ _ | with_reducible exact C10.out _ _ _ | with_reducible exact C11.out _ _ _))
    refine wpQuiet_nil ?_
    intro _ hw'
    obtain ⟨⟨dq, osq⟩, hw''⟩ := hw'
    subst hw''
    go_wp2_with fail
    go_ret
    exact ⟨rfl, below_2 HS7.out.below (below_regrown _ _ _)⟩
set_option maxRecDepth 100000 in
theorem twos_out (f t m k : ByteArray) (S : Bool) (h : S = false ∨ (S = true ∧ ¬ m.size ≤ 100) ∨ (S = true ∧ m.size ≤ 100 ∧ ¬ k.size ≤ 100)) (w : World)
    (g0 : ∀ w, Calls Try.prog 10 #[.agg #[.string f, .string t]] w fun e w' => e = .returned (.bool S) ∧ Below w.heap.size w w') :
    Calls Try.prog 3 #[.agg #[.string f, .string t], .string m, .string k] w fun e w' => e = .returned (.bool true) ∧ Below w.heap.size w w' := by
  have HW := Lib.hid (below_box w f t)
  have G0 := Lib.hid g0
  clear g0
  rcases h with rfl | ⟨rfl, hm⟩ | ⟨rfl, hm, hk⟩
  all_goals
    go_enter Try.func3, Try.ntmps3
    go_wp2_with fail
    refine (G0.out _).mono ?_; rintro e w1 ⟨rfl, hb1⟩
    go_wp2_with (go_at_call 11; refine (lives_any _).mono ?_; rintro e w2 ⟨rfl, hb2⟩)
    go_ret
    exact ⟨rfl, below_2 (below_2 HW.out hb1) hb2⟩
theorem lr_cases {K L R : Bool} (h1 : K = (L != R)) (h2 : (L && R) = false) : (L = false ∧ R = false ∧ K = false) ∨ (L = false ∧ R = true ∧ K = true) ∨ (L = true ∧ R = false ∧ K = true) := by
  subst h1
  cases L <;> cases R <;> simp_all
theorem keysSplitCovers_walk (f t m k : ByteArray) (w : World) :
    Calls Try.prog 3 #[.agg #[.string f, .string t], .string m, .string k] w fun e w' => e = .returned (.bool true) ∧ Below w.heap.size w w' := by
  have g0 := short_any f t
  by_cases h : (decide (f.size ≤ 100) && decide (t.size ≤ 100)) = true ∧ m.size ≤ 100 ∧ k.size ≤ 100
  · obtain ⟨h1, hm, hk⟩ := h
    obtain ⟨hf, ht⟩ := short_sizes h1
    rw [h1] at g0
    have g1 := split_any f t m (by omega) (by omega) (by omega)
    by_cases hc : cuts f.data.toList t.data.toList m.data.toList = true
    · rw [cutV_yes hc] at g1
      have g2 := vrange_any f m (by omega) (by omega)
      have g3 := vrange_any m t (by omega) (by omega)
      have g4 := covers_any f t f m (by omega) (by omega) (by omega) (by omega)
      have g5 := covers_any f t m t (by omega) (by omega) (by omega) (by omega)
      have g6 := intersect_any f m m t (by omega) (by omega) (by omega) (by omega)
      have g10 := contains_any m t m (by omega) (by omega)
      rw [cuts_left hc] at g2
      rw [cuts_right hc] at g3
      rw [cuts_covers_left hc] at g4
      rw [cuts_covers_right hc] at g5
      rw [meetV_no (cuts_meet hc)] at g6
      rw [cuts_at hc] at g10
      obtain ⟨hl1, hl2⟩ := cuts_cont hc k.data.toList
      exact twos_yes f t m k _ _ _ _ _ (lr_cases hl1 hl2) hm hk w g0 g1 g2 g3 g4 g5 g6 (contains_any f t k (by omega) (by omega)) (contains_any f m k (by omega) (by omega)) (contains_any m t k (by omega) (by omega)) g10
    · rw [Bool.not_eq_true] at hc
      rw [cutV_no hc] at g1
      exact twos_no f t m k hm hk w g0 g1
  · refine twos_out f t m k _ ?_ w g0
    by_cases h1 : (decide (f.size ≤ 100) && decide (t.size ≤ 100)) = true
    · by_cases hm : m.size ≤ 100
      · exact Or.inr (Or.inr ⟨h1, hm, fun hk => h ⟨h1, hm, hk⟩⟩)
      · exact Or.inr (Or.inl ⟨h1, hm⟩)
    · exact Or.inl (Bool.not_eq_true _ ▸ h1)
end Go.Proofs.Ytbakojnapikfeaa
