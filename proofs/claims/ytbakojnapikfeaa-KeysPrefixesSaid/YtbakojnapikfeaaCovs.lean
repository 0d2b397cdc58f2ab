/-
  The law on ranges that cover, walked.
-/
import Derived.Test.YtbakojnapikfeaaLaws
namespace Go.Proofs.Ytbakojnapikfeaa
open Go.RowKit

/-- w1 holds both arguments, boxed when the world was w -/
structure Two (w w1 : World) (f t g u : ByteArray) : Prop where
  one : Has w1 w.heap.size f t
  two : Has w1 (w.heap.size + 1) g u
  below : Below w.heap.size w w1
  size : w.heap.size + 2 ≤ w1.heap.size
theorem Two.new (w : World) (f t g u : ByteArray) : Two w ((w.alloc (.cells #[.string f, .string t] 23)).alloc (.cells #[.string g, .string u] 23)) f t g u :=
  ⟨(Has.box w f t).alloc (by simp) _, Has.box2 w _ g u, below_boxes w f t g u, by simp⟩
theorem Two.step {w w1 w2 : World} {f t g u : ByteArray} (h : Two w w1 f t g u) (hb : Below w1.heap.size w1 w2) : Two w w2 f t g u := by
  have hs := h.size
  have hz := hb.size
  exact ⟨h.one.below hb (by omega), h.two.below hb (by omega), below_2 h.below hb, by omega⟩
set_option maxHeartbeats 1000000 in
set_option maxRecDepth 100000 in
theorem covers_core (f t g u k : ByteArray) (c K1 K2 : Bool) (hc : c = true → K1 = true → K2 = true) (hk : k.size ≤ 100) (w : World)
    (g0 : ∀ w, Calls Try.prog 10 #[.agg #[.string f, .string t]] w fun e w' => e = .returned (.bool true) ∧ Below w.heap.size w w')
    (g1 : ∀ w, Calls Try.prog 10 #[.agg #[.string g, .string u]] w fun e w' => e = .returned (.bool true) ∧ Below w.heap.size w w')
    (g2 : ∀ w, Calls Try.prog 14 #[.agg #[.string f, .string t], .agg #[.string g, .string u]] w fun e w' => e = .returned (.bool c) ∧ Below w.heap.size w w')
    (g3 : ∀ w, Calls Try.prog 21 #[.agg #[.string f, .string t], .agg #[.string g, .string u]] w fun e w' => e = .returned (.bool c) ∧ Below w.heap.size w w')
    (g4 : ∀ w, Calls Try.prog 16 #[.agg #[.string g, .string u], .string k] w fun e w' => e = .returned (.bool K1) ∧ Below w.heap.size w w')
    (g5 : ∀ w, Calls Try.prog 16 #[.agg #[.string f, .string t], .string k] w fun e w' => e = .returned (.bool K2) ∧ Below w.heap.size w w') :
    Calls Try.prog 5 #[.agg #[.string f, .string t], .agg #[.string g, .string u], .string k] w fun e w' => e = .returned (.bool true) ∧ Below w.heap.size w w' := by
  have HT := Lib.hid (Two.new w f t g u)
  have G0 := Lib.hid g0
  have G1 := Lib.hid g1
  have G2 := Lib.hid g2
  have G3 := Lib.hid g3
  have G4 := Lib.hid g4
  have G5 := Lib.hid g5
  have HC := Lib.hid hc
  clear g0 g1 g2 g3 g4 g5 hc
  go_enter Try.func5, Try.ntmps5
  go_wp2_with fail
  refine (G0.out _).mono ?_; rintro e w1 ⟨rfl, hb1⟩
  have HT1 := Lib.hid (HT.out.step hb1)
  obtain ⟨⟨a0, a1⟩, ⟨b0, b1⟩, _⟩ := HT1.out
  go_wp2_with fail
  refine (G1.out _).mono ?_; rintro e w2 ⟨rfl, hb2⟩
  have HT2 := Lib.hid (HT1.out.step hb2)
  obtain ⟨⟨a2, a3⟩, ⟨b2, b3⟩, _⟩ := HT2.out
  go_wp2_with fail
  refine (G2.out _).mono ?_; rintro e w3 ⟨rfl, hb3⟩
  have HT3 := Lib.hid (HT2.out.step hb3)
  obtain ⟨⟨a4, a5⟩, ⟨b4, b5⟩, _⟩ := HT3.out
  go_wp2_with fail
  refine (G3.out _).mono ?_; rintro e w4 ⟨rfl, hb4⟩
  have HT4 := Lib.hid (HT3.out.step hb4)
  obtain ⟨⟨a6, a7⟩, ⟨b6, b7⟩, _⟩ := HT4.out
  cases c
  · go_wp2_with (go_at_call 11; refine (lives_any _).mono ?_; rintro e w9 ⟨rfl, hb9⟩)
    go_ret
    exact ⟨rfl, (HT4.out.step hb9).below⟩
  · go_wp2_with fail
    refine (G4.out _).mono ?_; rintro e w5 ⟨rfl, hb5⟩
    have HT5 := Lib.hid (HT4.out.step hb5)
    obtain ⟨⟨a8, a9⟩, ⟨b8, b9⟩, _⟩ := HT5.out
    cases K1
    · go_wp2_with (go_at_call 11; refine (lives_any _).mono ?_; rintro e w9 ⟨rfl, hb9⟩)
      go_ret
      exact ⟨rfl, (HT5.out.step hb9).below⟩
    · have hK : K2 = true := by have h := HC.out; simpa using h
      subst hK
      go_wp2_with fail
      refine (G5.out _).mono ?_; rintro e w6 ⟨rfl, hb6⟩
      have HT6 := Lib.hid (HT5.out.step hb6)
      go_wp2_with (go_at_call 11; refine (lives_any _).mono ?_; rintro e w9 ⟨rfl, hb9⟩)
      go_ret
      exact ⟨rfl, (HT6.out.step hb9).below⟩
set_option maxRecDepth 100000 in
theorem covers_out (f t g u k : ByteArray) (S T : Bool) (h : S = false ∨ (S = true ∧ T = false) ∨ (S = true ∧ T = true ∧ ¬ k.size ≤ 100)) (w : World)
    (g0 : ∀ w, Calls Try.prog 10 #[.agg #[.string f, .string t]] w fun e w' => e = .returned (.bool S) ∧ Below w.heap.size w w')
    (g1 : ∀ w, Calls Try.prog 10 #[.agg #[.string g, .string u]] w fun e w' => e = .returned (.bool T) ∧ Below w.heap.size w w') :
    Calls Try.prog 5 #[.agg #[.string f, .string t], .agg #[.string g, .string u], .string k] w fun e w' => e = .returned (.bool true) ∧ Below w.heap.size w w' := by
  have HT := Lib.hid (Two.new w f t g u)
  have G0 := Lib.hid g0
  have G1 := Lib.hid g1
  clear g0 g1
  rcases h with rfl | ⟨rfl, rfl⟩ | ⟨rfl, rfl, hk⟩
  · go_enter Try.func5, Try.ntmps5
    go_wp2_with fail
    refine (G0.out _).mono ?_; rintro e w1 ⟨rfl, hb1⟩
    have HT1 := Lib.hid (HT.out.step hb1)
    go_wp2_with (go_at_call 11; refine (lives_any _).mono ?_; rintro e w9 ⟨rfl, hb9⟩)
    go_ret
    exact ⟨rfl, (HT1.out.step hb9).below⟩
  all_goals
    go_enter Try.func5, Try.ntmps5
    go_wp2_with fail
    refine (G0.out _).mono ?_; rintro e w1 ⟨rfl, hb1⟩
    have HT1 := Lib.hid (HT.out.step hb1)
    obtain ⟨⟨a0, a1⟩, ⟨b0, b1⟩, _⟩ := HT1.out
    go_wp2_with fail
    refine (G1.out _).mono ?_; rintro e w2 ⟨rfl, hb2⟩
    have HT2 := Lib.hid (HT1.out.step hb2)
    go_wp2_with (go_at_call 11; refine (lives_any _).mono ?_; rintro e w9 ⟨rfl, hb9⟩)
    go_ret
    exact ⟨rfl, (HT2.out.step hb9).below⟩
theorem short_cases (S T : Bool) (k : ByteArray) : (S = true ∧ T = true ∧ k.size ≤ 100) ∨ (S = false ∨ (S = true ∧ T = false) ∨ (S = true ∧ T = true ∧ ¬ k.size ≤ 100)) := by
  cases S <;> cases T <;> simp <;> omega
theorem keysCovers_walk (f t g u k : ByteArray) (w : World) :
    Calls Try.prog 5 #[.agg #[.string f, .string t], .agg #[.string g, .string u], .string k] w fun e w' => e = .returned (.bool true) ∧ Below w.heap.size w w' := by
  have g0 := short_any f t
  have g1 := short_any g u
  rcases short_cases (decide (f.size ≤ 100) && decide (t.size ≤ 100)) (decide (g.size ≤ 100) && decide (u.size ≤ 100)) k with ⟨h1, h2, hk⟩ | h
  · obtain ⟨hf, ht⟩ := short_sizes h1
    obtain ⟨hg, hu⟩ := short_sizes h2
    rw [h1] at g0
    rw [h2] at g1
    exact covers_core f t g u k (covers f.data.toList t.data.toList g.data.toList u.data.toList) (cont g.data.toList u.data.toList k.data.toList) (cont f.data.toList t.data.toList k.data.toList) covers_cont hk w g0 g1
      (covers_any f t g u (by omega) (by omega) (by omega) (by omega)) (rcovers_any f t g u (by omega) (by omega) (by omega) (by omega)) (contains_any g u k (by omega) (by omega)) (contains_any f t k (by omega) (by omega))
  · exact covers_out f t g u k _ _ h w g0 g1
end Go.Proofs.Ytbakojnapikfeaa
