/-
  The law on intersections, walked.
-/
import Derived.Test.YtbakojnapikfeaaCovs
namespace Go.Proofs.Ytbakojnapikfeaa
open Go.RowKit

/-- w1 holds both arguments and both results -/
structure Six (w w1 : World) (f t g u : ByteArray) (b c : Nat) (x y : ByteArray) : Prop where
  two : Two w w1 f t g u
  left : Has w1 b x y
  right : Has w1 c x y
  at_b : b < w1.heap.size
  at_c : c < w1.heap.size
theorem Six.step {w w1 w2 : World} {f t g u : ByteArray} {b c : Nat} {x y : ByteArray} (h : Six w w1 f t g u b c x y) (hb : Below w1.heap.size w1 w2) : Six w w2 f t g u b c x y :=
  ⟨h.two.step hb, h.left.below hb h.at_b, h.right.below hb h.at_c, Nat.lt_of_lt_of_le h.at_b hb.size, Nat.lt_of_lt_of_le h.at_c hb.size⟩
theorem alloc_below (w : World) (o : Obj) : Below w.heap.size w (w.alloc o) := (Below.refl _ _).alloc (Nat.le_refl _) o
set_option maxHeartbeats 2000000 in
set_option maxRecDepth 100000 in
theorem meets_core (f t g u k x y : ByteArray) (M A B X : Bool) (hM : (A && B) = (M && X)) (hk : k.size ≤ 100) (w : World)
    (g0 : ∀ w, Calls Try.prog 10 #[.agg #[.string f, .string t]] w fun e w' => e = .returned (.bool true) ∧ Below w.heap.size w w')
    (g1 : ∀ w, Calls Try.prog 10 #[.agg #[.string g, .string u]] w fun e w' => e = .returned (.bool true) ∧ Below w.heap.size w w')
    (g2 : ∀ w, Calls Try.prog 15 #[.agg #[.string f, .string t], .agg #[.string g, .string u]] w fun e w' => e = .returned (.tuple #[.agg #[.string x, .string y], .bool M]) ∧ Below w.heap.size w w')
    (g3 : ∀ w, Calls Try.prog 22 #[.agg #[.string f, .string t], .agg #[.string g, .string u]] w fun e w' => e = .returned (.tuple #[.agg #[.string x, .string y], .bool M]) ∧ Below w.heap.size w w')
    (g4 : ∀ w, Calls Try.prog 16 #[.agg #[.string f, .string t], .string k] w fun e w' => e = .returned (.bool A) ∧ Below w.heap.size w w')
    (g5 : ∀ w, Calls Try.prog 16 #[.agg #[.string g, .string u], .string k] w fun e w' => e = .returned (.bool B) ∧ Below w.heap.size w w')
    (g6 : ∀ w, Calls Try.prog 16 #[.agg #[.string x, .string y], .string k] w fun e w' => e = .returned (.bool X) ∧ Below w.heap.size w w') :
    Calls Try.prog 6 #[.agg #[.string f, .string t], .agg #[.string g, .string u], .string k] w fun e w' => e = .returned (.bool true) ∧ Below w.heap.size w w' := by
  have HT := Lib.hid (Two.new w f t g u)
  have G0 := Lib.hid g0
  have G1 := Lib.hid g1
  have G2 := Lib.hid g2
  have G3 := Lib.hid g3
  have G4 := Lib.hid g4
  have G5 := Lib.hid g5
  have G6 := Lib.hid g6
  have HM := Lib.hid hM
  clear g0 g1 g2 g3 g4 g5 g6 hM
  go_enter Try.func6, Try.ntmps6
  go_wp2_with fail
  refine (G0.out _).mono ?_; rintro e w1 ⟨rfl, hb1⟩
  have HT1 := Lib.hid (HT.out.step hb1)
  obtain ⟨⟨a0, a1⟩, ⟨b0, b1⟩, _⟩ := HT1.out
  go_wp2_with fail
  refine (G1.out _).mono ?_; rintro e w2 ⟨rfl, hb2⟩
  have HT2 := Lib.hid (HT1.out.step hb2)
  obtain ⟨⟨a2, a3⟩, ⟨b2, b3⟩, _⟩ := HT2.out
  go_wp2_with fail
  refine (G2.out _).mono ?_; rintro e w3 ⟨rfl, hb3⟩
  have HT3 := Lib.hid ((HT2.out.step hb3).step (alloc_below w3 (.cells #[.string x, .string y] 23)))
  have HX3 := Lib.hid (Has.box w3 x y)
  obtain ⟨⟨a4, a5⟩, ⟨b4, b5⟩, _⟩ := HT3.out
  go_wp2_with fail
  refine (G3.out _).mono ?_; rintro e w4 ⟨rfl, hb4⟩
  have HT4 := Lib.hid ((HT3.out.step hb4).step (alloc_below w4 (.cells #[.string x, .string y] 23)))
  have HS4 : Hid (Six w (w4.alloc (.cells #[.string x, .string y] 23)) f t g u w3.heap.size w4.heap.size x y) :=
    ⟨HT4.out, (HX3.out.below hb4 (by simp)).alloc (by have := hb4.size; simp at this; omega) _, Has.box w4 x y, by have := hb4.size; simp at this ⊢; omega, by simp⟩
  obtain ⟨⟨⟨a6, a7⟩, ⟨b6, b7⟩, _⟩, _⟩ := HS4.out
  go_wp2_with fail
  refine (G4.out _).mono ?_; rintro e w5 ⟨rfl, hb5⟩
  have HS5 := Lib.hid (HS4.out.step hb5)
  obtain ⟨⟨⟨a8, a9⟩, ⟨b8, b9⟩, _⟩, ⟨c0, c1⟩, ⟨d0, d1⟩, _⟩ := HS5.out
  cases A
  · cases M
    · go_wp2_with (go_at_call 11; refine (lives_any _).mono ?_; rintro e w9 ⟨rfl, hb9⟩)
      go_ret
      exact ⟨rfl, (HS5.out.step hb9).two.below⟩
    · have hX : X = false := by have h := HM.out; simpa using h.symm
      subst hX
      go_wp2_with fail
      refine (G6.out _).mono ?_; rintro e w7 ⟨rfl, hb7⟩
      have HS7 := Lib.hid (HS5.out.step hb7)
      go_wp2_with (go_at_call 11; refine (lives_any _).mono ?_; rintro e w9 ⟨rfl, hb9⟩)
      go_ret
      exact ⟨rfl, (HS7.out.step hb9).two.below⟩
  · go_wp2_with fail
    refine (G5.out _).mono ?_; rintro e w6 ⟨rfl, hb6⟩
    have HS6 := Lib.hid (HS5.out.step hb6)
    obtain ⟨_, ⟨c2, c3⟩, ⟨d2, d3⟩, _⟩ := HS6.out
    cases B
    · cases M
      · go_wp2_with (go_at_call 11; refine (lives_any _).mono ?_; rintro e w9 ⟨rfl, hb9⟩)
        go_ret
        exact ⟨rfl, (HS6.out.step hb9).two.below⟩
      · have hX : X = false := by have h := HM.out; simpa using h.symm
        subst hX
        go_wp2_with fail
        refine (G6.out _).mono ?_; rintro e w7 ⟨rfl, hb7⟩
        have HS7 := Lib.hid (HS6.out.step hb7)
        go_wp2_with (go_at_call 11; refine (lives_any _).mono ?_; rintro e w9 ⟨rfl, hb9⟩)
        go_ret
        exact ⟨rfl, (HS7.out.step hb9).two.below⟩
    · cases M
      · exact absurd HM.out (by simp)
      · have hX : X = true := by have h := HM.out; simpa using h.symm
        subst hX
        go_wp2_with fail
        refine (G6.out _).mono ?_; rintro e w7 ⟨rfl, hb7⟩
        have HS7 := Lib.hid (HS6.out.step hb7)
        go_wp2_with (go_at_call 11; refine (lives_any _).mono ?_; rintro e w9 ⟨rfl, hb9⟩)
        go_ret
        exact ⟨rfl, (HS7.out.step hb9).two.below⟩
set_option maxRecDepth 100000 in
theorem meets_out (f t g u k : ByteArray) (S T : Bool) (h : S = false ∨ (S = true ∧ T = false) ∨ (S = true ∧ T = true ∧ ¬ k.size ≤ 100)) (w : World)
    (g0 : ∀ w, Calls Try.prog 10 #[.agg #[.string f, .string t]] w fun e w' => e = .returned (.bool S) ∧ Below w.heap.size w w')
    (g1 : ∀ w, Calls Try.prog 10 #[.agg #[.string g, .string u]] w fun e w' => e = .returned (.bool T) ∧ Below w.heap.size w w') :
    Calls Try.prog 6 #[.agg #[.string f, .string t], .agg #[.string g, .string u], .string k] w fun e w' => e = .returned (.bool true) ∧ Below w.heap.size w w' := by
  have HT := Lib.hid (Two.new w f t g u)
  have G0 := Lib.hid g0
  have G1 := Lib.hid g1
  clear g0 g1
  rcases h with rfl | ⟨rfl, rfl⟩ | ⟨rfl, rfl, hk⟩
  · go_enter Try.func6, Try.ntmps6
    go_wp2_with fail
    refine (G0.out _).mono ?_; rintro e w1 ⟨rfl, hb1⟩
    have HT1 := Lib.hid (HT.out.step hb1)
    go_wp2_with (go_at_call 11; refine (lives_any _).mono ?_; rintro e w9 ⟨rfl, hb9⟩)
    go_ret
    exact ⟨rfl, (HT1.out.step hb9).below⟩
  all_goals
    go_enter Try.func6, Try.ntmps6
    go_wp2_with fail
    refine (G0.out _).mono ?_; rintro e w1 ⟨rfl, hb1⟩
    have HT1 := Lib.hid (HT.out.step hb1)
    obtain ⟨⟨a0, a1⟩, ⟨b0, b1⟩, _⟩ := HT1.out
    go_wp2_with fail
    refine (G1.out _).mono ?_; rintro e w2 ⟨rfl, hb2⟩
    have HT2 := Lib.hid (HT1.out.step hb2)
    go_wp2_with (go_at_call 11; refine (lives_any _).mono ?_; rintro e w9 ⟨rfl, hb9⟩)
    go_ret
    exact ⟨rfl, (HT2.out.step hb9).below⟩
theorem meet_sizes {f t g u : ByteArray} (hf : f.size ≤ 100) (ht : t.size ≤ 100) (hg : g.size ≤ 100) (hu : u.size ≤ 100) : (meetF f t g u).size ≤ 100 ∧ (meetT f t g u).size ≤ 100 := by
  unfold meetF meetT
  constructor
  · split
    · exact bmx_size hf hg
    · exact Nat.zero_le _
  · split
    · exact bmn_size ht hu
    · exact Nat.zero_le _
theorem meet_law (f t g u k : ByteArray) : (cont f.data.toList t.data.toList k.data.toList && cont g.data.toList u.data.toList k.data.toList) = (meet f.data.toList t.data.toList g.data.toList u.data.toList && cont (meetF f t g u).data.toList (meetT f t g u).data.toList k.data.toList) := by
  rw [both_cont, ← bmx_list, ← bmn_list]
  unfold meetF meetT
  cases meet f.data.toList t.data.toList g.data.toList u.data.toList
  · rfl
  · rfl
theorem keysIntersects_walk (f t g u k : ByteArray) (w : World) :
    Calls Try.prog 6 #[.agg #[.string f, .string t], .agg #[.string g, .string u], .string k] w fun e w' => e = .returned (.bool true) ∧ Below w.heap.size w w' := by
  have g0 := short_any f t
  have g1 := short_any g u
  rcases short_cases (decide (f.size ≤ 100) && decide (t.size ≤ 100)) (decide (g.size ≤ 100) && decide (u.size ≤ 100)) k with ⟨h1, h2, hk⟩ | h
  · obtain ⟨hf, ht⟩ := short_sizes h1
    obtain ⟨hg, hu⟩ := short_sizes h2
    rw [h1] at g0
    rw [h2] at g1
    obtain ⟨hx, hy⟩ := meet_sizes hf ht hg hu
    exact meets_core f t g u k (meetF f t g u) (meetT f t g u) (meet f.data.toList t.data.toList g.data.toList u.data.toList) (cont f.data.toList t.data.toList k.data.toList) (cont g.data.toList u.data.toList k.data.toList) _ (meet_law f t g u k) hk w g0 g1
      (intersect_any f t g u (by omega) (by omega) (by omega) (by omega)) (rintersect_any f t g u (by omega) (by omega) (by omega) (by omega)) (contains_any f t k (by omega) (by omega)) (contains_any g u k (by omega) (by omega)) (contains_any _ _ k (by omega) (by omega))
  · exact meets_out f t g u k _ _ h w g0 g1
end Go.Proofs.Ytbakojnapikfeaa
