/-
  Laws of layer 5, walked over whatever the program's own functions return: Compare.
-/
import Derived.Test.YtcedndjpdgpdgaaDoorVLawsA
namespace Go.Proofs.YtcedndjpdgpdgaaDoor.V
open Go.RowKit

/-- w1 holds three values, boxed when the world was w -/
structure Three (w w1 : World) (k n : Int) (s : ByteArray) (l m : Int) (t : ByteArray) (i j : Int) (u : ByteArray) : Prop where
  one : Has w1 w.heap.size k n s
  two : Has w1 (w.heap.size + 1) l m t
  three : Has w1 (w.heap.size + 1 + 1) i j u
  below : Below w.heap.size w w1
  size : w.heap.size + 3 ≤ w1.heap.size
theorem Three.new (w : World) (k n : Int) (s : ByteArray) (l m : Int) (t : ByteArray) (i j : Int) (u : ByteArray) :
    Three w (((w.alloc (.cells #[.int .i64 k, .int .i64 n, .string s] 23)).alloc (.cells #[.int .i64 l, .int .i64 m, .string t] 23)).alloc (.cells #[.int .i64 i, .int .i64 j, .string u] 23)) k n s l m t i j u :=
  ⟨((Has.box w k n s).alloc (by simp) _).alloc (by simp; omega) _, (Has.box2 w _ l m t).alloc (by simp) _, ⟨by go_simp, by go_simp, by go_simp⟩, below_2 (below_box2 w _ _) (below_box _ _), by simp⟩
theorem Three.step {w w1 w2 : World} {k n : Int} {s : ByteArray} {l m : Int} {t : ByteArray} {i j : Int} {u : ByteArray} (h : Three w w1 k n s l m t i j u) (hb : Below w1.heap.size w1 w2) : Three w w2 k n s l m t i j u := by
  have hs := h.size
  have hz := hb.size
  exact ⟨h.one.below hb (by omega), h.two.below hb (by omega), h.three.below hb (by omega), below_2 h.below hb, by omega⟩
set_option maxHeartbeats 2000000 in
set_option maxRecDepth 100000 in
theorem compares_core (k n : Int) (s : ByteArray) (l m : Int) (t : ByteArray) (i j : Int) (u : ByteArray) (X Y Z : Int) (hs : s.size ≤ 300) (ht : t.size ≤ 300) (hu : u.size ≤ 300) (hX : -1 ≤ X ∧ X ≤ 1) (htra : 0 < X ∨ 0 < Y ∨ Z ≤ 0)
    (hE : (X = 0 ∧ k = l ∧ n = m ∧ s = t) ∨ (X ≠ 0 ∧ ((k == l) && ((n == m) && (s.toList == t.toList))) = false)) (O : Own) (w : World) (hT : Tab w)
    (g1 : ∀ w, Tab w → Calls Tryd.prog 18 #[.agg #[.int .i64 k, .int .i64 n, .string s], .agg #[.int .i64 l, .int .i64 m, .string t]] w fun e w' => e = .returned (.int .i64 X) ∧ Below w.heap.size w w')
    (g2 : ∀ w, Tab w → Calls Tryd.prog 18 #[.agg #[.int .i64 l, .int .i64 m, .string t], .agg #[.int .i64 i, .int .i64 j, .string u]] w fun e w' => e = .returned (.int .i64 Y) ∧ Below w.heap.size w w')
    (g3 : ∀ w, Tab w → Calls Tryd.prog 18 #[.agg #[.int .i64 k, .int .i64 n, .string s], .agg #[.int .i64 i, .int .i64 j, .string u]] w fun e w' => e = .returned (.int .i64 Z) ∧ Below w.heap.size w w')
    (g4 : ∀ w, Calls Tryd.prog 19 #[.agg #[.int .i64 k, .int .i64 n, .string s], .agg #[.int .i64 l, .int .i64 m, .string t]] w fun e w' => e = .returned (.int .i64 X) ∧ Below w.heap.size w w')
    (g5 : ∀ w, Tab w → Calls Tryd.prog 18 #[.agg #[.int .i64 l, .int .i64 m, .string t], .agg #[.int .i64 k, .int .i64 n, .string s]] w fun e w' => e = .returned (.int .i64 (-X)) ∧ Below w.heap.size w w') :
    Calls Tryd.prog 4 #[.agg #[.int .i64 k, .int .i64 n, .string s], .agg #[.int .i64 l, .int .i64 m, .string t], .agg #[.int .i64 i, .int .i64 j, .string u]] w fun e w' => e = .returned (.bool true) ∧ Below w.heap.size w w' := by
  have H0 := Three.new w k n s l m t i j u
  have hT1 := hT.below H0.below
  obtain ⟨r0, r1, r2⟩ := grown_has H0.one
  obtain ⟨r3, r4, r5⟩ := grown_has H0.two
  obtain ⟨r6, r7, r8⟩ := grown_has H0.three
  have C1 := Lib.hid (grown hT1 g1)
  have C2 := Lib.hid (grown hT1 g2)
  have C3 := Lib.hid (grown hT1 g3)
  have G4 := Lib.hid g4
  have G5 := Lib.hid g5
  have HW := Lib.hid (works_any O)
  have HT := Lib.hid hT
  have HH := Lib.hid H0
  have HE := Lib.hid hE
  have HTR := Lib.hid htra
  clear g1 g2 g3 g4 g5 O hT H0 hT1 hE htra
  go_enter Tryd.func4, Tryd.ntmps4
  go_wp2_with fail
  refine wp_region_quiet_below (by kernel_rfl) (by kernel_rfl) ?_
  repeat (go_big_quiet_step (first | with_reducible exact C1.out _ _ | with_reducible exact C2.out _ _ | with_reducible exact C3.out _ _))
  refine wpQuiet_nil ?_
  intro w1 hw'
  have hb1 : Below (((w.alloc (.cells #[.int .i64 k, .int .i64 n, .string s] 23)).alloc (.cells #[.int .i64 l, .int .i64 m, .string t] 23)).alloc (.cells #[.int .i64 i, .int .i64 j, .string u] 23)).heap.size (((w.alloc (.cells #[.int .i64 k, .int .i64 n, .string s] 23)).alloc (.cells #[.int .i64 l, .int .i64 m, .string t] 23)).alloc (.cells #[.int .i64 i, .int .i64 j, .string u] 23)) w1 := by
    obtain ⟨⟨dq, osq⟩, hw''⟩ := hw'
    rw [hw'']
    exact below_regrown _ dq osq
  clear hw' r0 r1 r2 r3 r4 r5 r6 r7 r8
  have H1 := Lib.hid (HH.out.step hb1)
  obtain ⟨⟨a0, a1, a2⟩, ⟨b0, b1, b2⟩, _⟩ := H1.out
  go_wp2_with fail
  refine (G4.out _).mono ?_; rintro e w2 ⟨rfl, hb2⟩
  have H2 := Lib.hid (H1.out.step hb2)
  clear a0 a1 a2 b0 b1 b2
  obtain ⟨⟨a0, a1, a2⟩, ⟨b0, b1, b2⟩, _⟩ := H2.out
  go_wp2_with fail
  refine (G5.out _ (HT.out.below H2.out.below)).mono ?_; rintro e w3 ⟨rfl, hb3⟩
  have H3 := Lib.hid (H2.out.step hb3)
  clear a0 a1 a2 b0 b1 b2
  obtain ⟨⟨a0, a1, a2⟩, ⟨b0, b1, b2⟩, _⟩ := H3.out
  rcases HE.out with ⟨h1, rfl, rfl, rfl⟩ | ⟨h1, h2⟩
  · subst h1
    go_wp2_with fail
    all_goals first
      | (exfalso; have htr := HTR.out; clear C1 C2 C3 G4 G5 HW; omega)
      | (go_at_call 11; refine (HW.out _ (HT.out.below H3.out.below)).mono ?_; rintro e w9 ⟨rfl, hb9⟩; go_wp2_with fail; go_ret; exact ⟨by first | rfl | (show Ending.returned (Value.bool _) = Ending.returned (Value.bool true); refine congrArg (fun b => Ending.returned (Value.bool b)) ?_; simp only [Bool.or_eq_true, decide_eq_true_eq]; omega), below_2 H3.out.below hb9⟩)
  · have HN := Lib.hid h2
    clear h2
    go_wp2_with fail
    all_goals first
      | (exfalso; have htr := HTR.out; clear C1 C2 C3 G4 G5 HW; omega)
      | (go_at_call 11; refine (HW.out _ (HT.out.below H3.out.below)).mono ?_; rintro e w9 ⟨rfl, hb9⟩; go_wp2_with fail; go_ret; exact ⟨by first | rfl | (show Ending.returned (Value.bool _) = Ending.returned (Value.bool true); refine congrArg (fun b => Ending.returned (Value.bool b)) ?_; simp only [Bool.or_eq_true, decide_eq_true_eq]; omega), below_2 H3.out.below hb9⟩)
      | (exfalso; have hn := HN.out; have e1 : k = l := by assumption
         have e2 : n = m := by assumption
         have e3 : s.toList = t.toList := by assumption
         rw [e1, e2, e3] at hn; simp at hn)
theorem cmp_range (a b : Val) : -1 ≤ cmp a b ∧ cmp a b ≤ 1 := by
  unfold cmp
  split
  · omega
  · split <;> omega
theorem cmp_same (k n : Int) (s : ByteArray) (l m : Int) (t : ByteArray) :
    (cmp ⟨k, n, s.data.toList⟩ ⟨l, m, t.data.toList⟩ = 0 ∧ k = l ∧ n = m ∧ s = t) ∨ (cmp ⟨k, n, s.data.toList⟩ ⟨l, m, t.data.toList⟩ ≠ 0 ∧ ((k == l) && ((n == m) && (s.toList == t.toList))) = false) := by
  by_cases h : cmp ⟨k, n, s.data.toList⟩ ⟨l, m, t.data.toList⟩ = 0
  · have he := (cmp_zero _ _).1 h
    injection he with h1 h2 h3
    exact Or.inl ⟨h, h1, h2, bytes_eq h3⟩
  · refine Or.inr ⟨h, ?_⟩
    cases hb : ((k == l) && ((n == m) && (s.toList == t.toList)))
    · rfl
    · exfalso
      rw [Bool.and_eq_true, Bool.and_eq_true, beq_iff_eq, beq_iff_eq, beq_iff_eq, Lib.toList_data, Lib.toList_data] at hb
      obtain ⟨h1, h2, h3⟩ := hb
      exact h ((cmp_zero _ _).2 (Val.eq h1 h2 h3))
set_option maxHeartbeats 1000000 in
set_option maxRecDepth 100000 in
theorem compares_walk (O : Own) (k n : Int) (s : ByteArray) (l m : Int) (t : ByteArray) (i j : Int) (u : ByteArray) (w : World) (hT : Tab w) :
    Calls Tryd.prog 4 #[.agg #[.int .i64 k, .int .i64 n, .string s], .agg #[.int .i64 l, .int .i64 m, .string t], .agg #[.int .i64 i, .int .i64 j, .string u]] w fun e w' => e = .returned (.bool true) ∧ Below w.heap.size w w' := by
  by_cases h : s.size ≤ 300 ∧ t.size ≤ 300 ∧ u.size ≤ 300
  · obtain ⟨hs, ht, hu⟩ := h
    have htra : 0 < cmp ⟨k, n, s.data.toList⟩ ⟨l, m, t.data.toList⟩ ∨ 0 < cmp ⟨l, m, t.data.toList⟩ ⟨i, j, u.data.toList⟩ ∨ cmp ⟨k, n, s.data.toList⟩ ⟨i, j, u.data.toList⟩ ≤ 0 := by
      have := cmp_tra ⟨k, n, s.data.toList⟩ ⟨l, m, t.data.toList⟩ ⟨i, j, u.data.toList⟩
      omega
    have g5 := O.compare l m t k n s
    rw [cmp_neg ⟨k, n, s.data.toList⟩ ⟨l, m, t.data.toList⟩] at g5
    exact compares_core k n s l m t i j u _ _ _ hs ht hu (cmp_range _ _) htra (cmp_same k n s l m t) O w hT (O.compare k n s l m t) (O.compare l m t i j u) (O.compare k n s i j u) (rcompare_any k n s l m t) g5
  · have H0 := Three.new w k n s l m t i j u
    have hb := H0.below
    obtain ⟨⟨a0, a1, a2⟩, ⟨b0, b1, b2⟩, ⟨c0, c1, c2⟩, _, _⟩ := H0
    have HW := Lib.hid (works_any O _ (hT.below hb))
    have HB := Lib.hid hb
    clear O hT hb
    by_cases hs : s.size ≤ 300
    · by_cases ht : t.size ≤ 300
      · have hu : ¬ u.size ≤ 300 := fun x => h ⟨hs, ht, x⟩
        clear h
        go_enter Tryd.func4, Tryd.ntmps4
        go_wp2_with (go_at_call 11; refine HW.out.mono ?_; rintro e w9 ⟨rfl, hb9⟩)
        go_ret
        exact ⟨rfl, below_2 HB.out hb9⟩
      · clear h
        go_enter Tryd.func4, Tryd.ntmps4
        go_wp2_with (go_at_call 11; refine HW.out.mono ?_; rintro e w9 ⟨rfl, hb9⟩)
        go_ret
        exact ⟨rfl, below_2 HB.out hb9⟩
    · clear h
      go_enter Tryd.func4, Tryd.ntmps4
      go_wp2_with (go_at_call 11; refine HW.out.mono ?_; rintro e w9 ⟨rfl, hb9⟩)
      go_ret
      exact ⟨rfl, below_2 HB.out hb9⟩
end Go.Proofs.YtcedndjpdgpdgaaDoor.V
