/-
  Laws of layer 5, walked over whatever the program's own functions return: Parse, Encode, Decode, Format; Valid, Int and Str.
-/
import Derived.Test.YtcedndjpdgpdgaaDoorVLaws
namespace Go.Proofs.YtcedndjpdgpdgaaDoor.V
open Go.RowKit

/-! ### Parse -/

set_option maxRecDepth 100000 in
theorem parses_core (s t : ByteArray) (k n E : Int) (hs : s.size ≤ 300) (O : Own) (w : World) (hT : Tab w)
    (g1 : ∀ w, Tab w → Calls Tryd.prog 22 #[.string s] w fun e w' => e = .returned (.tuple #[.agg #[.int .i64 k, .int .i64 n, .string t], .int .i64 E]) ∧ Below w.heap.size w w')
    (g2 : ∀ w, Calls Tryd.prog 23 #[.string s] w fun e w' => e = .returned (.tuple #[.agg #[.int .i64 k, .int .i64 n, .string t], .int .i64 E]) ∧ Below w.heap.size w w') :
    Calls Tryd.prog 6 #[.string s] w fun e w' => e = .returned (.bool true) ∧ Below w.heap.size w w' := by
  have G1 := Lib.hid g1
  have G2 := Lib.hid g2
  have HW := Lib.hid (works_any O)
  have HT := Lib.hid hT
  clear g1 g2 O hT
  go_enter Tryd.func6, Tryd.ntmps6
  go_wp2_with fail
  refine (G1.out _ HT.out).mono ?_; rintro e w1 ⟨rfl, hb1⟩
  have HX := Lib.hid (Has.box w1 k n t)
  go_wp2_with fail
  refine (G2.out _).mono ?_; rintro e w2 ⟨rfl, hb2⟩
  have hbw := below_2 (below_2 hb1 (below_box w1 _)) (below_2 hb2 (below_box w2 (.cells #[.int .i64 k, .int .i64 n, .string t] 23)))
  obtain ⟨c0, c1, c2⟩ := (HX.out.below hb2 (by simp)).alloc (by have := hb2.size; simp at this; omega) (.cells #[.int .i64 k, .int .i64 n, .string t] 23)
  go_wp2_with (go_at_call 11; refine (HW.out _ (HT.out.below hbw)).mono ?_; rintro e w9 ⟨rfl, hb9⟩)
  go_ret
  exact ⟨rfl, below_2 hbw hb9⟩
set_option maxRecDepth 100000 in
theorem parses_walk (O : Own) (s : ByteArray) (hs : s.size ≤ 9223372036854775807) (w : World) (hT : Tab w) :
    Calls Tryd.prog 6 #[.string s] w fun e w' => e = .returned (.bool true) ∧ Below w.heap.size w w' := by
  by_cases h : s.size ≤ 300
  · exact parses_core s _ _ _ _ h O w hT (O.ps s (by omega)) (rps_any s (by omega))
  · have HW := Lib.hid (works_any O w hT)
    clear O hT
    go_enter Tryd.func6, Tryd.ntmps6
    go_wp2_with (go_at_call 11; refine HW.out.mono ?_; rintro e w9 ⟨rfl, hb9⟩)
    go_ret
    exact ⟨rfl, hb9⟩

/-! ### Decode -/

set_option maxRecDepth 100000 in
theorem decodes_core (s t : ByteArray) (a k n N E : Int) (hs : s.size ≤ 300) (O : Own) (w : World) (hT : Tab w)
    (g1 : ∀ w, Tab w → Calls Tryd.prog 26 #[.string s, .int .i64 a] w fun e w' => e = .returned (.tuple #[.agg #[.int .i64 k, .int .i64 n, .string t], .int .i64 N, .int .i64 E]) ∧ Below w.heap.size w w')
    (g2 : ∀ w, Calls Tryd.prog 27 #[.string s, .int .i64 a] w fun e w' => e = .returned (.tuple #[.agg #[.int .i64 k, .int .i64 n, .string t], .int .i64 N, .int .i64 E]) ∧ Below w.heap.size w w') :
    Calls Tryd.prog 8 #[.string s, .int .i64 a] w fun e w' => e = .returned (.bool true) ∧ Below w.heap.size w w' := by
  have G1 := Lib.hid g1
  have G2 := Lib.hid g2
  have HW := Lib.hid (works_any O)
  have HT := Lib.hid hT
  clear g1 g2 O hT
  go_enter Tryd.func8, Tryd.ntmps8
  go_wp2_with fail
  refine (G1.out _ HT.out).mono ?_; rintro e w1 ⟨rfl, hb1⟩
  have HX := Lib.hid (Has.box w1 k n t)
  go_wp2_with fail
  refine (G2.out _).mono ?_; rintro e w2 ⟨rfl, hb2⟩
  have hbw := below_2 (below_2 hb1 (below_box w1 _)) (below_2 hb2 (below_box w2 (.cells #[.int .i64 k, .int .i64 n, .string t] 23)))
  obtain ⟨c0, c1, c2⟩ := (HX.out.below hb2 (by simp)).alloc (by have := hb2.size; simp at this; omega) (.cells #[.int .i64 k, .int .i64 n, .string t] 23)
  go_wp2_with (go_at_call 11; refine (HW.out _ (HT.out.below hbw)).mono ?_; rintro e w9 ⟨rfl, hb9⟩)
  go_ret
  exact ⟨rfl, below_2 hbw hb9⟩
set_option maxRecDepth 100000 in
theorem decodes_walk (O : Own) (s : ByteArray) (hs : s.size ≤ 9223372036854775807) (a : Int) (h0 : -9223372036854775808 ≤ a) (h1 : a ≤ 9223372036854775807) (w : World) (hT : Tab w) :
    Calls Tryd.prog 8 #[.string s, .int .i64 a] w fun e w' => e = .returned (.bool true) ∧ Below w.heap.size w w' := by
  by_cases h : s.size ≤ 300
  · exact decodes_core s _ a _ _ _ _ h O w hT (O.ds s (by omega) a h0 h1) (rdec_any s (by omega) a h0 h1)
  · have HW := Lib.hid (works_any O w hT)
    clear O hT
    go_enter Tryd.func8, Tryd.ntmps8
    go_wp2_with (go_at_call 11; refine HW.out.mono ?_; rintro e w9 ⟨rfl, hb9⟩)
    go_ret
    exact ⟨rfl, hb9⟩

/-! ### Encode -/

set_option maxHeartbeats 1000000 in
set_option maxRecDepth 100000 in
theorem encodes_core (k n : Int) (s t : ByteArray) (hs : s.size ≤ 300) (O : Own) (w : World) (hT : Tab w)
    (g1 : ∀ w, Tab w → Calls Tryd.prog 24 #[.agg #[.int .i64 k, .int .i64 n, .string s]] w fun e w' => e = .returned (.string t) ∧ Below w.heap.size w w')
    (g2 : ∀ w, Calls Tryd.prog 25 #[.agg #[.int .i64 k, .int .i64 n, .string s]] w fun e w' => e = .returned (.string t) ∧ Below w.heap.size w w') :
    Calls Tryd.prog 7 #[.agg #[.int .i64 k, .int .i64 n, .string s]] w fun e w' => e = .returned (.bool true) ∧ Below w.heap.size w w' := by
  have hb := below_box w (.cells #[.int .i64 k, .int .i64 n, .string s] 23)
  have hT1 := hT.below hb
  obtain ⟨r0, r1, r2⟩ := grown_has (Has.box w k n s)
  have C1 := Lib.hid (grown hT1 g1)
  have C2 := Lib.hid (grown' (W := w.alloc (.cells #[.int .i64 k, .int .i64 n, .string s] 23)) g2)
  have C3 := Lib.hid (grown hT1 (works_any O))
  have HB := Lib.hid hb
  clear g1 g2 O hT hT1 hb
  go_enter Tryd.func7, Tryd.ntmps7
  go_wp2_with fail
  refine wp_region_quiet_below (by kernel_rfl) (by kernel_rfl) ?_
  repeat (go_big_quiet_step (first | with_reducible exact C1.out _ _ | with_reducible exact C2.out _ _ | with_reducible exact C3.out _ _))
  refine wpQuiet_nil ?_
  intro _ hw'
  obtain ⟨⟨dq, osq⟩, hw''⟩ := hw'
  subst hw''
  go_wp2_with fail
  go_ret
  exact ⟨rfl, below_2 HB.out (below_regrown _ _ _)⟩
set_option maxRecDepth 100000 in
theorem encodes_walk (O : Own) (k n : Int) (h0 : -9223372036854775808 ≤ n) (h1 : n ≤ 9223372036854775807) (s : ByteArray) (w : World) (hT : Tab w) :
    Calls Tryd.prog 7 #[.agg #[.int .i64 k, .int .i64 n, .string s]] w fun e w' => e = .returned (.bool true) ∧ Below w.heap.size w w' := by
  by_cases h : s.size ≤ 300
  · exact encodes_core k n s _ h O w hT (O.enc k n s h0 h1 (by omega)) (renc_any k n h0 h1 s (by omega))
  · have hb := below_box w (.cells #[.int .i64 k, .int .i64 n, .string s] 23)
    have HW := Lib.hid (works_any O _ (hT.below hb))
    have HB := Lib.hid hb
    clear O hT hb
    go_enter Tryd.func7, Tryd.ntmps7
    go_wp2_with (go_at_call 11; refine HW.out.mono ?_; rintro e w9 ⟨rfl, hb9⟩)
    go_ret
    exact ⟨rfl, below_2 HB.out hb9⟩

/-! ### Format -/

set_option maxHeartbeats 1000000 in
set_option maxRecDepth 100000 in
theorem formats_core (k n : Int) (s t : ByteArray) (V : Bool) (he : t.toList.isEmpty = !V) (hs : s.size ≤ 300) (O : Own) (w : World) (hT : Tab w)
    (g1 : ∀ w, Tab w → Calls Tryd.prog 20 #[.agg #[.int .i64 k, .int .i64 n, .string s]] w fun e w' => e = .returned (.string t) ∧ Below w.heap.size w w')
    (g2 : ∀ w, Calls Tryd.prog 21 #[.agg #[.int .i64 k, .int .i64 n, .string s]] w fun e w' => e = .returned (.string t) ∧ Below w.heap.size w w')
    (g4 : ∀ w, Calls Tryd.prog 15 #[.agg #[.int .i64 k, .int .i64 n, .string s]] w fun e w' => e = .returned (.bool V) ∧ Below w.heap.size w w') :
    Calls Tryd.prog 5 #[.agg #[.int .i64 k, .int .i64 n, .string s]] w fun e w' => e = .returned (.bool true) ∧ Below w.heap.size w w' := by
  have hb := below_box w (.cells #[.int .i64 k, .int .i64 n, .string s] 23)
  have hT1 := hT.below hb
  obtain ⟨r0, r1, r2⟩ := grown_has (Has.box w k n s)
  have C1 := Lib.hid (grown hT1 g1)
  have C2 := Lib.hid (grown' (W := w.alloc (.cells #[.int .i64 k, .int .i64 n, .string s] 23)) g2)
  have C3 := Lib.hid (grown hT1 (works_any O))
  have C4 := Lib.hid (grown' (W := w.alloc (.cells #[.int .i64 k, .int .i64 n, .string s] 23)) g4)
  have HB := Lib.hid hb
  clear g1 g2 g4 O hT hT1 hb
  cases V
  all_goals
    simp only [Bool.not_false, Bool.not_true] at he
    go_enter Tryd.func5, Tryd.ntmps5
    go_wp2_with fail
    refine wp_region_quiet_below (by kernel_rfl) (by kernel_rfl) ?_
    repeat (go_big_quiet_step (first | with_reducible exact C1.out _ _ | with_reducible exact C2.out _ _ | with_reducible exact C3.out _ _ | with_reducible exact C4.out _ _))
    refine wpQuiet_nil ?_
    intro _ hw'
    obtain ⟨⟨dq, osq⟩, hw''⟩ := hw'
    subst hw''
    go_wp2_with fail
    go_ret
    exact ⟨rfl, below_2 HB.out (below_regrown _ _ _)⟩
theorem fmt_empty (v : Val) : (ByteArray.mk (fmt v).toArray).toList.isEmpty = !valid v := by
  rw [empty_iff]
  have h := fmt_ne (v := v)
  show decide (fmt v = []) = _
  cases hv : valid v
  · have : fmt v = [] := fmt_no hv
    rw [this]; rfl
  · have := h.2 hv
    rw [decide_eq_false this]; rfl
set_option maxRecDepth 100000 in
theorem formats_walk (O : Own) (k n : Int) (h0 : -9223372036854775808 ≤ n) (h1 : n ≤ 9223372036854775807) (s : ByteArray) (w : World) (hT : Tab w) :
    Calls Tryd.prog 5 #[.agg #[.int .i64 k, .int .i64 n, .string s]] w fun e w' => e = .returned (.bool true) ∧ Below w.heap.size w w' := by
  by_cases h : s.size ≤ 300
  · exact formats_core k n s _ _ (fmt_empty _) h O w hT (O.fmt k n s h0 h1 (by omega)) (rfmt_any k n h0 h1 s (by omega)) (rvalid_any k n s (by omega))
  · have hb := below_box w (.cells #[.int .i64 k, .int .i64 n, .string s] 23)
    have HW := Lib.hid (works_any O _ (hT.below hb))
    have HB := Lib.hid hb
    clear O hT hb
    go_enter Tryd.func5, Tryd.ntmps5
    go_wp2_with (go_at_call 11; refine HW.out.mono ?_; rintro e w9 ⟨rfl, hb9⟩)
    go_ret
    exact ⟨rfl, below_2 HB.out hb9⟩

/-! ### Valid, Int and Str -/

def strK (s : ByteArray) : Int := if plain s.data.toList then 2 else 0
def strS (s : ByteArray) : ByteArray := if plain s.data.toList then s else ⟨#[]⟩
def strE (s : ByteArray) : Int := if plain s.data.toList then 0 else 1
theorem strV_parts (s : ByteArray) : strV s = .tuple #[.agg #[.int .i64 (strK s), .int .i64 0, .string (strS s)], .int .i64 (strE s)] := by
  unfold strV strK strS strE
  cases plain s.data.toList <;> rfl
theorem str_valid (s : ByteArray) : valid ⟨strK s, 0, (strS s).data.toList⟩ = true := by
  unfold strK strS
  cases hp : plain s.data.toList
  · exact valid_iff.2 (Or.inl ⟨rfl, rfl, rfl⟩)
  · exact valid_iff.2 (Or.inr (Or.inr ⟨rfl, rfl, hp⟩))
theorem strS_size {s : ByteArray} {m : Nat} (h : s.size ≤ m) : (strS s).size ≤ m := by
  unfold strS
  split
  · exact h
  · exact Nat.zero_le _
set_option maxHeartbeats 2000000 in
set_option maxRecDepth 100000 in
theorem makes_core (k n : Int) (s : ByteArray) (m : Int) (t u : ByteArray) (l E : Int) (V : Bool) (hs : s.size ≤ 300) (ht : t.size ≤ 300) (O : Own) (w : World) (hT : Tab w)
    (g1 : ∀ w, Tab w → Calls Tryd.prog 12 #[.string t] w fun e w' => e = .returned (.tuple #[.agg #[.int .i64 l, .int .i64 0, .string u], .int .i64 E]) ∧ Below w.heap.size w w')
    (g2 : ∀ w, Calls Tryd.prog 13 #[.string t] w fun e w' => e = .returned (.tuple #[.agg #[.int .i64 l, .int .i64 0, .string u], .int .i64 E]) ∧ Below w.heap.size w w')
    (g3 : ∀ w, Tab w → Calls Tryd.prog 14 #[.agg #[.int .i64 k, .int .i64 n, .string s]] w fun e w' => e = .returned (.bool V) ∧ Below w.heap.size w w')
    (g4 : ∀ w, Calls Tryd.prog 15 #[.agg #[.int .i64 k, .int .i64 n, .string s]] w fun e w' => e = .returned (.bool V) ∧ Below w.heap.size w w')
    (g5 : ∀ w, Tab w → Calls Tryd.prog 16 #[.int .i64 m] w fun e w' => e = .returned (.agg #[.int .i64 1, .int .i64 m, .string ⟨#[]⟩]) ∧ Below w.heap.size w w')
    (g6 : ∀ w, Calls Tryd.prog 17 #[.int .i64 m] w fun e w' => e = .returned (.agg #[.int .i64 1, .int .i64 m, .string ⟨#[]⟩]) ∧ Below w.heap.size w w')
    (g7 : ∀ w, Tab w → Calls Tryd.prog 14 #[.agg #[.int .i64 1, .int .i64 m, .string ⟨#[]⟩]] w fun e w' => e = .returned (.bool true) ∧ Below w.heap.size w w')
    (g8 : ∀ w, Tab w → Calls Tryd.prog 14 #[.agg #[.int .i64 l, .int .i64 0, .string u]] w fun e w' => e = .returned (.bool true) ∧ Below w.heap.size w w') :
    Calls Tryd.prog 3 #[.agg #[.int .i64 k, .int .i64 n, .string s], .int .i64 m, .string t] w fun e w' => e = .returned (.bool true) ∧ Below w.heap.size w w' := by
  have G1 := Lib.hid g1
  have G2 := Lib.hid g2
  have G3 := Lib.hid g3
  have G4 := Lib.hid g4
  have G5 := Lib.hid g5
  have G6 := Lib.hid g6
  have G7 := Lib.hid g7
  have G8 := Lib.hid g8
  have HW := Lib.hid (works_any O)
  have HT := Lib.hid hT
  have HV := Lib.hid (Has.box w k n s)
  have HB := Lib.hid (below_box w (.cells #[.int .i64 k, .int .i64 n, .string s] 23))
  clear g1 g2 g3 g4 g5 g6 g7 g8 O hT
  go_enter Tryd.func3, Tryd.ntmps3
  go_wp2_with fail
  refine (G1.out _ (HT.out.below HB.out)).mono ?_; rintro e w1 ⟨rfl, hb1⟩
  have HX := Lib.hid (Has.box w1 l 0 u)
  have HV1 := Lib.hid ((HV.out.below hb1 (by simp)).alloc (by have := hb1.size; simp at this; omega) (.cells #[.int .i64 l, .int .i64 0, .string u] 23))
  have B1 := Lib.hid (below_2 (below_2 HB.out hb1) (below_box w1 (.cells #[.int .i64 l, .int .i64 0, .string u] 23)))
  go_wp2_with fail
  refine (G2.out _).mono ?_; rintro e w2 ⟨rfl, hb2⟩
  have hs1 := hb1.size
  have hs2 := hb2.size
  simp at hs1 hs2
  have B2 := Lib.hid (below_2 (below_2 B1.out hb2) (below_box w2 (.cells #[.int .i64 l, .int .i64 0, .string u] 23)))
  obtain ⟨r0, r1, r2⟩ := grown_has ((HV1.out.below hb2 (by simp; omega)).alloc (by omega) (.cells #[.int .i64 l, .int .i64 0, .string u] 23))
  obtain ⟨r3, r4, r5⟩ := grown_has ((HX.out.below hb2 (by simp)).alloc (by omega) (.cells #[.int .i64 l, .int .i64 0, .string u] 23))
  obtain ⟨r6, r7, r8⟩ := grown_has (Has.box w2 l 0 u)
  clear hs1 hs2
  have HT2 := Lib.hid (HT.out.below B2.out)
  have C3 := Lib.hid (grown HT2.out G3.out)
  have C4 := Lib.hid (grown' (W := w2.alloc (.cells #[.int .i64 l, .int .i64 0, .string u] 23)) G4.out)
  have C5 := Lib.hid (grown HT2.out G5.out)
  have C6 := Lib.hid (grown' (W := w2.alloc (.cells #[.int .i64 l, .int .i64 0, .string u] 23)) G6.out)
  have C7 := Lib.hid (grown HT2.out G7.out)
  have C8 := Lib.hid (grown HT2.out G8.out)
  have C9 := Lib.hid (grown HT2.out HW.out)
  go_wp2_with fail
  refine wp_region_quiet_below (by kernel_rfl) (by kernel_rfl) ?_
  repeat (go_big_quiet_step (first | with_reducible exact C3.out _ _ | with_reducible exact C4.out _ _ | with_reducible exact C5.out _ _ | with_reducible exact C6.out _ _ | with_reducible exact C7.out _ _ | with_reducible exact C8.out _ _ | with_reducible exact C9.out _ _))
  refine wpQuiet_nil ?_
  intro _ hw'
  obtain ⟨⟨dq, osq⟩, hw''⟩ := hw'
  subst hw''
  go_wp2_with fail
  go_ret
  exact ⟨rfl, below_2 B2.out (below_regrown _ _ _)⟩
set_option maxRecDepth 100000 in
theorem makes_walk (O : Own) (k n : Int) (s : ByteArray) (m : Int) (t : ByteArray) (w : World) (hT : Tab w) :
    Calls Tryd.prog 3 #[.agg #[.int .i64 k, .int .i64 n, .string s], .int .i64 m, .string t] w fun e w' => e = .returned (.bool true) ∧ Below w.heap.size w w' := by
  by_cases h : s.size ≤ 300 ∧ t.size ≤ 300
  · obtain ⟨hs, ht⟩ := h
    have g1 := O.str t (by omega)
    have g2 := rstr_any t (by omega)
    rw [strV_parts] at g1 g2
    have g7 := O.valid 1 m ⟨#[]⟩ (by decide)
    have g8 := O.valid (strK t) 0 (strS t) (strS_size (by omega))
    rw [str_valid] at g8
    rw [show valid ⟨1, m, (ByteArray.mk #[]).data.toList⟩ = true from valid_iff.2 (Or.inr (Or.inl ⟨rfl, rfl⟩))] at g7
    exact makes_core k n s m t _ _ _ _ hs ht O w hT g1 g2 (O.valid k n s (by omega)) (rvalid_any k n s (by omega)) (O.int m) (rint_any m) g7 g8
  · have hb := below_box w (.cells #[.int .i64 k, .int .i64 n, .string s] 23)
    have HW := Lib.hid (works_any O _ (hT.below hb))
    have HB := Lib.hid hb
    clear O hT hb
    by_cases hs : s.size ≤ 300
    · have ht : ¬ t.size ≤ 300 := fun x => h ⟨hs, x⟩
      clear h
      go_enter Tryd.func3, Tryd.ntmps3
      go_wp2_with (go_at_call 11; refine HW.out.mono ?_; rintro e w9 ⟨rfl, hb9⟩)
      go_ret
      exact ⟨rfl, below_2 HB.out hb9⟩
    · clear h
      go_enter Tryd.func3, Tryd.ntmps3
      go_wp2_with (go_at_call 11; refine HW.out.mono ?_; rintro e w9 ⟨rfl, hb9⟩)
      go_ret
      exact ⟨rfl, below_2 HB.out hb9⟩
end Go.Proofs.YtcedndjpdgpdgaaDoor.V
