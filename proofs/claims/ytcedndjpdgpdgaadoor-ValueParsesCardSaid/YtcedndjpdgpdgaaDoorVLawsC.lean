/-
  Laws of layer 5, walked over whatever the program's own functions return: different values.
-/
import Derived.Test.YtcedndjpdgpdgaaDoorVLawsB
namespace Go.Proofs.YtcedndjpdgpdgaaDoor.V
open Go.RowKit

/-- the first bytes of a string, sliced -/
theorem slice_first (s : ByteArray) (a : Nat) (h : a ≤ s.size) {d : ByteArray} (hd : s.extract 0 a = d) (W : World) :
    (Instr.slice 9 (.string s) none (some (.int .i64 (a : Int))) none).run Tryd.prog W = .ok (.string d) W := by
  have := run_slice_string_h (P := Tryd.prog) W 9 s Tryd.underlying9 .i64 (a : Int) (by omega) (by omega)
  rw [this, ← hd]
  rfl
/-- w1 holds two values, boxed when the world was w -/
structure Two (w w1 : World) (k n : Int) (s : ByteArray) (l m : Int) (t : ByteArray) : Prop where
  one : Has w1 w.heap.size k n s
  two : Has w1 (w.heap.size + 1) l m t
  below : Below w.heap.size w w1
  size : w.heap.size + 2 ≤ w1.heap.size
theorem Two.new (w : World) (k n : Int) (s : ByteArray) (l m : Int) (t : ByteArray) :
    Two w ((w.alloc (.cells #[.int .i64 k, .int .i64 n, .string s] 23)).alloc (.cells #[.int .i64 l, .int .i64 m, .string t] 23)) k n s l m t :=
  ⟨(Has.box w k n s).alloc (by simp) _, Has.box2 w _ l m t, below_box2 w _ _, by simp⟩
theorem Two.step {w w1 w2 : World} {k n : Int} {s : ByteArray} {l m : Int} {t : ByteArray} (h : Two w w1 k n s l m t) (hb : Below w1.heap.size w1 w2) : Two w w2 k n s l m t := by
  have hs := h.size
  have hz := hb.size
  exact ⟨h.one.below hb (by omega), h.two.below hb (by omega), below_2 h.below hb, by omega⟩
set_option maxHeartbeats 2000000 in
set_option maxRecDepth 100000 in
theorem distinct_core (k n : Int) (s : ByteArray) (l m : Int) (t : ByteArray) (F G S T : ByteArray) (VA VB : Bool)
    (hD : VA = true → VB = true → (F.toList == G.toList) = false ∧ S.toList.isEmpty = false ∧ T.toList.isEmpty = false ∧ (S.size ≤ T.size → ((T.extract 0 S.size).toList == S.toList) = false) ∧ (T.size ≤ S.size → ((S.extract 0 T.size).toList == T.toList) = false))
    (hne : ¬ k = l ∨ (k = l ∧ ¬ n = m) ∨ (k = l ∧ n = m ∧ ¬ s.toList = t.toList)) (O : Own) (w : World) (hT : Tab w)
    (g1 : ∀ w, Calls Tryd.prog 15 #[.agg #[.int .i64 k, .int .i64 n, .string s]] w fun e w' => e = .returned (.bool VA) ∧ Below w.heap.size w w')
    (g2 : ∀ w, Calls Tryd.prog 15 #[.agg #[.int .i64 l, .int .i64 m, .string t]] w fun e w' => e = .returned (.bool VB) ∧ Below w.heap.size w w')
    (g3 : VA = true → ∀ w, Tab w → Calls Tryd.prog 24 #[.agg #[.int .i64 k, .int .i64 n, .string s]] w fun e w' => e = .returned (.string S) ∧ Below w.heap.size w w')
    (g4 : VB = true → ∀ w, Tab w → Calls Tryd.prog 24 #[.agg #[.int .i64 l, .int .i64 m, .string t]] w fun e w' => e = .returned (.string T) ∧ Below w.heap.size w w')
    (g5 : VA = true → ∀ w, Tab w → Calls Tryd.prog 20 #[.agg #[.int .i64 k, .int .i64 n, .string s]] w fun e w' => e = .returned (.string F) ∧ Below w.heap.size w w')
    (g6 : VB = true → ∀ w, Tab w → Calls Tryd.prog 20 #[.agg #[.int .i64 l, .int .i64 m, .string t]] w fun e w' => e = .returned (.string G) ∧ Below w.heap.size w w') :
    Calls Tryd.prog 10 #[.agg #[.int .i64 k, .int .i64 n, .string s], .agg #[.int .i64 l, .int .i64 m, .string t]] w fun e w' => e = .returned (.bool true) ∧ Below w.heap.size w w' := by
  have HW := Lib.hid (works_any O)
  have HT := Lib.hid hT
  have H0 := Lib.hid (Two.new w k n s l m t)
  have G1 := Lib.hid g1
  have G2 := Lib.hid g2
  have HD := Lib.hid hD
  clear O hT g1 g2 hD
  rcases hne with h | ⟨rfl, h⟩ | ⟨rfl, rfl, h⟩
  all_goals
    cases VA
    · clear g3 g4 g5 g6
      go_enter Tryd.func10, Tryd.ntmps10
      go_wp2_with fail
      refine (G1.out _).mono ?_; rintro e w2 ⟨rfl, hb2⟩
      have H2 := Lib.hid (H0.out.step hb2)
      go_wp2_with (go_at_call 11; refine (HW.out _ (HT.out.below H2.out.below)).mono ?_; rintro e w9 ⟨rfl, hb9⟩)
      go_ret
      exact ⟨rfl, below_2 H2.out.below hb9⟩
    · cases VB
      · clear g3 g4 g5 g6
        go_enter Tryd.func10, Tryd.ntmps10
        go_wp2_with fail
        refine (G1.out _).mono ?_; rintro e w2 ⟨rfl, hb2⟩
        have H2 := Lib.hid (H0.out.step hb2)
        obtain ⟨⟨a0, a1, a2⟩, ⟨b0, b1, b2⟩, _⟩ := H2.out
        go_wp2_with fail
        refine (G2.out _).mono ?_; rintro e w3 ⟨rfl, hb3⟩
        have H3 := Lib.hid (H2.out.step hb3)
        go_wp2_with (go_at_call 11; refine (HW.out _ (HT.out.below H3.out.below)).mono ?_; rintro e w9 ⟨rfl, hb9⟩)
        go_ret
        exact ⟨rfl, below_2 H3.out.below hb9⟩
      · obtain ⟨d1, d2, d3, d4, d5⟩ := HD.out rfl rfl
        have C3 := Lib.hid (g3 rfl)
        have C4 := Lib.hid (g4 rfl)
        have C5 := Lib.hid (g5 rfl)
        have C6 := Lib.hid (g6 rfl)
        have D4 := Lib.hid d4
        have D5 := Lib.hid d5
        clear g3 g4 g5 g6 d4 d5
        go_enter Tryd.func10, Tryd.ntmps10
        go_wp2_with fail
        refine (G1.out _).mono ?_; rintro e w2 ⟨rfl, hb2⟩
        have H2 := Lib.hid (H0.out.step hb2)
        obtain ⟨⟨a0, a1, a2⟩, ⟨b0, b1, b2⟩, _⟩ := H2.out
        go_wp2_with fail
        refine (G2.out _).mono ?_; rintro e w3 ⟨rfl, hb3⟩
        have H3 := Lib.hid (H2.out.step hb3)
        clear a0 a1 a2 b0 b1 b2
        obtain ⟨r0, r1, r2⟩ := grown_has H3.out.one
        obtain ⟨r3, r4, r5⟩ := grown_has H3.out.two
        have HT3 := Lib.hid (HT.out.below H3.out.below)
        have E3 := Lib.hid (grown HT3.out C3.out)
        have E4 := Lib.hid (grown HT3.out C4.out)
        go_wp2_with fail
        refine wp_region_quiet_below (by kernel_rfl) (by kernel_rfl) ?_
        repeat (go_big_quiet_step (first | with_reducible exact E3.out _ _ | with_reducible exact E4.out _ _))
        refine wpQuiet_nil ?_
        intro w4 hw'
        have hb4 : Below w3.heap.size w3 w4 := by
          obtain ⟨⟨dq, osq⟩, hw''⟩ := hw'
          rw [hw'']
          exact below_regrown _ dq osq
        have H4 := Lib.hid (H3.out.step hb4)
        clear hw' r0 r1 r2 r3 r4 r5
        obtain ⟨r0, r1, r2⟩ := grown_has H4.out.one
        obtain ⟨r3, r4, r5⟩ := grown_has H4.out.two
        have HT4 := Lib.hid (HT.out.below H4.out.below)
        have E5 := Lib.hid (grown HT4.out C5.out)
        have E6 := Lib.hid (grown HT4.out C6.out)
        have E7 := Lib.hid (grown HT4.out HW.out)
        by_cases hl : T.size < S.size
        · have q1 := slice_first S T.size (by omega) rfl
          have q2 := D5.out (by omega)
          generalize S.extract 0 T.size = d at q1 q2
          go_wp2_with fail
          refine wp_region_quiet_below (by kernel_rfl) (by kernel_rfl) ?_
          repeat (go_big_quiet_step (first | with_reducible exact E5.out _ _ | with_reducible exact E6.out _ _ | with_reducible exact E7.out _ _))
          refine wpQuiet_nil ?_
          intro _ hw'
          obtain ⟨⟨dq, osq⟩, hw''⟩ := hw'
          subst hw''
          go_wp2_with fail
          go_ret
          exact ⟨rfl, below_2 H4.out.below (below_regrown _ _ _)⟩
        · have q1 := slice_first T S.size (by omega) rfl
          have q2 := D4.out (by omega)
          generalize T.extract 0 S.size = d at q1 q2
          go_wp2_with fail
          refine wp_region_quiet_below (by kernel_rfl) (by kernel_rfl) ?_
          repeat (go_big_quiet_step (first | with_reducible exact E5.out _ _ | with_reducible exact E6.out _ _ | with_reducible exact E7.out _ _))
          refine wpQuiet_nil ?_
          intro _ hw'
          obtain ⟨⟨dq, osq⟩, hw''⟩ := hw'
          subst hw''
          go_wp2_with fail
          go_ret
          exact ⟨rfl, below_2 H4.out.below (below_regrown _ _ _)⟩
theorem valid_small {k n : Int} {s : ByteArray} (h : valid ⟨k, n, s.data.toList⟩ = true) : s.size ≤ 64 := by
  have hs := size_len s
  rcases valid_iff.1 h with ⟨_, _, h3⟩ | ⟨_, h3⟩ | ⟨_, _, h3⟩
  · have h4 : s.data.toList.length = 0 := by rw [show s.data.toList = [] from h3]; rfl
    omega
  · have h4 : s.data.toList.length = 0 := by rw [show s.data.toList = [] from h3]; rfl
    omega
  · have h4 := (plain_iff.1 h3).1
    simp only at h4
    omega
theorem bytes_ne {a b : List UInt8} (h : a ≠ b) : ((ByteArray.mk a.toArray).toList == (ByteArray.mk b.toArray).toList) = false := by
  rw [Lib.toList_data, Lib.toList_data]
  exact beq_false_of_ne h
theorem first_list (s : ByteArray) (a : Nat) : (s.extract 0 a).toList = s.data.toList.take a := by
  rw [Lib.toList_data]; simp
theorem enc_isEmpty (v : Val) : (ByteArray.mk (enc v).toArray).toList.isEmpty = false := by
  rw [empty_iff]
  exact decide_eq_false (enc_ne v)
theorem enc_first {a b : Val} (ha : valid a = true) (hb : valid b = true) (a0 : -9223372036854775808 ≤ a.n) (a1 : a.n ≤ 9223372036854775807) (b0 : -9223372036854775808 ≤ b.n) (b1 : b.n ≤ 9223372036854775807) (h : a ≠ b) :
    (((ByteArray.mk (enc b).toArray).extract 0 (ByteArray.mk (enc a).toArray).size).toList == (ByteArray.mk (enc a).toArray).toList) = false := by
  rw [first_list, Lib.toList_data]
  refine beq_false_of_ne fun he => h (enc_prefix ha hb a0 a1 b0 b1 ?_)
  exact he
set_option maxHeartbeats 1000000 in
set_option maxRecDepth 100000 in
theorem distinct_walk (O : Own) (k n : Int) (h0 : -9223372036854775808 ≤ n) (h1 : n ≤ 9223372036854775807) (s : ByteArray) (hs : s.size ≤ 9223372036854775807) (l m : Int) (h2 : -9223372036854775808 ≤ m) (h3 : m ≤ 9223372036854775807) (t : ByteArray) (ht : t.size ≤ 9223372036854775807) (w : World) (hT : Tab w) :
    Calls Tryd.prog 10 #[.agg #[.int .i64 k, .int .i64 n, .string s], .agg #[.int .i64 l, .int .i64 m, .string t]] w fun e w' => e = .returned (.bool true) ∧ Below w.heap.size w w' := by
  by_cases he : k = l ∧ n = m ∧ s = t
  · obtain ⟨rfl, rfl, rfl⟩ := he
    have H0 := Two.new w k n s k n s
    have hb := H0.below
    obtain ⟨⟨a0, a1, a2⟩, ⟨b0, b1, b2⟩, _, _⟩ := H0
    have HW := Lib.hid (works_any O _ (hT.below hb))
    have HB := Lib.hid hb
    clear O hT hb
    go_enter Tryd.func10, Tryd.ntmps10
    go_wp2_with (go_at_call 11; refine HW.out.mono ?_; rintro e w9 ⟨rfl, hb9⟩)
    go_ret
    exact ⟨rfl, below_2 HB.out hb9⟩
  · have hv : (⟨k, n, s.data.toList⟩ : Val) ≠ ⟨l, m, t.data.toList⟩ := by
      intro h
      injection h with e1 e2 e3
      exact he ⟨e1, e2, bytes_eq e3⟩
    have hne : ¬ k = l ∨ (k = l ∧ ¬ n = m) ∨ (k = l ∧ n = m ∧ ¬ s.toList = t.toList) := by
      by_cases e1 : k = l
      · by_cases e2 : n = m
        · exact Or.inr (Or.inr ⟨e1, e2, fun h => he ⟨e1, e2, bytes_eq (by rw [← Lib.toList_data, ← Lib.toList_data]; exact h)⟩⟩)
        · exact Or.inr (Or.inl ⟨e1, e2⟩)
      · exact Or.inl e1
    exact distinct_core k n s l m t ⟨(fmt ⟨k, n, s.data.toList⟩).toArray⟩ ⟨(fmt ⟨l, m, t.data.toList⟩).toArray⟩ ⟨(enc ⟨k, n, s.data.toList⟩).toArray⟩ ⟨(enc ⟨l, m, t.data.toList⟩).toArray⟩ _ _
      (fun ha hb => ⟨bytes_ne fun h => hv (fmt_inj ha hb h0 h1 h2 h3 h), enc_isEmpty _, enc_isEmpty _, fun _ => enc_first ha hb h0 h1 h2 h3 hv, fun _ => enc_first hb ha h2 h3 h0 h1 (Ne.symm hv)⟩)
      hne O w hT (rvalid_any k n s hs) (rvalid_any l m t ht)
      (fun ha => O.enc k n s h0 h1 (by have := valid_small ha; omega)) (fun hb => O.enc l m t h2 h3 (by have := valid_small hb; omega))
      (fun ha => O.fmt k n s h0 h1 (by have := valid_small ha; omega)) (fun hb => O.fmt l m t h2 h3 (by have := valid_small hb; omega))
end Go.Proofs.YtcedndjpdgpdgaaDoor.V
