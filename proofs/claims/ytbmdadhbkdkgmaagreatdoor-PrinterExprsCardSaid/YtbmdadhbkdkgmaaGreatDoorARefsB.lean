/-
  What the reference of layer 8 returns: node: its contract.
-/
import Derived.Test.YtbmdadhbkdkgmaaGreatDoorARefsA
namespace Go.Proofs.YtbmdadhbkdkgmaaGreatDoor.A
open Go.RowKit
open L (Str isName prt size_len below_2 below_box ret_bool ret_int isName_any)

theorem n_arg {e : Ex} {d : Nat} (h : arity e.op < 0 ∨ (e.op ≠ 1 ∧ e.n ≠ 0) ∨ (e.op ≠ 2 ∧ e.op ≠ 3 ∧ e.s.size ≠ 0)) : nodeE e d = 1 := by unfold nodeE; rw [if_pos h]
theorem n_name {e : Ex} {d : Nat} (h : ¬ (arity e.op < 0 ∨ (e.op ≠ 1 ∧ e.n ≠ 0) ∨ (e.op ≠ 2 ∧ e.op ≠ 3 ∧ e.s.size ≠ 0))) (h2 : e.op = 3 ∧ nam e.s = false) : nodeE e d = 7 := by unfold nodeE; rw [if_neg h, if_pos h2]
theorem n_arg2 {e : Ex} {d : Nat} (h : ¬ (arity e.op < 0 ∨ (e.op ≠ 1 ∧ e.n ≠ 0) ∨ (e.op ≠ 2 ∧ e.op ≠ 3 ∧ e.s.size ≠ 0))) (h2 : ¬ (e.op = 3 ∧ nam e.s = false)) (h3 : e.n < 0 ∨ (e.op = 2 ∧ plain e.s = false) ∨ (e.args.length : Int) ≠ arity e.op) : nodeE e d = 1 := by unfold nodeE; rw [if_neg h, if_neg h2, if_pos h3]
theorem n_deep {e : Ex} {d : Nat} (h : ¬ (arity e.op < 0 ∨ (e.op ≠ 1 ∧ e.n ≠ 0) ∨ (e.op ≠ 2 ∧ e.op ≠ 3 ∧ e.s.size ≠ 0))) (h2 : ¬ (e.op = 3 ∧ nam e.s = false)) (h3 : ¬ (e.n < 0 ∨ (e.op = 2 ∧ plain e.s = false) ∨ (e.args.length : Int) ≠ arity e.op)) (h4 : 12 < d) : nodeE e d = 2 := by unfold nodeE; rw [if_neg h, if_neg h2, if_neg h3, if_pos h4]
theorem n_ok {e : Ex} {d : Nat} (h : ¬ (arity e.op < 0 ∨ (e.op ≠ 1 ∧ e.n ≠ 0) ∨ (e.op ≠ 2 ∧ e.op ≠ 3 ∧ e.s.size ≠ 0))) (h2 : ¬ (e.op = 3 ∧ nam e.s = false)) (h3 : ¬ (e.n < 0 ∨ (e.op = 2 ∧ plain e.s = false) ∨ (e.args.length : Int) ≠ arity e.op)) (h4 : ¬ 12 < d) : nodeE e d = 0 := by unfold nodeE; rw [if_neg h, if_neg h2, if_neg h3, if_neg h4]
set_option maxHeartbeats 8000000 in
set_option maxRecDepth 100000 in
theorem rnode_any (e : Ex) (a : Option Addr) (c : Nat) (d : Nat) (hd : d ≤ 1000000) (hs : e.s.size ≤ 1000000000000000) (w : World) :
    Calls Tryz.prog 79 #[exV e a c, .int .i64 (d : Int)] w fun e' w' => e' = .returned (.int .i64 (nodeE e d)) ∧ Below w.heap.size w w' := by
  have hw := below_box w (exO e a c)
  obtain ⟨c0, c1, c2, c3⟩ := exO_cells w e a c
  have hI := isName_any e.s (by omega)
  have hP := rplain_any e.s
  have hA := rarity_any e.op
  have n1 := @n_arg e d
  have n2 := @n_name e d
  have n3 := @n_arg2 e d
  have n4 := @n_deep e d
  have n5 := @n_ok e d
  generalize nodeE e d = R at n1 n2 n3 n4 n5 ⊢
  change ∀ w, Calls Tryz.prog 25 #[.string e.s] w fun e' w' => e' = .returned (.bool (nam e.s)) ∧ Below w.heap.size w w' at hI
  unfold exV
  unfold exO at hw c0 c1 c2 c3
  have he := empty_of (s := e.s)
  have he2 := nil_of (s := e.s)
  generalize hz : e.s.size = z at n1 n2 n3 n4 n5 he he2
  generalize e.s = s at *
  generalize e.n = n at *
  generalize e.args.length = k at *
  generalize e.op = op at *
  generalize nam s = I at *
  generalize plain s = P at *
  have bd : decide (12 < (d : Int)) = decide (12 < d) := decide_eq_decide.2 (by omega)
  clear hz hs
  by_cases o1 : op = 1
  · subst o1
    rw [show arity 1 = 0 from rfl] at *
    by_cases z0 : z = 0
    · rw [decide_eq_true z0] at he he2
      have H1 : ¬ ((0 : Int) < 0 ∨ ((1 : Int) ≠ 1 ∧ n ≠ 0) ∨ ((1 : Int) ≠ 2 ∧ (1 : Int) ≠ 3 ∧ z ≠ 0)) := by omega
      have H2 : ¬ ((1 : Int) = 3 ∧ I = false) := fun h => absurd h.1 (by decide)
      by_cases hn : n < 0
      · have bn : decide (n < 0) = true := decide_eq_true hn
        have HV := Lib.hid (n3 H1 H2 (Or.inl hn))
        have HA := Lib.hid hA
        have HWB := Lib.hid hw
        have HQ1 := Lib.hid (grownS (W := (w.alloc (.cells #[.int .i64 1, .int .i64 n, .string s, .slice a k c] 33))) hA)
        have HQ2 := Lib.hid (grownS (W := (w.alloc (.cells #[.int .i64 1, .int .i64 n, .string s, .slice a k c] 33))) hP)
        have d0 := fun d os => cell_regrown c0 d os
        have d1 := fun d os => cell_regrown c1 d os
        have d2 := fun d os => cell_regrown c2 d os
        have d3 := fun d os => cell_regrown c3 d os
        clear hI hP hA n1 n2 n3 n4 n5 hw c0 c1 c2 c3
        go_enter Tryz.func79, Tryz.ntmps79
        go_wp2_with fail
        refine (HA.out _).mono ?_; rintro e w1 ⟨rfl, rfl⟩
        go_wp2_with fail
        refine wp_region_quiet_below (by kernel_rfl) (by kernel_rfl) ?_
        repeat (go_big_quiet_step (first | with_reducible exact HQ1.out _ _ | with_reducible exact HQ2.out _ _))
        refine wpQuiet_nil ?_
        intro w4 hw'
        obtain ⟨⟨dq, osq⟩, hw2⟩ := hw'
        have hb4 := below_regrown (w.alloc (.cells #[.int .i64 1, .int .i64 n, .string s, .slice a k c] 33)) dq osq
        rw [← hw2] at hb4
        have HB4 := Lib.hid (below_2 HWB.out hb4)
        clear hw2 hb4
        go_wp2_with fail
        go_ret
        exact ⟨ret_int HV.out.symm, HB4.out⟩
      · have bn : decide (n < 0) = false := decide_eq_false hn
        by_cases hk : (k : Int) = 0
        · have bk : ((k : Int) != 0) = false := by rw [bne_eq_false_iff_eq]; exact hk
          have H3 : ¬ ((n : Int) < 0 ∨ ((1 : Int) = 2 ∧ P = false) ∨ (k : Int) ≠ 0) := by rintro (h | h | h) <;> omega
          by_cases h12 : 12 < d
          · rw [decide_eq_true h12] at bd
            clear hk
            have HV := Lib.hid (n4 H1 H2 H3 h12)
            have HA := Lib.hid hA
            have HWB := Lib.hid hw
            have HQ1 := Lib.hid (grownS (W := (w.alloc (.cells #[.int .i64 1, .int .i64 n, .string s, .slice a k c] 33))) hA)
            have HQ2 := Lib.hid (grownS (W := (w.alloc (.cells #[.int .i64 1, .int .i64 n, .string s, .slice a k c] 33))) hP)
            have d0 := fun d os => cell_regrown c0 d os
            have d1 := fun d os => cell_regrown c1 d os
            have d2 := fun d os => cell_regrown c2 d os
            have d3 := fun d os => cell_regrown c3 d os
            clear hI hP hA n1 n2 n3 n4 n5 hw c0 c1 c2 c3
            go_enter Tryz.func79, Tryz.ntmps79
            go_wp2_with fail
            refine (HA.out _).mono ?_; rintro e w1 ⟨rfl, rfl⟩
            go_wp2_with fail
            refine wp_region_quiet_below (by kernel_rfl) (by kernel_rfl) ?_
            repeat (go_big_quiet_step (first | with_reducible exact HQ1.out _ _ | with_reducible exact HQ2.out _ _))
            refine wpQuiet_nil ?_
            intro w4 hw'
            obtain ⟨⟨dq, osq⟩, hw2⟩ := hw'
            have hb4 := below_regrown (w.alloc (.cells #[.int .i64 1, .int .i64 n, .string s, .slice a k c] 33)) dq osq
            rw [← hw2] at hb4
            have HB4 := Lib.hid (below_2 HWB.out hb4)
            clear hw2 hb4
            go_wp2_with fail
            go_ret
            exact ⟨ret_int HV.out.symm, HB4.out⟩
          · rw [decide_eq_false h12] at bd
            clear hk
            have HV := Lib.hid (n5 H1 H2 H3 h12)
            have HA := Lib.hid hA
            have HWB := Lib.hid hw
            have HQ1 := Lib.hid (grownS (W := (w.alloc (.cells #[.int .i64 1, .int .i64 n, .string s, .slice a k c] 33))) hA)
            have HQ2 := Lib.hid (grownS (W := (w.alloc (.cells #[.int .i64 1, .int .i64 n, .string s, .slice a k c] 33))) hP)
            have d0 := fun d os => cell_regrown c0 d os
            have d1 := fun d os => cell_regrown c1 d os
            have d2 := fun d os => cell_regrown c2 d os
            have d3 := fun d os => cell_regrown c3 d os
            clear hI hP hA n1 n2 n3 n4 n5 hw c0 c1 c2 c3
            go_enter Tryz.func79, Tryz.ntmps79
            go_wp2_with fail
            refine (HA.out _).mono ?_; rintro e w1 ⟨rfl, rfl⟩
            go_wp2_with fail
            refine wp_region_quiet_below (by kernel_rfl) (by kernel_rfl) ?_
            repeat (go_big_quiet_step (first | with_reducible exact HQ1.out _ _ | with_reducible exact HQ2.out _ _))
            refine wpQuiet_nil ?_
            intro w4 hw'
            obtain ⟨⟨dq, osq⟩, hw2⟩ := hw'
            have hb4 := below_regrown (w.alloc (.cells #[.int .i64 1, .int .i64 n, .string s, .slice a k c] 33)) dq osq
            rw [← hw2] at hb4
            have HB4 := Lib.hid (below_2 HWB.out hb4)
            clear hw2 hb4
            go_wp2_with fail
            go_ret
            exact ⟨ret_int HV.out.symm, HB4.out⟩
        · have bk : ((k : Int) != 0) = true := bne_iff_ne.2 hk
          have HV := Lib.hid (n3 H1 H2 (Or.inr (Or.inr hk)))
          have HA := Lib.hid hA
          have HWB := Lib.hid hw
          have HQ1 := Lib.hid (grownS (W := (w.alloc (.cells #[.int .i64 1, .int .i64 n, .string s, .slice a k c] 33))) hA)
          have HQ2 := Lib.hid (grownS (W := (w.alloc (.cells #[.int .i64 1, .int .i64 n, .string s, .slice a k c] 33))) hP)
          have d0 := fun d os => cell_regrown c0 d os
          have d1 := fun d os => cell_regrown c1 d os
          have d2 := fun d os => cell_regrown c2 d os
          have d3 := fun d os => cell_regrown c3 d os
          clear hI hP hA n1 n2 n3 n4 n5 hw c0 c1 c2 c3
          go_enter Tryz.func79, Tryz.ntmps79
          go_wp2_with fail
          refine (HA.out _).mono ?_; rintro e w1 ⟨rfl, rfl⟩
          go_wp2_with fail
          refine wp_region_quiet_below (by kernel_rfl) (by kernel_rfl) ?_
          repeat (go_big_quiet_step (first | with_reducible exact HQ1.out _ _ | with_reducible exact HQ2.out _ _))
          refine wpQuiet_nil ?_
          intro w4 hw'
          obtain ⟨⟨dq, osq⟩, hw2⟩ := hw'
          have hb4 := below_regrown (w.alloc (.cells #[.int .i64 1, .int .i64 n, .string s, .slice a k c] 33)) dq osq
          rw [← hw2] at hb4
          have HB4 := Lib.hid (below_2 HWB.out hb4)
          clear hw2 hb4
          go_wp2_with fail
          go_ret
          exact ⟨ret_int HV.out.symm, HB4.out⟩
    · rw [decide_eq_false z0] at he he2
      have HV := Lib.hid (n1 (Or.inr (Or.inr ⟨by decide, by decide, z0⟩)))
      have HA := Lib.hid hA
      have HW := Lib.hid hw
      clear hI hP hA n1 n2 n3 n4 n5 hw c0 c1 c2 c3
      go_enter Tryz.func79, Tryz.ntmps79
      go_wp2_with fail
      refine (HA.out _).mono ?_; rintro e w1 ⟨rfl, rfl⟩
      go_wp2_with fail
      go_ret
      exact ⟨ret_int HV.out.symm, HW.out⟩
  by_cases o2 : op = 2
  · subst o2
    rw [show arity 2 = 0 from rfl] at *
    by_cases hn : n = 0
    · subst hn
      have H1 : ¬ ((0 : Int) < 0 ∨ ((2 : Int) ≠ 1 ∧ (0 : Int) ≠ 0) ∨ ((2 : Int) ≠ 2 ∧ (2 : Int) ≠ 3 ∧ z ≠ 0)) := by omega
      have H2 : ¬ ((2 : Int) = 3 ∧ I = false) := fun h => absurd h.1 (by decide)
      cases P
      · have HV := Lib.hid (n3 H1 H2 (Or.inr (Or.inl ⟨rfl, rfl⟩)))
        have HA := Lib.hid hA
        have HWB := Lib.hid hw
        have HQ1 := Lib.hid (grownS (W := (w.alloc (.cells #[.int .i64 2, .int .i64 0, .string s, .slice a k c] 33))) hA)
        have HQ2 := Lib.hid (grownS (W := (w.alloc (.cells #[.int .i64 2, .int .i64 0, .string s, .slice a k c] 33))) hP)
        have d0 := fun d os => cell_regrown c0 d os
        have d1 := fun d os => cell_regrown c1 d os
        have d2 := fun d os => cell_regrown c2 d os
        have d3 := fun d os => cell_regrown c3 d os
        clear hI hP hA n1 n2 n3 n4 n5 hw c0 c1 c2 c3
        go_enter Tryz.func79, Tryz.ntmps79
        go_wp2_with fail
        refine (HA.out _).mono ?_; rintro e w1 ⟨rfl, rfl⟩
        go_wp2_with fail
        refine wp_region_quiet_below (by kernel_rfl) (by kernel_rfl) ?_
        repeat (go_big_quiet_step (first | with_reducible exact HQ1.out _ _ | with_reducible exact HQ2.out _ _))
        refine wpQuiet_nil ?_
        intro w4 hw'
        obtain ⟨⟨dq, osq⟩, hw2⟩ := hw'
        have hb4 := below_regrown (w.alloc (.cells #[.int .i64 2, .int .i64 0, .string s, .slice a k c] 33)) dq osq
        rw [← hw2] at hb4
        have HB4 := Lib.hid (below_2 HWB.out hb4)
        clear hw2 hb4
        go_wp2_with fail
        go_ret
        exact ⟨ret_int HV.out.symm, HB4.out⟩
      · by_cases hk : (k : Int) = 0
        · have bk : ((k : Int) != 0) = false := by rw [bne_eq_false_iff_eq]; exact hk
          have H3 : ¬ ((0 : Int) < 0 ∨ ((2 : Int) = 2 ∧ true = false) ∨ (k : Int) ≠ 0) := by rintro (h | h | h) <;> first | omega | exact absurd h.2 (by decide) | exact h hk
          by_cases h12 : 12 < d
          · rw [decide_eq_true h12] at bd
            clear hk
            have HV := Lib.hid (n4 H1 H2 H3 h12)
            have HA := Lib.hid hA
            have HWB := Lib.hid hw
            have HQ1 := Lib.hid (grownS (W := (w.alloc (.cells #[.int .i64 2, .int .i64 0, .string s, .slice a k c] 33))) hA)
            have HQ2 := Lib.hid (grownS (W := (w.alloc (.cells #[.int .i64 2, .int .i64 0, .string s, .slice a k c] 33))) hP)
            have d0 := fun d os => cell_regrown c0 d os
            have d1 := fun d os => cell_regrown c1 d os
            have d2 := fun d os => cell_regrown c2 d os
            have d3 := fun d os => cell_regrown c3 d os
            clear hI hP hA n1 n2 n3 n4 n5 hw c0 c1 c2 c3
            go_enter Tryz.func79, Tryz.ntmps79
            go_wp2_with fail
            refine (HA.out _).mono ?_; rintro e w1 ⟨rfl, rfl⟩
            go_wp2_with fail
            refine wp_region_quiet_below (by kernel_rfl) (by kernel_rfl) ?_
            repeat (go_big_quiet_step (first | with_reducible exact HQ1.out _ _ | with_reducible exact HQ2.out _ _))
            refine wpQuiet_nil ?_
            intro w4 hw'
            obtain ⟨⟨dq, osq⟩, hw2⟩ := hw'
            have hb4 := below_regrown (w.alloc (.cells #[.int .i64 2, .int .i64 0, .string s, .slice a k c] 33)) dq osq
            rw [← hw2] at hb4
            have HB4 := Lib.hid (below_2 HWB.out hb4)
            clear hw2 hb4
            go_wp2_with fail
            go_ret
            exact ⟨ret_int HV.out.symm, HB4.out⟩
          · rw [decide_eq_false h12] at bd
            clear hk
            have HV := Lib.hid (n5 H1 H2 H3 h12)
            have HA := Lib.hid hA
            have HWB := Lib.hid hw
            have HQ1 := Lib.hid (grownS (W := (w.alloc (.cells #[.int .i64 2, .int .i64 0, .string s, .slice a k c] 33))) hA)
            have HQ2 := Lib.hid (grownS (W := (w.alloc (.cells #[.int .i64 2, .int .i64 0, .string s, .slice a k c] 33))) hP)
            have d0 := fun d os => cell_regrown c0 d os
            have d1 := fun d os => cell_regrown c1 d os
            have d2 := fun d os => cell_regrown c2 d os
            have d3 := fun d os => cell_regrown c3 d os
            clear hI hP hA n1 n2 n3 n4 n5 hw c0 c1 c2 c3
            go_enter Tryz.func79, Tryz.ntmps79
            go_wp2_with fail
            refine (HA.out _).mono ?_; rintro e w1 ⟨rfl, rfl⟩
            go_wp2_with fail
            refine wp_region_quiet_below (by kernel_rfl) (by kernel_rfl) ?_
            repeat (go_big_quiet_step (first | with_reducible exact HQ1.out _ _ | with_reducible exact HQ2.out _ _))
            refine wpQuiet_nil ?_
            intro w4 hw'
            obtain ⟨⟨dq, osq⟩, hw2⟩ := hw'
            have hb4 := below_regrown (w.alloc (.cells #[.int .i64 2, .int .i64 0, .string s, .slice a k c] 33)) dq osq
            rw [← hw2] at hb4
            have HB4 := Lib.hid (below_2 HWB.out hb4)
            clear hw2 hb4
            go_wp2_with fail
            go_ret
            exact ⟨ret_int HV.out.symm, HB4.out⟩
        · have bk : ((k : Int) != 0) = true := bne_iff_ne.2 hk
          have HV := Lib.hid (n3 H1 H2 (Or.inr (Or.inr hk)))
          have HA := Lib.hid hA
          have HWB := Lib.hid hw
          have HQ1 := Lib.hid (grownS (W := (w.alloc (.cells #[.int .i64 2, .int .i64 0, .string s, .slice a k c] 33))) hA)
          have HQ2 := Lib.hid (grownS (W := (w.alloc (.cells #[.int .i64 2, .int .i64 0, .string s, .slice a k c] 33))) hP)
          have d0 := fun d os => cell_regrown c0 d os
          have d1 := fun d os => cell_regrown c1 d os
          have d2 := fun d os => cell_regrown c2 d os
          have d3 := fun d os => cell_regrown c3 d os
          clear hI hP hA n1 n2 n3 n4 n5 hw c0 c1 c2 c3
          go_enter Tryz.func79, Tryz.ntmps79
          go_wp2_with fail
          refine (HA.out _).mono ?_; rintro e w1 ⟨rfl, rfl⟩
          go_wp2_with fail
          refine wp_region_quiet_below (by kernel_rfl) (by kernel_rfl) ?_
          repeat (go_big_quiet_step (first | with_reducible exact HQ1.out _ _ | with_reducible exact HQ2.out _ _))
          refine wpQuiet_nil ?_
          intro w4 hw'
          obtain ⟨⟨dq, osq⟩, hw2⟩ := hw'
          have hb4 := below_regrown (w.alloc (.cells #[.int .i64 2, .int .i64 0, .string s, .slice a k c] 33)) dq osq
          rw [← hw2] at hb4
          have HB4 := Lib.hid (below_2 HWB.out hb4)
          clear hw2 hb4
          go_wp2_with fail
          go_ret
          exact ⟨ret_int HV.out.symm, HB4.out⟩
    · have bn : (n != 0) = true := bne_iff_ne.2 hn
      have HV := Lib.hid (n1 (Or.inr (Or.inl ⟨by decide, hn⟩)))
      have HA := Lib.hid hA
      have HW := Lib.hid hw
      clear hI hP hA n1 n2 n3 n4 n5 hw c0 c1 c2 c3
      go_enter Tryz.func79, Tryz.ntmps79
      go_wp2_with fail
      refine (HA.out _).mono ?_; rintro e w1 ⟨rfl, rfl⟩
      go_wp2_with fail
      go_ret
      exact ⟨ret_int HV.out.symm, HW.out⟩
  by_cases o3 : op = 3
  · subst o3
    rw [show arity 3 = 0 from rfl] at *
    by_cases hn : n = 0
    · subst hn
      have H1 : ¬ ((0 : Int) < 0 ∨ ((3 : Int) ≠ 1 ∧ (0 : Int) ≠ 0) ∨ ((3 : Int) ≠ 2 ∧ (3 : Int) ≠ 3 ∧ z ≠ 0)) := by omega
      cases I
      · have HV := Lib.hid (n2 H1 ⟨rfl, rfl⟩)
        have HA := Lib.hid hA
        have HI := Lib.hid hI
        have HW := Lib.hid hw
        clear hI hP hA n1 n2 n3 n4 n5 hw c0 c1 c2 c3
        go_enter Tryz.func79, Tryz.ntmps79
        go_wp2_with fail
        refine (HA.out _).mono ?_; rintro e w1 ⟨rfl, rfl⟩
        go_wp2_with fail
        refine (HI.out _).mono ?_; rintro e w2 ⟨rfl, hb2⟩
        go_wp2_with fail
        go_ret
        exact ⟨ret_int HV.out.symm, below_2 HW.out hb2⟩
      · have H2 : ¬ ((3 : Int) = 3 ∧ true = false) := fun h => absurd h.2 (by decide)
        by_cases hk : (k : Int) = 0
        · have bk : ((k : Int) != 0) = false := by rw [bne_eq_false_iff_eq]; exact hk
          have H3 : ¬ ((0 : Int) < 0 ∨ ((3 : Int) = 2 ∧ P = false) ∨ (k : Int) ≠ 0) := by rintro (h | h | h) <;> omega
          by_cases h12 : 12 < d
          · rw [decide_eq_true h12] at bd
            clear hk
            have HV := Lib.hid (n4 H1 H2 H3 h12)
            have HA := Lib.hid hA
            have HI := Lib.hid hI
            have HPP := Lib.hid hP
            have HW := Lib.hid hw
            have C0 := Lib.hid c0
            have C1 := Lib.hid c1
            have C2 := Lib.hid c2
            have C3 := Lib.hid c3
            clear hI hP hA n1 n2 n3 n4 n5 hw c0 c1 c2 c3
            go_enter Tryz.func79, Tryz.ntmps79
            go_wp2_with fail
            refine (HA.out _).mono ?_; rintro e w1 ⟨rfl, rfl⟩
            go_wp2_with fail
            refine (HI.out _).mono ?_; rintro e w2 ⟨rfl, hb2⟩
            have d0 := fun d os => cell_regrown ((hb2.cell (by simp)).trans C0.out) d os
            have d1 := fun d os => cell_regrown ((hb2.cell (by simp)).trans C1.out) d os
            have d2 := fun d os => cell_regrown ((hb2.cell (by simp)).trans C2.out) d os
            have d3 := fun d os => cell_regrown ((hb2.cell (by simp)).trans C3.out) d os
            have HWB := Lib.hid (below_2 HW.out hb2)
            have HQ1 := Lib.hid (grownS (W := w2) HA.out)
            have HQ2 := Lib.hid (grownS (W := w2) HPP.out)
            clear hb2
            go_wp2_with fail
            refine wp_region_quiet_below (by kernel_rfl) (by kernel_rfl) ?_
            repeat (go_big_quiet_step (first | with_reducible exact HQ1.out _ _ | with_reducible exact HQ2.out _ _))
            refine wpQuiet_nil ?_
            intro w4 hw'
            obtain ⟨⟨dq, osq⟩, hw2⟩ := hw'
            have hb4 := below_regrown w2 dq osq
            rw [← hw2] at hb4
            have HB4 := Lib.hid (below_2 HWB.out hb4)
            clear hw2 hb4
            go_wp2_with fail
            go_ret
            exact ⟨ret_int HV.out.symm, HB4.out⟩
          · rw [decide_eq_false h12] at bd
            clear hk
            have HV := Lib.hid (n5 H1 H2 H3 h12)
            have HA := Lib.hid hA
            have HI := Lib.hid hI
            have HPP := Lib.hid hP
            have HW := Lib.hid hw
            have C0 := Lib.hid c0
            have C1 := Lib.hid c1
            have C2 := Lib.hid c2
            have C3 := Lib.hid c3
            clear hI hP hA n1 n2 n3 n4 n5 hw c0 c1 c2 c3
            go_enter Tryz.func79, Tryz.ntmps79
            go_wp2_with fail
            refine (HA.out _).mono ?_; rintro e w1 ⟨rfl, rfl⟩
            go_wp2_with fail
            refine (HI.out _).mono ?_; rintro e w2 ⟨rfl, hb2⟩
            have d0 := fun d os => cell_regrown ((hb2.cell (by simp)).trans C0.out) d os
            have d1 := fun d os => cell_regrown ((hb2.cell (by simp)).trans C1.out) d os
            have d2 := fun d os => cell_regrown ((hb2.cell (by simp)).trans C2.out) d os
            have d3 := fun d os => cell_regrown ((hb2.cell (by simp)).trans C3.out) d os
            have HWB := Lib.hid (below_2 HW.out hb2)
            have HQ1 := Lib.hid (grownS (W := w2) HA.out)
            have HQ2 := Lib.hid (grownS (W := w2) HPP.out)
            clear hb2
            go_wp2_with fail
            refine wp_region_quiet_below (by kernel_rfl) (by kernel_rfl) ?_
            repeat (go_big_quiet_step (first | with_reducible exact HQ1.out _ _ | with_reducible exact HQ2.out _ _))
            refine wpQuiet_nil ?_
            intro w4 hw'
            obtain ⟨⟨dq, osq⟩, hw2⟩ := hw'
            have hb4 := below_regrown w2 dq osq
            rw [← hw2] at hb4
            have HB4 := Lib.hid (below_2 HWB.out hb4)
            clear hw2 hb4
            go_wp2_with fail
            go_ret
            exact ⟨ret_int HV.out.symm, HB4.out⟩
        · have bk : ((k : Int) != 0) = true := bne_iff_ne.2 hk
          have HV := Lib.hid (n3 H1 H2 (Or.inr (Or.inr hk)))
          have HA := Lib.hid hA
          have HI := Lib.hid hI
          have HPP := Lib.hid hP
          have HW := Lib.hid hw
          have C0 := Lib.hid c0
          have C1 := Lib.hid c1
          have C2 := Lib.hid c2
          have C3 := Lib.hid c3
          clear hI hP hA n1 n2 n3 n4 n5 hw c0 c1 c2 c3
          go_enter Tryz.func79, Tryz.ntmps79
          go_wp2_with fail
          refine (HA.out _).mono ?_; rintro e w1 ⟨rfl, rfl⟩
          go_wp2_with fail
          refine (HI.out _).mono ?_; rintro e w2 ⟨rfl, hb2⟩
          have d0 := fun d os => cell_regrown ((hb2.cell (by simp)).trans C0.out) d os
          have d1 := fun d os => cell_regrown ((hb2.cell (by simp)).trans C1.out) d os
          have d2 := fun d os => cell_regrown ((hb2.cell (by simp)).trans C2.out) d os
          have d3 := fun d os => cell_regrown ((hb2.cell (by simp)).trans C3.out) d os
          have HWB := Lib.hid (below_2 HW.out hb2)
          have HQ1 := Lib.hid (grownS (W := w2) HA.out)
          have HQ2 := Lib.hid (grownS (W := w2) HPP.out)
          clear hb2
          go_wp2_with fail
          refine wp_region_quiet_below (by kernel_rfl) (by kernel_rfl) ?_
          repeat (go_big_quiet_step (first | with_reducible exact HQ1.out _ _ | with_reducible exact HQ2.out _ _))
          refine wpQuiet_nil ?_
          intro w4 hw'
          obtain ⟨⟨dq, osq⟩, hw2⟩ := hw'
          have hb4 := below_regrown w2 dq osq
          rw [← hw2] at hb4
          have HB4 := Lib.hid (below_2 HWB.out hb4)
          clear hw2 hb4
          go_wp2_with fail
          go_ret
          exact ⟨ret_int HV.out.symm, HB4.out⟩
    · have bn : (n != 0) = true := bne_iff_ne.2 hn
      have HV := Lib.hid (n1 (Or.inr (Or.inl ⟨by decide, hn⟩)))
      have HA := Lib.hid hA
      have HW := Lib.hid hw
      clear hI hP hA n1 n2 n3 n4 n5 hw c0 c1 c2 c3
      go_enter Tryz.func79, Tryz.ntmps79
      go_wp2_with fail
      refine (HA.out _).mono ?_; rintro e w1 ⟨rfl, rfl⟩
      go_wp2_with fail
      go_ret
      exact ⟨ret_int HV.out.symm, HW.out⟩
  have e1 : (op != 1) = true := bne_iff_ne.2 o1
  have e2 : (op != 2) = true := bne_iff_ne.2 o2
  have e3 : (op != 3) = true := bne_iff_ne.2 o3
  have e4 : (op == 3) = false := beq_eq_false_iff_ne.2 o3
  have e5 : (op == 2) = false := beq_eq_false_iff_ne.2 o2
  generalize arity op = A at *
  by_cases hA0 : A < 0
  · have bA : decide (A < 0) = true := decide_eq_true hA0
    have HV := Lib.hid (n1 (Or.inl hA0))
    have HA := Lib.hid hA
    have HW := Lib.hid hw
    clear hI hP hA n1 n2 n3 n4 n5 hw c0 c1 c2 c3
    go_enter Tryz.func79, Tryz.ntmps79
    go_wp2_with fail
    refine (HA.out _).mono ?_; rintro e w1 ⟨rfl, rfl⟩
    go_wp2_with fail
    go_ret
    exact ⟨ret_int HV.out.symm, HW.out⟩
  have bA : decide (A < 0) = false := decide_eq_false hA0
  by_cases hn : n = 0
  · subst hn
    by_cases z0 : z = 0
    · rw [decide_eq_true z0] at he he2
      have H1 : ¬ (A < 0 ∨ (op ≠ 1 ∧ (0 : Int) ≠ 0) ∨ (op ≠ 2 ∧ op ≠ 3 ∧ z ≠ 0)) := by omega
      have H2 : ¬ (op = 3 ∧ I = false) := fun h => o3 h.1
      by_cases hk : (k : Int) = A
      · have bk : ((k : Int) != A) = false := by rw [bne_eq_false_iff_eq]; exact hk
        have H3 : ¬ ((0 : Int) < 0 ∨ ((op : Int) = 2 ∧ P = false) ∨ (k : Int) ≠ A) := by rintro (h | h | h) <;> first | omega | exact o2 h.1 | exact h hk
        by_cases h12 : 12 < d
        · rw [decide_eq_true h12] at bd
          clear hk
          have HV := Lib.hid (n4 H1 H2 H3 h12)
          have HA := Lib.hid hA
          have HWB := Lib.hid hw
          have HQ1 := Lib.hid (grownS (W := (w.alloc (.cells #[.int .i64 op, .int .i64 0, .string s, .slice a k c] 33))) hA)
          have HQ2 := Lib.hid (grownS (W := (w.alloc (.cells #[.int .i64 op, .int .i64 0, .string s, .slice a k c] 33))) hP)
          have d0 := fun d os => cell_regrown c0 d os
          have d1 := fun d os => cell_regrown c1 d os
          have d2 := fun d os => cell_regrown c2 d os
          have d3 := fun d os => cell_regrown c3 d os
          clear hI hP hA n1 n2 n3 n4 n5 hw c0 c1 c2 c3
          go_enter Tryz.func79, Tryz.ntmps79
          go_wp2_with fail
          refine (HA.out _).mono ?_; rintro e w1 ⟨rfl, rfl⟩
          go_wp2_with fail
          refine wp_region_quiet_below (by kernel_rfl) (by kernel_rfl) ?_
          repeat (go_big_quiet_step (first | with_reducible exact HQ1.out _ _ | with_reducible exact HQ2.out _ _))
          refine wpQuiet_nil ?_
          intro w4 hw'
          obtain ⟨⟨dq, osq⟩, hw2⟩ := hw'
          have hb4 := below_regrown (w.alloc (.cells #[.int .i64 op, .int .i64 0, .string s, .slice a k c] 33)) dq osq
          rw [← hw2] at hb4
          have HB4 := Lib.hid (below_2 HWB.out hb4)
          clear hw2 hb4
          go_wp2_with fail
          go_ret
          exact ⟨ret_int HV.out.symm, HB4.out⟩
        · rw [decide_eq_false h12] at bd
          clear hk
          have HV := Lib.hid (n5 H1 H2 H3 h12)
          have HA := Lib.hid hA
          have HWB := Lib.hid hw
          have HQ1 := Lib.hid (grownS (W := (w.alloc (.cells #[.int .i64 op, .int .i64 0, .string s, .slice a k c] 33))) hA)
          have HQ2 := Lib.hid (grownS (W := (w.alloc (.cells #[.int .i64 op, .int .i64 0, .string s, .slice a k c] 33))) hP)
          have d0 := fun d os => cell_regrown c0 d os
          have d1 := fun d os => cell_regrown c1 d os
          have d2 := fun d os => cell_regrown c2 d os
          have d3 := fun d os => cell_regrown c3 d os
          clear hI hP hA n1 n2 n3 n4 n5 hw c0 c1 c2 c3
          go_enter Tryz.func79, Tryz.ntmps79
          go_wp2_with fail
          refine (HA.out _).mono ?_; rintro e w1 ⟨rfl, rfl⟩
          go_wp2_with fail
          refine wp_region_quiet_below (by kernel_rfl) (by kernel_rfl) ?_
          repeat (go_big_quiet_step (first | with_reducible exact HQ1.out _ _ | with_reducible exact HQ2.out _ _))
          refine wpQuiet_nil ?_
          intro w4 hw'
          obtain ⟨⟨dq, osq⟩, hw2⟩ := hw'
          have hb4 := below_regrown (w.alloc (.cells #[.int .i64 op, .int .i64 0, .string s, .slice a k c] 33)) dq osq
          rw [← hw2] at hb4
          have HB4 := Lib.hid (below_2 HWB.out hb4)
          clear hw2 hb4
          go_wp2_with fail
          go_ret
          exact ⟨ret_int HV.out.symm, HB4.out⟩
      · have bk : ((k : Int) != A) = true := bne_iff_ne.2 hk
        have HV := Lib.hid (n3 H1 H2 (Or.inr (Or.inr hk)))
        have HA := Lib.hid hA
        have HWB := Lib.hid hw
        have HQ1 := Lib.hid (grownS (W := (w.alloc (.cells #[.int .i64 op, .int .i64 0, .string s, .slice a k c] 33))) hA)
        have HQ2 := Lib.hid (grownS (W := (w.alloc (.cells #[.int .i64 op, .int .i64 0, .string s, .slice a k c] 33))) hP)
        have d0 := fun d os => cell_regrown c0 d os
        have d1 := fun d os => cell_regrown c1 d os
        have d2 := fun d os => cell_regrown c2 d os
        have d3 := fun d os => cell_regrown c3 d os
        clear hI hP hA n1 n2 n3 n4 n5 hw c0 c1 c2 c3
        go_enter Tryz.func79, Tryz.ntmps79
        go_wp2_with fail
        refine (HA.out _).mono ?_; rintro e w1 ⟨rfl, rfl⟩
        go_wp2_with fail
        refine wp_region_quiet_below (by kernel_rfl) (by kernel_rfl) ?_
        repeat (go_big_quiet_step (first | with_reducible exact HQ1.out _ _ | with_reducible exact HQ2.out _ _))
        refine wpQuiet_nil ?_
        intro w4 hw'
        obtain ⟨⟨dq, osq⟩, hw2⟩ := hw'
        have hb4 := below_regrown (w.alloc (.cells #[.int .i64 op, .int .i64 0, .string s, .slice a k c] 33)) dq osq
        rw [← hw2] at hb4
        have HB4 := Lib.hid (below_2 HWB.out hb4)
        clear hw2 hb4
        go_wp2_with fail
        go_ret
        exact ⟨ret_int HV.out.symm, HB4.out⟩
    · rw [decide_eq_false z0] at he he2
      have HV := Lib.hid (n1 (Or.inr (Or.inr ⟨o2, o3, z0⟩)))
      have HA := Lib.hid hA
      have HW := Lib.hid hw
      clear hI hP hA n1 n2 n3 n4 n5 hw c0 c1 c2 c3
      go_enter Tryz.func79, Tryz.ntmps79
      go_wp2_with fail
      refine (HA.out _).mono ?_; rintro e w1 ⟨rfl, rfl⟩
      go_wp2_with fail
      go_ret
      exact ⟨ret_int HV.out.symm, HW.out⟩
  · have bn : (n != 0) = true := bne_iff_ne.2 hn
    have HV := Lib.hid (n1 (Or.inr (Or.inl ⟨o1, hn⟩)))
    have HA := Lib.hid hA
    have HW := Lib.hid hw
    clear hI hP hA n1 n2 n3 n4 n5 hw c0 c1 c2 c3
    go_enter Tryz.func79, Tryz.ntmps79
    go_wp2_with fail
    refine (HA.out _).mono ?_; rintro e w1 ⟨rfl, rfl⟩
    go_wp2_with fail
    go_ret
    exact ⟨ret_int HV.out.symm, HW.out⟩
end Go.Proofs.YtbmdadhbkdkgmaaGreatDoor.A
